/- The document's build: repeated. -/
import Derived.Test.YtiekhoehkgmbjaaDoorARefI
namespace Go.Proofs.YtiekhoehkgmbjaaDoor
open Go.RowKit Go.Maps

theorem own_one (W : World) (B : Nat) (hB : B ≤ W.heap.size) (x : Value) (t : TypeId) : (W.alloc (.cells #[x] t)).ownsRow B t 1 (.slice (some ⟨W.heap.size, 0, none⟩) 1 1) 1 [x] :=
  ⟨rfl, .inr ⟨W.heap.size, 1, #[x], rfl, hB, World.alloc_heap_new W _, Nat.le_refl _, by decide, rfl, rfl⟩⟩
theorem Mine.one {B a n : Nat} {W : World} {sv tv ev : Value} {A : List RSt} {ss : List ByteArray} {evs : List Value} (hR : RW B W a sv tv ev A ss evs) (hB : B ≤ W.heap.size) (hn : n ≤ W.heap.size) (x : Nat) : Mine B n (W.alloc (.cells #[.int .i64 (x : Int)] 3)) tv evs (.slice (some ⟨W.heap.size, 0, none⟩) 1 1) [x] := by
  refine ⟨own_one W B hB _ 3, fun g e => ?_, fun g e e2 => ?_, fun u hu g e e2 => ?_⟩
  · have e' : W.heap.size = g := Option.some.inj e
    omega
  · have e' : W.heap.size = g := Option.some.inj e
    have := own_lt hR.ts e2
    omega
  · have e' : W.heap.size = g := Option.some.inj e
    have := evs_lt hR hR.evl hu e2
    omega
theorem map_set_same {β : Type} (f : RSt → β) (A : List RSt) (s : Nat) (st st' : RSt) (h : A[s]? = some st) (hf : f st = f st') : (A.set s st').map f = A.map f := by
  apply List.ext_getElem?
  intro i
  rw [List.getElem?_map, List.getElem?_map, List.getElem?_set]
  split
  · rename_i e
    subst e
    split
    · rw [h]; simp [hf]
    · rename_i h2
      have := (List.getElem?_eq_some_iff.1 h).1
      omega
  · rfl
theorem RW.eps {B a n ge c s : Nat} {W : World} {sv tv v : Value} {m : Nat} {A : List RSt} {ss : List ByteArray} {evs : List Value} {l : List Nat} (h : RW B W a sv tv (.slice (some ⟨ge, 0, none⟩) m c) A ss evs) (hM : Mine B n W tv evs v l) (hs : A[s]? = some ⟨[], 0, []⟩) :
    RW B (W.setCell ⟨ge, s, none⟩ v) a sv tv (.slice (some ⟨ge, 0, none⟩) m c) (A.set s ⟨[], 0, l⟩) ss (evs.set s v) ∧ FrR B tv tv W (W.setCell ⟨ge, s, none⟩ v) := by
  obtain ⟨hgB, cur, hge⟩ := own_cells h.es (g := ge) rfl
  have hset := set_grown W ge s v
  have key : ∀ (k : Nat) (cs : Array Value) (t : TypeId) (fr : Nat × Nat), W.heap[k]? = some (.cells cs t fr) → t ≠ 54 → (W.setCell ⟨ge, s, none⟩ v).heap[k]? = some (.cells cs t fr) := fun k cs t fr hk ht =>
    (hset.block k (Array.getElem?_eq_some_iff.1 hk).1 (fun e => by
      have e' : k = ge := Option.some.inj e
      subst e'
      rw [hk] at hge; cases hge; exact ht rfl)).trans hk
  refine ⟨⟨key a _ 103 _ h.box (by decide), h.aB, ?_, ?_, h.hsz, ?_, ?_, fun i u st hu hst => ?_⟩, ⟨⟨hset.os, hset.tape, hset.output, hset.size, fun k hk => hset.block k (Nat.lt_of_lt_of_le hk (Nat.le_trans hgB (Nat.le_of_lt (Array.getElem?_eq_some_iff.1 hge).1))) (fun e => by have e' : k = ge := Option.some.inj e; omega)⟩, .inl rfl, fun k cs fr hk _ => key k cs 3 fr hk (by decide), fun k cs t fr hk _ _ _ h4 => key k cs t fr hk h4⟩⟩
  · rw [List.length_set]; exact row_keep h.sr (fun k c hk _ => key k c 9 _ hk (by decide))
  · rw [h.hss]; exact (map_set_same (fun st => st.set) A s _ ⟨[], 0, l⟩ hs rfl).symm
  · rw [List.length_set, map_set_same (fun st => st.to) A s _ ⟨[], 0, l⟩ hs rfl]
    exact row_keep h.ts (fun k c hk _ => key k c 3 _ hk (by decide))
  · rw [List.length_set]; exact own_set98 h.es v
  · rw [List.getElem?_set] at hu hst
    by_cases hi : s = i
    · rw [if_pos hi] at hu hst
      split at hu
      · split at hst
        · cases hu; cases hst
          exact ⟨row_keep hM.own (fun k c hk _ => key k c 3 _ hk (by decide)), hM.at_⟩
        · cases hst
      · cases hu
    · rw [if_neg hi] at hu hst
      exact ⟨row_keep (h.el i u st hu hst).1 (fun k c hk _ => key k c 3 _ hk (by decide)), (h.el i u st hu hst).2⟩
theorem EBox.fr2 {B : Nat} {tv tv' : Value} {W W' : World} {z : Nat} {op : Int} {s : ByteArray} {v : Value} (h : W.heap[z]? = some (.cells #[.int .i64 op, .string s, v] 24 (0, 0))) (hf : FrR B tv tv' W W') (o : Obj) : EBox (W'.alloc o) z op s v := by
  have h2 := EBox.fr h hf
  exact (Below.heap_alloc W' o z (Array.getElem?_eq_some_iff.1 h2).1).trans h2
theorem evs_set {evs evs' : List Value} {n s : Nat} {v : Value} (h : ∀ u ∈ evs', u ∈ evs ∨ ∀ g, u.ownBlock = some g → n ≤ g) (hv : ∀ g, v.ownBlock = some g → n ≤ g) : ∀ u ∈ evs'.set s v, u ∈ evs ∨ ∀ g, u.ownBlock = some g → n ≤ g := fun u hu => by
  rcases List.mem_or_eq_of_mem_set hu with h1 | h1
  · exact h u h1
  · subst h1; exact .inr hv
set_option maxRecDepth 100000 in
set_option maxHeartbeats 4000000 in
theorem build5 {op : Int} {tx : List UInt8} {ks : List ExprD} (h1 : op = 5) (IH : ∀ k ∈ ks, BuildOK k) : BuildOK (.mk op tx ks) := by
  rintro B a sv tv ev A ss evs next w x _ _ _ ⟨⟩ ⟨s, v, rfl, rfl, hs, hk⟩ hR hn hW hsz hB
  subst h1
  have hD : bldD (.mk 5 s.data.toList ks) A next = ((bldKids ks (A ++ [⟨[], 0, []⟩]) A.length).1.set A.length ⟨[], 0, next :: (bldKids ks (A ++ [⟨[], 0, []⟩]) A.length).2⟩, A.length) := by rw [bldD, if_neg (by decide), if_neg (by decide), if_neg (by decide), if_neg (by decide), if_pos rfl]
  rw [hD]
  rw [nodes] at hsz
  have hA0 : (bldKids ks (A ++ [⟨[], 0, []⟩]) A.length).1[A.length]? = some ⟨[], 0, []⟩ := by
    have h2 := (bldKids_ok ks (A ++ [(⟨[], 0, []⟩ : RSt)]) A.length (by simp)).laid.keep A.length (by simp)
    exact h2.trans (getElem?_snoc A _)
  have HA0 := hide hA0
  have hW0 : Wf (A ++ [⟨[], 0, []⟩]) := wf_snoc hW _ (by simp) (fun y hy => by cases hy)
  have HFIN : Hid (∀ (sv' tv' ev' : Value) (ss' : List ByteArray) (evs' : List Value) (w' : World), RW B w' a sv' tv' ev' ((bldKids ks (A ++ [⟨[], 0, []⟩]) A.length).1.set A.length ⟨[], 0, next :: (bldKids ks (A ++ [⟨[], 0, []⟩]) A.length).2⟩) ss' evs' → FrR B tv tv' w w' → (∀ v ∈ evs', v ∈ evs ∨ ∀ g, v.ownBlock = some g → w.heap.size ≤ g) → BuildP B a tv evs ((bldKids ks (A ++ [⟨[], 0, []⟩]) A.length).1.set A.length ⟨[], 0, next :: (bldKids ks (A ++ [⟨[], 0, []⟩]) A.length).2⟩) A.length w (.returned (.int .i64 (A.length : Int))) w') := fun _ _ _ _ _ _ a b c => build_done a b c
  have hb0 := ebox w 5 s v
  have hR1 := hR.alloc (.cells #[.int .i64 5, .string s, v] 24)
  have HFR := hide ((FrR.refl B tv w).alloc hB (.cells #[.int .i64 5, .string s, v] 24))
  have HKW := hide hk
  obtain ⟨p, c, hv⟩ := kids_shape hk
  have hlen : ks.length ≤ 100000000 := by have := len_nodes ks; omega
  subst hv
  obtain ⟨b0, b1, b2⟩ := EBox.cells hb0
  have hsz1 : w.heap.size ≤ (w.alloc (.cells #[.int .i64 5, .string s, .slice p ks.length c] 24)).heap.size := by rw [World.size_alloc]; omega
  obtain ⟨W1, hW1⟩ : ∃ W1, w.alloc (.cells #[.int .i64 5, .string s, .slice p ks.length c] 24) = W1 := ⟨_, rfl⟩
  rw [hW1] at hb0 hR1 HFR b0 b1 b2 hsz1
  have HB := hide hb0
  have hst := state_any B a sv tv ev A ss evs ⟨#[]⟩ 0 (.slice none 0 0) [] W1 hR1 (nil_own _ _) (fun g e => by cases e) (by decide) (by omega) (Nat.le_trans hB hsz1)
  have hA0l : (A ++ [(⟨[], 0, []⟩ : RSt)]).length = A.length + 1 := by simp
  have hst2 : Calls Tryd.prog 39 #[.pointer (some ⟨a, 0, none⟩), .string ⟨#[]⟩, .int .i64 ((0 : Nat) : Int), .slice none 0 0] W1 fun e w' => e = .returned (.int .i64 (A.length : Int)) ∧ ∃ sv' tv' ev', RW B w' a sv' tv' ev' (A ++ [(⟨[], 0, []⟩ : RSt)]) (ss ++ [⟨#[]⟩]) (evs ++ [.slice none 0 0]) ∧ FrR B tv tv' W1 w' := hst
  obtain ⟨A0, hA0E⟩ : ∃ A0, A ++ [(⟨[], 0, []⟩ : RSt)] = A0 := ⟨_, rfl⟩
  rw [hA0E] at HA0 HFIN hW0 hst2 hA0l ⊢
  have HL0 := hide hA0l
  clear hR hk hD hb0 hR1 hA0 hst hA0E hA0l
  go_enter Tryd.func40, Tryd.ntmps40
  go_wp2_with (go_at_call 39; refine hst2.mono ?_; rintro e w2 ⟨rfl, sv2, tv2, ev2, hR2, hF2⟩)
  have HR2 := hide (hR2.alloc (.cells #[.int .i64 (next : Int)] 3))
  have hB2 : B ≤ w2.heap.size := Nat.le_trans hB (Nat.le_trans hsz1 hF2.bel.size)
  have HM2 := hide (Mine.one (n := w.heap.size) hR2 hB2 (Nat.le_trans hsz1 hF2.bel.size) next)
  have HF2 := hide ((HFR.out.trans hF2).alloc hB (.cells #[.int .i64 (next : Int)] 3))
  have HB2 := hide (EBox.fr2 HB.out hF2 (.cells #[.int .i64 (next : Int)] 3))
  have HEV2 := hide (evs_nil evs w.heap.size)
  clear hR2 hF2 hW1 b0 b1 b2
  go_loopw [12, 13] (fun lv iv wr => ∃ (i : Nat) (sv' tv' ev' : Value) (ss' : List ByteArray) (evs' : List Value), iv = .int .i64 (i : Int) ∧ i ≤ ks.length ∧ RW B wr a sv' tv' ev' (bldKids (ks.take i) A0 A.length).1 ss' evs' ∧ Mine B w.heap.size wr tv' evs' lv (next :: (bldKids (ks.take i) A0 A.length).2) ∧ FrR B tv tv' w wr ∧ EBox wr w.heap.size 5 s (.slice p ks.length c) ∧ (∀ v ∈ evs', v ∈ evs ∨ ∀ g, v.ownBlock = some g → w.heap.size ≤ g)) (fun _ iv _ => ks.length - (intOf iv).toNat)
  case atStart => exact ⟨0, sv2, tv2, ev2, _, _, rfl, Nat.zero_le _, by rw [List.take_zero, bldKids_nil]; exact HR2.out, by rw [List.take_zero, bldKids_nil]; exact HM2.out, HF2.out, HB2.out, HEV2.out⟩
  case round =>
    obtain ⟨i, sv', tv', ev', ss', evs', rfl, hi, hR', hM', hF', hE', hev'⟩ := hrel
    have hBw : B ≤ wr.heap.size := Nat.le_trans hB hF'.bel.size
    obtain ⟨c0, c1, c2⟩ := hE'.cells
    have hA0l := HL0.out
    by_cases hlt : i < ks.length
    · have hbs := bldKids_take (ks := ks) (i := i) hlt A0 A.length
      have hiI : (i : Int) < (ks.length : Int) := by omega
      rcases HKW.out with ⟨_, e⟩ | ⟨gk, ck, hpe, hck, hkk⟩
      · rw [e] at hlt; simp at hlt
      obtain ⟨rfl, rfl⟩ : p = some gk ∧ c = ck := by cases hpe; exact ⟨rfl, rfl⟩
      obtain ⟨op, t, kv, q, kp, kc, hke, hkv, k0, k1, k2, hval⟩ := kid_val ((hkk i (ks[i]'(by omega)) (List.getElem?_eq_getElem (by omega))).keep hF'.bel)
      subst hkv
      obtain ⟨hWk, hnk, hA1, hA2, _⟩ := bldKids_sz (ks.take i) A0 A.length (by omega) hW0
      have hnod := nodesL_at (ks := ks) (i := i) (by omega)
      have hih := IH (ks[i]'(by omega)) (List.getElem_mem _) B a sv' tv' ev' _ ss' evs' A.length wr _ op _ q hke hval hR' (by omega) hWk (by omega) hBw
      have hll : (next :: (bldKids (ks.take i) A0 A.length).2).length ≤ 100000001 := by rw [List.length_cons, bldKids_len, List.length_take]; omega
      have HBS := hide hbs
      obtain ⟨i3, hi3, z30, z31, z32⟩ := info_parts Tryd.info3
      obtain ⟨l, hlE⟩ : ∃ l, next :: (bldKids (ks.take i) A0 A.length).2 = l := ⟨_, rfl⟩
      obtain ⟨x, hxE⟩ : ∃ x, (bldD (ks[i]'(by omega)) (bldKids (ks.take i) A0 A.length).1 A.length).2 = x := ⟨_, rfl⟩
      rw [hlE] at hM' hll
      rw [hxE] at hih
      have HLE := hide hlE
      have HXE := hide hxE
      have HF3 := hide hF'
      have HE3 := hide hE'
      have HEV := hide hev'
      have HM := hide hM'
      clear hR' hF' hE' hev' hval hWk hnk hA1 hA2 hnod hbs hke hpe hlE hxE hM' hA0l
      obtain ⟨la, lc, rfl, _⟩ := own_shape HM.out.own
      go_wp2_with first
        | (go_at_call 40; refine hih.mono ?_; rintro e w4 ⟨rfl, sv4, tv4, ev4, ss4, evs4, hR4, hF4, hev4⟩; have hM4 := HM.out.step hF4 hev4; have hB4 := Nat.le_trans hBw hF4.bel.size; have hown4 := hM4.own)
        | (at_builtin; refine wpList_append_lies _ rfl (.tmp 91) (.tmp 93) 54 rfl B 3 i3 _ 1 8 Tryd.underlying54' hi3 z30 z31 z32 rfl (by decide) _ l.length (nats l) rfl (hown4.alloc _) ⟨w4.heap.size, 0, none⟩ 1 1 [.int .i64 (x : Int)] rfl rfl (cell_one_new _ _ _) (by simp [Value.oneCell']) (by decide) (by unfold maxLen; omega) (by omega) (by simp; omega) _ rfl ?_; intro g5 k5 w5 hown5 hg5 hat5 _)
      obtain ⟨hM5, hR5, _⟩ := hM4.app hR4 hB4 (Nat.le_trans HF3.out.bel.size hF4.bel.size) hown5 hg5 (by rw [World.size_alloc] at hat5; exact hat5)
      have hF5 : FrR B tv tv4 w w5 := (HF3.out.trans hF4).app hB hg5 hM4.new
      have hE5 : EBox w5 w.heap.size 5 s (.slice (some gk) ks.length c) := ((HE3.out).fr hF4).grow hg5 hM4.own
      go_roundw
      case rel =>
        refine ⟨i + 1, sv4, tv4, ev4, ss4, evs4, by simp, by omega, ?_, ?_, hF5, hE5, evs_trans HEV.out hev4 HF3.out.bel.size⟩
        · rw [HBS.out]; exact hR5
        · rw [HBS.out, HXE.out, ← List.cons_append, HLE.out]; exact hM5
      case measure => simp [intOf]; omega
    · have hie : i = ks.length := by omega
      subst hie
      have hiI : ¬ ((ks.length : Int) < (ks.length : Int)) := by omega
      rw [List.take_length] at hR' hM'
      obtain ⟨_, _, hA1, hA2, _⟩ := bldKids_sz ks A0 A.length (by omega) hW0
      obtain ⟨A1, hA1E⟩ : ∃ A1, (bldKids ks A0 A.length).1 = A1 := ⟨_, rfl⟩
      rw [hA1E] at hR' hA1 hA2 HFIN HA0
      have hlt1 : A.length < A1.length := by omega
      have hltI : (A.length : Int) < (A1.length : Int) := by omega
      obtain ⟨_, _, r2, rf⟩ := hR'.box.cells
      have rf2 := rf 2
      rcases hR'.es.2 with ⟨_, e⟩ | ⟨ge, ce, cur, rfl, hgeB, hge, hcc, hcm, hcs, hct⟩
      · omega
      have hfz : ∀ j, wr.frozen? ⟨ge, j, none⟩ = false := fun j => by simp [World.frozen?, hge]
      obtain ⟨uu, hcell⟩ : ∃ u, wr.cell? ⟨ge, A.length, none⟩ = some u := ⟨cur[A.length]'(by omega), by simp [World.cell?, hge]⟩
      have hfz1 := hfz A.length
      obtain ⟨hR6, hF6⟩ := hR'.eps hM' HA0.out
      have HG := hide (HFIN.out _ _ _ _ _ _ hR6 (hF'.trans hF6) (evs_set hev' hM'.new))
      obtain ⟨la, lc, rfl, _⟩ := own_shape hM'.own
      have HA1E := hide hA1E
      clear hR' hM' hF' hev' hE' hA1 hA2 hR6 hF6 hA1E rf hfz hA0l hcs hct hge
      go_wp2
      go_ret
      have h := HG.out
      rw [← HA1E.out] at h
      exact h
end Go.Proofs.YtiekhoehkgmbjaaDoor
