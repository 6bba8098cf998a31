/- The document's build: choices. -/
import Derived.Test.YtiekhoehkgmbjaaDoorARefH
namespace Go.Proofs.YtiekhoehkgmbjaaDoor
open Go.RowKit Go.Maps

theorem len_nodes (l : List ExprD) : l.length ≤ nodesL l := by
  induction l with
  | nil => simp
  | cons y r ih => rw [nodesL, List.length_cons]; have : 1 ≤ nodes y := (by cases y; rw [nodes]; omega); omega
theorem bldKids_nil (A : List RSt) (next : Nat) : bldKids [] A next = (A, []) := by rw [bldKids]
theorem bldKids_len : ∀ (ks : List ExprD) (A : List RSt) (next : Nat), (bldKids ks A next).2.length = ks.length := by
  intro ks
  induction ks with
  | nil => intro A next; rw [bldKids]; rfl
  | cons k r ih => intro A next; rw [bldKids]; simp [ih]
/-- A row that one keeps beside the automaton. -/
structure Mine (B n : Nat) (W : World) (tv : Value) (evs : List Value) (v : Value) (l : List Nat) : Prop where
  own : W.ownsRow B 3 1 v l.length (nats l)
  new : ∀ g, v.ownBlock = some g → n ≤ g
  at_ : Apart v tv
  ae : ∀ u ∈ evs, Apart v u
theorem Mine.step {B n : Nat} {W W' : World} {tv tv' v : Value} {evs evs' : List Value} {l : List Nat} (h : Mine B n W tv evs v l) (hf : FrR B tv tv' W W') (he : ∀ u ∈ evs', u ∈ evs ∨ ∀ g, u.ownBlock = some g → W.heap.size ≤ g) : Mine B n W' tv' evs' v l := by
  refine ⟨hf.own h.own h.at_, h.new, hf.apart h.own h.at_, fun u hu g hg e => ?_⟩
  rcases he u hu with h1 | h1
  · exact h.ae u h1 g hg e
  · have h2 := h1 g e
    have h3 := own_lt h.own hg
    omega
theorem evs_lt {B a : Nat} {W : World} {sv tv ev : Value} {A : List RSt} {ss : List ByteArray} {evs : List Value} (h : RW B W a sv tv ev A ss evs) (hl : evs.length = A.length) {u : Value} (hu : u ∈ evs) {g : Nat} (hg : u.ownBlock = some g) : g < W.heap.size := by
  obtain ⟨i, hi, rfl⟩ := List.mem_iff_getElem.1 hu
  exact own_lt (h.el i _ (A[i]'(by omega)) (List.getElem?_eq_getElem hi) (List.getElem?_eq_getElem (by omega))).1 hg
theorem RW.evl {B a : Nat} {W : World} {sv tv ev : Value} {A : List RSt} {ss : List ByteArray} {evs : List Value} (h : RW B W a sv tv ev A ss evs) : evs.length = A.length := by
  have := h.es.1
  omega
/-- The row beside the automaton grows. -/
theorem Mine.app {B a n g c : Nat} {W W' : World} {sv tv ev v : Value} {A : List RSt} {ss : List ByteArray} {evs : List Value} {l : List Nat} {o : Obj} {x : Nat} (h : Mine B n W tv evs v l) (hR : RW B W a sv tv ev A ss evs) (hB : B ≤ W.heap.size) (hn : n ≤ W.heap.size) (hown : W'.ownsRow B 3 1 (.slice (some ⟨g, 0, none⟩) (l.length + 1) c) (l.length + 1) (nats l ++ [.int .i64 (x : Int)])) (hg : (W.alloc o).grownBy W' v.ownBlock) (hat : v.ownBlock = some g ∨ g = W.heap.size + 1) :
    Mine B n W' tv evs (.slice (some ⟨g, 0, none⟩) (l.length + 1) c) (l ++ [x]) ∧ RW B W' a sv tv ev A ss evs ∧ FrR B tv tv W (W.alloc o) := by
  have hli : ∀ g2, (Value.slice (some ⟨g, 0, none⟩) (l.length + 1) c).ownBlock = some g2 → v.ownBlock = some g2 ∨ W.heap.size ≤ g2 := fun g2 e => by
    have e' : g = g2 := Option.some.inj e
    subst e'
    rcases hat with h1 | h1
    · exact .inl h1
    · exact .inr (by omega)
  have eln : (l ++ [x]).length = l.length + 1 := by simp
  have ena : nats (l ++ [x]) = nats l ++ [.int .i64 (x : Int)] := by simp [nats]
  refine ⟨⟨by rw [eln, ena]; exact hown, fun g2 e => ?_, fun g2 e e2 => ?_, fun u hu g2 e e2 => ?_⟩, hR.app (fun g2 e => ?_) h.at_ h.ae hg, (FrR.refl B tv W).alloc hB o⟩
  · rcases hli g2 e with h1 | h1
    · exact h.new g2 h1
    · omega
  · rcases hli g2 e with h1 | h1
    · exact h.at_ g2 h1 e2
    · have := own_lt hR.ts e2
      omega
  · rcases hli g2 e with h1 | h1
    · exact h.ae u hu g2 h1 e2
    · have := evs_lt hR hR.evl hu e2
      omega
  · obtain ⟨_, cs, hc⟩ := own_cells h.own e
    exact ⟨cs, hc⟩
theorem EBox.grow {B z n : Nat} {W W' : World} {op : Int} {s : ByteArray} {v u : Value} {xs : List Value} {o : Obj} (h : EBox W z op s v) (hg : (W.alloc o).grownBy W' u.ownBlock) (hu : W.ownsRow B 3 1 u n xs) : EBox W' z op s v := by
  have hz := (Array.getElem?_eq_some_iff.1 h).1
  refine (hg.block z (by rw [World.size_alloc]; omega) (fun e => ?_)).trans ((Below.heap_alloc W o z hz).trans h)
  obtain ⟨_, cs, hc⟩ := own_cells hu e.symm
  unfold EBox at h
  rw [h] at hc
  cases hc
set_option maxRecDepth 100000 in
set_option maxHeartbeats 4000000 in
theorem build4 {op : Int} {tx : List UInt8} {ks : List ExprD} (h1 : op = 4) (IH : ∀ k ∈ ks, BuildOK k) : BuildOK (.mk op tx ks) := by
  rintro B a sv tv ev A ss evs next w x _ _ _ ⟨⟩ ⟨s, v, rfl, rfl, hs, hk⟩ hR hn hW hsz hB
  subst h1
  have hD : bldD (.mk 4 s.data.toList ks) A next = ((bldKids ks A next).1 ++ [⟨[], 0, (bldKids ks A next).2⟩], (bldKids ks A next).1.length) := by rw [bldD, if_neg (by decide), if_neg (by decide), if_neg (by decide), if_pos rfl]
  rw [hD]
  rw [nodes] at hsz
  have HFIN : Hid (∀ (k : Nat) (sv' tv' ev' : Value) (ss' : List ByteArray) (evs' : List Value) (w' : World), RW B w' a sv' tv' ev' ((bldKids ks A next).1 ++ [⟨[], 0, (bldKids ks A next).2⟩]) ss' evs' → FrR B tv tv' w w' → (∀ v ∈ evs', v ∈ evs ∨ ∀ g, v.ownBlock = some g → w.heap.size ≤ g) → BuildP B a tv evs ((bldKids ks A next).1 ++ [⟨[], 0, (bldKids ks A next).2⟩]) k w (.returned (.int .i64 (k : Int))) w') := fun _ _ _ _ _ _ _ a b c => build_done a b c
  have hb0 := ebox w 4 s v
  have HR1 := hide (hR.alloc (.cells #[.int .i64 4, .string s, v] 24))
  have HFR := hide ((FrR.refl B tv w).alloc hB (.cells #[.int .i64 4, .string s, v] 24))
  have HKW := hide hk
  obtain ⟨p, c, hv⟩ := kids_shape hk
  have hlen : ks.length ≤ 100000000 := by have := len_nodes ks; omega
  subst hv
  obtain ⟨b0, b1, b2⟩ := EBox.cells hb0
  obtain ⟨W1, hW1⟩ : ∃ W1, w.alloc (.cells #[.int .i64 4, .string s, .slice p ks.length c] 24) = W1 := ⟨_, rfl⟩
  rw [hW1] at hb0 HR1 HFR b0 b1 b2
  have HB := hide hb0
  clear hR hk hD hb0
  go_enter Tryd.func40, Tryd.ntmps40
  go_wp2
  go_loopw [8, 9] (fun lv iv wr => ∃ (i : Nat) (sv' tv' ev' : Value) (ss' : List ByteArray) (evs' : List Value), iv = .int .i64 (i : Int) ∧ i ≤ ks.length ∧ RW B wr a sv' tv' ev' (bldKids (ks.take i) A next).1 ss' evs' ∧ Mine B w.heap.size wr tv' evs' lv (bldKids (ks.take i) A next).2 ∧ FrR B tv tv' w wr ∧ EBox wr w.heap.size 4 s (.slice p ks.length c) ∧ (∀ v ∈ evs', v ∈ evs ∨ ∀ g, v.ownBlock = some g → w.heap.size ≤ g)) (fun _ iv _ => ks.length - (intOf iv).toNat)
  case atStart => exact ⟨0, sv, tv, ev, ss, evs, rfl, Nat.zero_le _, by rw [List.take_zero, bldKids_nil]; exact HR1.out, by rw [List.take_zero, bldKids_nil]; exact ⟨⟨rfl, .inl ⟨rfl, rfl⟩⟩, fun g e => (by cases e), fun g e => (by cases e), fun u _ g e => (by cases e)⟩, HFR.out, HB.out, fun v hv => .inl hv⟩
  case round =>
    obtain ⟨i, sv', tv', ev', ss', evs', rfl, hi, hR', hM', hF', hE', hev'⟩ := hrel
    have hBw : B ≤ wr.heap.size := Nat.le_trans hB hF'.bel.size
    obtain ⟨c0, c1, c2⟩ := hE'.cells
    by_cases hlt : i < ks.length
    · have hbs := bldKids_take (ks := ks) (i := i) hlt A next
      have hiI : (i : Int) < (ks.length : Int) := by omega
      rcases HKW.out with ⟨_, e⟩ | ⟨gk, ck, hpe, hck, hkk⟩
      · rw [e] at hlt; simp at hlt
      obtain ⟨rfl, rfl⟩ : p = some gk ∧ c = ck := by cases hpe; exact ⟨rfl, rfl⟩
      obtain ⟨op, t, kv, q, kp, kc, hke, hkv, k0, k1, k2, hval⟩ := kid_val ((hkk i (ks[i]'(by omega)) (List.getElem?_eq_getElem (by omega))).keep hF'.bel)
      subst hkv
      obtain ⟨hW2, hn2, hA1, hA2, _⟩ := bldKids_sz (ks.take i) A next hn hW
      have hnod := nodesL_at (ks := ks) (i := i) (by omega)
      have hih := IH (ks[i]'(by omega)) (List.getElem_mem _) B a sv' tv' ev' _ ss' evs' next wr _ op _ q hke hval hR' (by omega) hW2 (by omega) hBw
      have hll : (bldKids (ks.take i) A next).2.length ≤ 100000000 := by rw [bldKids_len, List.length_take]; omega
      have HBS := hide hbs
      obtain ⟨i3, hi3, z30, z31, z32⟩ := info_parts Tryd.info3
      obtain ⟨l, hlE⟩ : ∃ l, (bldKids (ks.take i) A next).2 = l := ⟨_, rfl⟩
      obtain ⟨x, hxE⟩ : ∃ x, (bldD (ks[i]'(by omega)) (bldKids (ks.take i) A next).1 next).2 = x := ⟨_, rfl⟩
      rw [hlE] at hM' hll
      rw [hxE] at hih
      have HLE := hide hlE
      have HXE := hide hxE
      have HF2 := hide hF'
      have HE2 := hide hE'
      have HEV := hide hev'
      have HM := hide hM'
      clear hR' hF' hE' hev' hval hW2 hn2 hA1 hA2 hnod hbs hke hpe hlE hxE hM'
      obtain ⟨la, lc, rfl, _⟩ := own_shape HM.out.own
      go_wp2_with first
        | (go_at_call 40; refine hih.mono ?_; rintro e w2 ⟨rfl, sv2, tv2, ev2, ss2, evs2, hR2, hF2, hev2⟩; have hM2 := HM.out.step hF2 hev2; have hB2 := Nat.le_trans hBw hF2.bel.size; have hown2 := hM2.own)
        | (at_builtin; refine wpList_append_lies _ rfl (.tmp 63) (.tmp 65) 54 rfl B 3 i3 _ 1 8 Tryd.underlying54' hi3 z30 z31 z32 rfl (by decide) _ l.length (nats l) rfl (hown2.alloc _) ⟨w2.heap.size, 0, none⟩ 1 1 [.int .i64 (x : Int)] rfl rfl (cell_one_new _ _ _) (by simp [Value.oneCell']) (by decide) (by unfold maxLen; omega) (by omega) (by simp; omega) _ rfl ?_; intro g3 k3 w3 hown3 hg3 hat3 _)
      obtain ⟨hM3, hR3, hF3⟩ := hM2.app hR2 hB2 (Nat.le_trans HF2.out.bel.size hF2.bel.size) hown3 hg3 (by rw [World.size_alloc] at hat3; exact hat3)
      have hF4 : FrR B tv tv2 w w3 := (HF2.out.trans hF2).app hB hg3 hM2.new
      have hE4 : EBox w3 w.heap.size 4 s (.slice (some gk) ks.length c) := ((HE2.out).fr hF2).grow hg3 hM2.own
      go_roundw
      case rel =>
        refine ⟨i + 1, sv2, tv2, ev2, ss2, evs2, by simp, by omega, ?_, ?_, hF4, hE4, evs_trans HEV.out hev2 HF2.out.bel.size⟩
        · rw [HBS.out]; exact hR3
        · rw [HBS.out, HLE.out, HXE.out]; exact hM3
      case measure => simp [intOf]; omega
    · have hie : i = ks.length := by omega
      subst hie
      have hiI : ¬ ((ks.length : Int) < (ks.length : Int)) := by omega
      rw [List.take_length] at hR' hM'
      obtain ⟨_, _, hA1, hA2, _⟩ := bldKids_sz ks A next hn hW
      have hst := state_any B a sv' tv' ev' _ ss' evs' ⟨#[]⟩ 0 _ _ wr hR' hM'.own hM'.at_ (by decide) (by omega) hBw
      have HF2 := hide hF'
      have HEV := hide hev'
      have HNEW := hide hM'.new
      obtain ⟨la, lc, rfl, _⟩ := own_shape hM'.own
      clear hR' hM' hF' hev' hE' hA1 hA2
      go_wp2_with (go_at_call 39; refine hst.mono ?_; rintro e w2 ⟨rfl, sv2, tv2, ev2, hR2, hF2⟩)
      go_ret
      refine HFIN.out _ _ _ _ _ _ _ hR2 (HF2.out.trans hF2) (fun u hu => ?_)
      rcases List.mem_append.1 hu with hu | hu
      · exact HEV.out u hu
      · rw [List.mem_singleton] at hu
        subst hu
        exact .inr HNEW.out
end Go.Proofs.YtiekhoehkgmbjaaDoor
