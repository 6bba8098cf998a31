/- Walk: the Kids of a node are gone to. -/
import Derived.Test.YtfemboojdablhaaGreatDoorWkJ
import Derived.StillTailTactics
namespace Go.Proofs.YtfemboojdablhaaGreatDoor.Tre
open Go.RowKit Go.Shelf
variable {L : List NodeD} {c : Cf} {gone nn : Nat} {out : List UInt8} {ab : List Bool} {pv bv tv : Value} {W W' : World}

/-- 'above' is written. -/
theorem WSt.setab (h : WSt L c gone out ab pv bv tv nn W) {k : Nat} {x : Bool} : WSt L c gone out (ab.set k x) pv bv tv nn (W.setCell ⟨c.ga, k, none⟩ (.bool x)) ∧ TurnC (DS c bv tv) (DS c bv tv) W (W.setCell ⟨c.ga, k, none⟩ (.bool x)) := by
  obtain ⟨ts, ht⟩ := h.nts
  have hba : c.b ≠ c.ga := fun e => ty_ne (k := c.b) h.blk (e.symm ▸ h.abv) (by decide)
  have hbm : c.gm ≠ c.ga := fun e => h.ngm (.inr (.inl e))
  have hbb : ∀ k, bv.ownBlock = some k → k ≠ c.ga := fun k hk e => own_ne h.buf h.abv (by decide) (e ▸ hk)
  have hbt : ∀ k, tv.ownBlock = some k → k ≠ c.ga := fun k hk e => own_ne ht h.abv (by decide) (e ▸ hk)
  refine ⟨⟨(wset_other hba).trans h.blk, h.pvs, wown_keep h.buf (fun k hk => wset_other (hbb k hk)), h.emp, ⟨ts, wown_keep ht (fun k hk => wset_other (hbt k hk))⟩, (wset_other hbm).trans h.mea, ?_, by rw [List.length_set]; exact h.abl, h.row.below ((Below.refl c.B W).setCell (p := ⟨c.ga, k, none⟩) h.gB _), h.bB, h.gB⟩, TurnC.setCell _ _ _ (.inr (.inl rfl))⟩
  rw [wset_block h.abv]
  congr 2
  apply Array.ext'
  simp [List.map_set]
theorem set_back {ab : List Bool} {k : Nat} (h : ab[k]? = some false) : (ab.set k true).set k false = ab := by
  rw [List.set_set]
  obtain ⟨h1, h2⟩ := List.getElem?_eq_some_iff.1 h
  rw [← h2]
  exact List.set_getElem_self h1
/-- What is gone to below the first Kids. -/
def kidsX (L : List NodeD) (deep : Bool) (mx : Int) (f : Nat) (p : ByteArray) (d : Int) (ks : List Nat) : List Vis := ks.flatMap (fun i => visG L deep mx f i (jn p (nameAt L i)) (d + 1))
theorem kidsX_next {deep : Bool} {mx : Int} {f : Nat} {p : ByteArray} {d : Int} {ks : List Nat} {j i : Nat} (h : ks[j]? = some i) : kidsX L deep mx f p d (ks.take (j + 1)) = kidsX L deep mx f p d (ks.take j) ++ visG L deep mx f i (jn p (nameAt L i)) (d + 1) := by
  unfold kidsX
  rw [List.take_add_one, h, List.flatMap_append]
  simp
theorem kidsX_le {deep : Bool} {mx : Int} {f : Nat} {p : ByteArray} {d : Int} {ks : List Nat} {j : Nat} : (kidsX L deep mx f p d (ks.take j)).length ≤ (kidsX L deep mx f p d ks).length := by
  conv => rhs; rw [← List.take_append_drop j ks]
  unfold kidsX
  rw [List.flatMap_append, List.length_append]
  omega
theorem jn_size (a b : ByteArray) : (jn a b).size ≤ a.size + b.size + 1 := joinS_size a b
theorem jn_pos {a b : ByteArray} (h : 0 < a.size) : 0 < (jn a b).size := by
  unfold jn
  split <;> simp only [ByteArray.size_append] <;> omega
theorem name_le {K : List ByteArray} (h : KInv L K) {i : Nat} {m : NodeD} (hm : L[i]? = some m) (h0 : 0 < i) : m.name.size ≤ 60 := by
  obtain ⟨way, a, h1, h2, h3, _⟩ := h.node i m hm h0
  rw [h3]
  have hmem : lastL (splitL 47 way.data.toList) ∈ splitL 47 way.data.toList := by
    rcases snoc_cases (splitL 47 way.data.toList) with e | ⟨q, x, e⟩
    · exact absurd e (split_ne _ _)
    · rw [e]; simp [lastL]
  have := List.all_eq_true.1 h2 (lastS way) (List.mem_map.2 ⟨_, hmem, rfl⟩)
  unfold nameOk at this
  simp only [Bool.and_eq_true, decide_eq_true_eq] at this
  exact this.1.1.1.2

set_option maxRecDepth 100000 in
set_option maxHeartbeats 8000000 in
theorem kids_any {K : List ByteArray} {test : Nat → Bool} {J : (Nat → Prop) → (Nat → Prop) → World → Prop} (hA : Asks L c test J) (hK : KInv L K) (f : Nat) (hG : GoC L c test J f) : KidsC L c test J f := by
  intro vb k p d n kv s t gone nn out ab pv bv tv E w h hv hE hat hint hgo hf
  have hkl : k < L.length := (List.getElem?_eq_some_iff.1 hat.n).1
  have hkI : (k : Int) < (L.length : Int) := by omega
  have hL := hK.lim
  have hX : belowG L c.deep c.mx f n p d = kidsX L c.deep c.mx f p d n.kids := by unfold belowG kidsX; rw [if_pos hgo]
  have hkid : ∀ i ∈ n.kids, k < i ∧ ∃ m, L[i]? = some m := by
    intro i hi
    obtain ⟨h0, m, hm, hu⟩ := (hK.kids k n hat.n i).1 hi
    obtain ⟨_, a2, _, _, _, q4, q5, _⟩ := hK.node i m hm h0
    exact ⟨by omega, m, hm⟩
  obtain ⟨ka, kc, rfl, hkc⟩ : ∃ ka kc, kv = .slice ka n.kids.length kc ∧ (∀ (j i : Nat), n.kids[j]? = some i → ∃ g2, ka = some ⟨g2, 0, none⟩ ∧ g2 < c.B ∧ n.kids.length ≤ kc ∧ w.cell? ⟨g2, j, none⟩ = some (.int .i64 (i : Int))) := by
    rcases hint with ⟨e, hk⟩ | ⟨g2, cap2, e, h1, h2, h3⟩
    · exact ⟨none, 0, by rw [e, hk]; rfl, fun j i hj => by rw [hk] at hj; cases hj⟩
    · exact ⟨_, _, e, fun j i hj => ⟨g2, rfl, h1, h2, h3 j i hj⟩⟩
  have hks : n.kids.length ≤ 201 := Nat.le_trans (hK.klen k n hat.n) hL
  obtain ⟨hS0, hT0⟩ := h.st.setab (k := k) (x := true)
  obtain ⟨W1, hW1⟩ : ∃ W1, (w.setCell ⟨c.ga, k, none⟩ (.bool true)).drew = W1 := ⟨_, rfl⟩
  have hS1 : WSt L c gone out (ab.set k true) pv bv tv nn W1 := by rw [← hW1]; exact hS0.below (Below.refl _ _).drew
  have hTa : TurnC (DS c bv tv) (DS c bv tv) w W1 := by rw [← hW1]; exact hT0.trans (TurnC.of_below (Below.refl _ _).drew)
  have hj1 := hA.stab _ _ _ _ _ h.j hTa
  have hv1 : VisB W1 vb p d k n (.slice ka n.kids.length kc) := hv.turn hTa (hv.nD h.st)
  have c0 : w.drew.cell? ⟨c.b, 9, none⟩ = some (.slice (some ⟨c.ga, 0, none⟩) L.length L.length) := h.st.blk.cell 9
  have c1 : w.drew.cell? ⟨vb, 2, none⟩ = some (.int .i64 (k : Int)) := hv.cell 2
  have c2 : w.drew.cell? ⟨c.ga, k, none⟩ = some (.bool false) := h.st.abc (h.abf k (Nat.le_refl _) hkl)
  have c3 : w.drew.frozen? ⟨c.ga, k, none⟩ = false := Lib.frozen_of_heap h.st.abv k
  have d0 : W1.cell? ⟨vb, 9, none⟩ = some (.slice ka n.kids.length kc) := hv1.cell 9
  have HW1 := hide hW1
  have HP := hide (⟨h, hv, hE, hat, hf, hX, hkid, hkc⟩ : _ ∧ _ ∧ _ ∧ _ ∧ _ ∧ _ ∧ _ ∧ _)
  have H1 := hide (⟨hS1, hTa, hj1, hv1⟩ : _ ∧ _ ∧ _ ∧ _)
  clear h hv hE hat hint hgo hf hX hkid hkc hS1 hS0 hT0 hTa hj1 hv1 hW1
  go_enter Tryz.func121, Tryz.ntmps121
  go_wp2
  refine (fun (KEY : (?G : World → Prop) W1) => ?main) ?key
  case main =>
    go_region
    all_goals (rw [HW1.out]; exact KEY)
  case key =>
    go_wp2
    go_loopw [21] (fun iv wr => ∃ (j : Nat) (pv' bv' tv' : Value) (nn' : Nat) (E' : Nat → Prop), iv = .int .i64 (j : Int) ∧ j ≤ n.kids.length ∧ GoH L c J s t 0 (k + 1) (gone + (kidsX L c.deep c.mx f p d (n.kids.take j)).length) nn' (out ++ outW c.mn test (kidsX L c.deep c.mx f p d (n.kids.take j))) (ab.set k true) pv' bv' tv' E' wr ∧ TurnE (DS c bv tv) E (DS c bv' tv') E' W1 wr)
      (fun iv _ => n.kids.length - (intOf iv).toNat)
    case atStart =>
      obtain ⟨hS1, hTa, hj1, hv1⟩ := H1.out
      obtain ⟨h, hv, hE, hat, hf, hX, hkid, hkc⟩ := HP.out
      refine ⟨0, pv, bv, tv, nn, E, rfl, Nat.zero_le _, ⟨by simpa [kidsX, outW, outL] using hS1, hj1, by simpa [kidsX, outW, outL] using h.ol, by simpa [kidsX] using h.nl, by have := h.bud; simp [kidsX]; omega, fun i hi hl => ?_⟩, TurnC.refl _ _⟩
      rw [List.getElem?_set_ne (by omega)]
      exact h.abf i (by omega) hl
    case round =>
      obtain ⟨j, pv', bv', tv', nn', E', rfl, hj, hg, hT⟩ := hrel
      obtain ⟨h, hv, hE, hat, hf, hX, hkid, hkc⟩ := HP.out
      obtain ⟨hS1, hTa, hj1, hv1⟩ := H1.out
      have hlow : Below c.B W1 wr := turnE_low hA hS1 hj1 hT
      have hlow0 : Below c.B w W1 := turn_low hTa (fun k hk => (h.st.lts k hk).1) h.st.Bl
      have hvr : VisB wr vb p d k n (.slice ka n.kids.length kc) := hv1.turn hT (nDE (hv1.nD hS1) hE)
      have hEr : ¬ E' vb := nE_turn hT hv1.lt (hv1.nD hS1) hE
      by_cases hlt : j < n.kids.length
      · obtain ⟨i, hi⟩ : ∃ i, n.kids[j]? = some i := ⟨_, List.getElem?_eq_getElem hlt⟩
        obtain ⟨hki, m, hm⟩ := hkid i (List.mem_of_getElem? hi)
        obtain ⟨g2, rfl, hg2, hkc2, hcell⟩ := hkc j i hi
        have hil : i < L.length := (List.getElem?_eq_some_iff.1 hm).1
        have hjI : (j : Int) < (n.kids.length : Int) := by omega
        have hiI : (i : Int) < (L.length : Int) := by omega
        have b1 : decide ((0 : Int) ≤ (i : Int)) = true := by rw [decide_eq_true_eq]; omega
        have b2 : decide ((i : Int) < (L.length : Int)) = true := by rw [decide_eq_true_eq]; omega
        have b3 : decide ((j : Int) < (n.kids.length : Int)) = true := by rw [decide_eq_true_eq]; omega
        have c0 : wr.cell? ⟨g2, j, none⟩ = some (.int .i64 (i : Int)) := (hlow.cell (p := ⟨g2, j, none⟩) hg2).trans ((hlow0.cell (p := ⟨g2, j, none⟩) hg2).trans hcell)
        have c1 : wr.cell? ⟨c.b, 0, none⟩ = some (.slice (some ⟨c.g, 0, none⟩) L.length c.cap) := hg.st.blk.cell 0
        have c2 : wr.drew.cell? ⟨c.b, 0, none⟩ = some (.slice (some ⟨c.g, 0, none⟩) L.length c.cap) := hg.st.blk.cell 0
        have c3 : wr.drew.cell? ⟨vb, 0, none⟩ = some (.string p) := hvr.cell 0
        have c4 : wr.drew.cell? ⟨vb, 1, none⟩ = some (.int .i64 d) := hvr.cell 1
        obtain ⟨kv2, ⟨_, m1, _⟩, _⟩ := hg.st.node hm
        have c5 : wr.drew.cell? ⟨c.g, i * 7 + 1, none⟩ = some (.string m.name) := m1
        have hnm := name_le hK hm (by omega)
        have hpz := hat.pd
        have hdk := hat.dk
        have hd0 := hat.d0
        have HJ : ∀ w', Hid (Calls Tryz.prog 90 #[.string p, .string m.name] w' fun e w'' => e = .returned (.string (jn p m.name)) ∧ w'' = w') := fun w' => join_any p m.name w' (by omega) (by omega)
        have hnx := kidsX_next (L := L) (deep := c.deep) (mx := c.mx) (f := f) (p := p) (d := d) hi
        rw [nameAt_of hm] at hnx
        have hle := kidsX_le (L := L) (deep := c.deep) (mx := c.mx) (f := f) (p := p) (d := d) (ks := n.kids) (j := j + 1)
        have hb := h.bud
        rw [hX] at hb
        rw [hnx, List.length_append] at hle
        have hjs := jn_size p m.name
        have HGO := hide (hG i (jn p m.name) (d + 1) m s t _ nn' _ (ab.set k true) pv' bv' tv' E' wr.drew ⟨hg.st.below (Below.refl _ _).drew, hA.stab _ _ _ _ _ hg.j (TurnC.of_below (Below.refl _ _).drew), hg.ol, hg.nl, by omega, fun x hx hxl => hg.abf x (by omega) hxl⟩ ⟨hm, by omega, by omega, jn_pos hat.p0, by omega⟩ (by omega))
        have hnum : ∀ (a b : Nat) (l : List Vis), a + b + l.length = a + (b + l.length) := fun a b l => by omega
        have HY := hide (⟨hg, hT, hnx⟩ : _ ∧ _ ∧ _)
        have hd1 : -9223372036854775808 ≤ d + 1 ∧ d + 1 ≤ 9223372036854775807 := by omega
        clear h hv hE hat hf hX hkid hkc hS1 hTa hj1 hv1 hlow hlow0 hvr hEr hg hT hnx hle hb hjs hcell m1 hm
        go_wp2
        refine wp_region_still_tail 20 (by kernel_rfl) (by kernel_rfl) ?_
        change wpStill Tryz.prog _ wr.drew (fun a' => wpList Tryz.prog _ _ _ a' wr.drew) _ _
        simp only [List.take_succ_cons, List.take_zero, List.drop_succ_cons, List.drop_zero]
        repeat still_step
        still_call (HJ _).out
        repeat still_step
        refine wpStill_nil ?_
        go_wp2_with fail
        refine HGO.out.mono ?_
        rintro e w7 ⟨rfl, pv7, bv7, tv7, nn7, E7, h7, j7, T7, o7, m7⟩
        have HZ := hide (⟨h7, j7, T7, o7, m7⟩ : _ ∧ _ ∧ _ ∧ _ ∧ _)
        clear h7 j7 T7 o7 m7
        go_wp2
        go_roundw
        case rel =>
          obtain ⟨h7, j7, T7, o7, m7⟩ := HZ.out
          obtain ⟨hg, hT, hnx⟩ := HY.out
          obtain ⟨h, _, _, _, _, hX, _⟩ := HP.out
          have hb := h.bud
          rw [hX] at hb
          have hle := kidsX_le (L := L) (deep := c.deep) (mx := c.mx) (f := f) (p := p) (d := d) (ks := n.kids) (j := j + 1)
          rw [hnum] at h7 o7 m7
          rw [List.append_assoc, ← outW_app, ← hnx] at h7 o7
          rw [← List.length_append, ← hnx] at h7 o7 m7
          exact ⟨j + 1, pv7, bv7, tv7, nn7, E7, by go_num, by omega, ⟨h7, j7, o7, m7, by omega, hg.abf⟩, hT.trans ((withE (TurnC.of_below (Below.refl _ _).drew)).trans T7)⟩
        case measure => simp [intOf]; omega
      · have hje : j = n.kids.length := by omega
        subst hje
        have b3 : decide ((n.kids.length : Int) < (n.kids.length : Int)) = false := by rw [decide_eq_false_iff_not]; omega
        rw [List.take_length, ← hX] at hg
        have c0 : wr.drew.cell? ⟨c.b, 9, none⟩ = some (.slice (some ⟨c.ga, 0, none⟩) L.length L.length) := hg.st.blk.cell 9
        have c1 : wr.drew.cell? ⟨vb, 2, none⟩ = some (.int .i64 (k : Int)) := hvr.cell 2
        have hak := h.abf k (Nat.le_refl _) hkl
        have c2 : wr.drew.cell? ⟨c.ga, k, none⟩ = some (.bool true) := hg.st.abc (by rw [List.getElem?_set_self (by have := h.st.abl; omega)])
        have c3 : wr.drew.frozen? ⟨c.ga, k, none⟩ = false := Lib.frozen_of_heap hg.st.abv k
        obtain ⟨hS8, hT8⟩ := hg.st.setab (k := k) (x := false)
        rw [set_back hak] at hS8
        obtain ⟨W8, hW8⟩ : ∃ W8, (wr.setCell ⟨c.ga, k, none⟩ (.bool false)).drew = W8 := ⟨_, rfl⟩
        have hS9 : WSt L c (gone + (belowG L c.deep c.mx f n p d).length) (out ++ outW c.mn test (belowG L c.deep c.mx f n p d)) ab pv' bv' tv' nn' W8 := by rw [← hW8]; exact hS8.below (Below.refl _ _).drew
        have hT9 : TurnC (DS c bv' tv') (DS c bv' tv') wr W8 := by rw [← hW8]; exact hT8.trans (TurnC.of_below (Below.refl _ _).drew)
        have HW8 := hide hW8
        have HY := hide (⟨hS9, hA.stab _ _ _ _ _ hg.j hT9, ((withE hTa).trans hT).trans (withE hT9), hg.ol, hg.nl⟩ : _ ∧ _ ∧ _ ∧ _ ∧ _)
        clear h hv hE hat hf hX hkid hkc hS1 hTa hj1 hv1 hlow hlow0 hvr hEr hg hT hS8 hT8 hS9 hT9 hW8 hak
        go_wp2
        refine (fun (KEY : (?G3 : World → Prop) W8) => ?main3) ?key3
        case main3 =>
          go_region
          all_goals (rw [HW8.out]; exact KEY)
        case key3 =>
          go_wp2
          go_end0
          exact ⟨rfl, pv', bv', tv', nn', E', HY.out⟩
end Go.Proofs.YtfemboojdablhaaGreatDoor.Tre
