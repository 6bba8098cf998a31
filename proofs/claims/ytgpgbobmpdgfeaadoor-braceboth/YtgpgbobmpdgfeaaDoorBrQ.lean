/- The first group of a text. -/
import Derived.Test.YtgpgbobmpdgfeaaDoorBrI
import Derived.Test.YtgpgbobmpdgfeaaDoorBrP
namespace Go.Proofs.YtgpgbobmpdgfeaaDoor
open Go.RowKit Go.Shelf
attribute [local go_sem] Oper.semAt_some

/-- A group's three cells lie there. -/
def Grp (W : World) (b : Nat) (x y v : Value) : Prop := W.heap[b]? = some (.cells #[x, y, v] 38 (0, 0))
theorem Grp.lt {W : World} {b : Nat} {x y v : Value} (h : Grp W b x y v) : b < W.heap.size := (Array.getElem?_eq_some_iff.1 h).1
theorem Grp.cell {W : World} {b : Nat} {x y v : Value} (h : Grp W b x y v) : W.cell? ⟨b, 0, none⟩ = some x ∧ W.cell? ⟨b, 1, none⟩ = some y ∧ W.cell? ⟨b, 2, none⟩ = some v := by
  unfold Grp at h
  simp [World.cell?, h]
theorem Grp.frozen {W : World} {b : Nat} {x y v : Value} (h : Grp W b x y v) : W.frozen? ⟨b, 0, none⟩ = false ∧ W.frozen? ⟨b, 1, none⟩ = false ∧ W.frozen? ⟨b, 2, none⟩ = false := by
  unfold Grp at h
  simp [World.frozen?, h]
theorem Grp.set {W : World} {b : Nat} {x y v : Value} (h : Grp W b x y v) (x' y' v' : Value) : Grp (((W.setCell ⟨b, 0, none⟩ x').setCell ⟨b, 1, none⟩ y').setCell ⟨b, 2, none⟩ v') b x' y' v' := by
  obtain ⟨hl, hk⟩ := Array.getElem?_eq_some_iff.1 h
  have key : ∀ (W : World) (cs : Array Value) (i : Nat) (u : Value), W.heap[b]? = some (.cells cs 38 (0, 0)) → (W.setCell ⟨b, i, none⟩ u).heap[b]? = some (.cells (cs.set! i u) 38 (0, 0)) := by
    intro W cs i u h
    obtain ⟨hl, hk⟩ := Array.getElem?_eq_some_iff.1 h
    show (W.heap.modify b _)[b]? = _
    rw [Array.getElem?_eq_getElem (by rw [Array.size_modify]; exact hl), Array.getElem_modify_self, hk]
    rfl
  exact key _ _ _ _ (key _ _ _ _ (key _ _ _ _ h))
theorem Grp.other {W : World} {b B' i : Nat} {x y v u : Value} (h : Grp W b x y v) (hne : b ≠ B') : Grp (W.setCell ⟨B', i, none⟩ u) b x y v := (Below.heap_setCell _ _ _ b hne).trans h
theorem boxed_otherI {W : World} {B B' i : Nat} {t : TypeId} {v : Value} (h : Boxed W B t v) (hne : B ≠ B') (u : Value) : Boxed (W.setCell ⟨B', i, none⟩ u) B t v := (Below.heap_setCell _ _ _ B hne).trans h
structure FstI (s : List UInt8) (w : World) (n0 : Nat) (pre : List (Nat × UInt8)) (C : Nat → Prop) (W : World) : Prop where
  cs : ∀ k, C k ↔ (k = n0 + 1 ∨ k = n0 + 1 + 1)
  b0 : Boxed W n0 9 (.string (bs s))
  b1 : Grp W (n0 + 1) (.string ⟨#[]⟩) (.string ⟨#[]⟩) .nilFunc
  b2 : Boxed W (n0 + 1 + 1) 4 (.bool false)
  left : Left pre (signsD false 0 s) (fun r => firstD s = firstFrom s r)
  bel : Below n0 w W
structure FstX (s : List UInt8) (w : World) (n0 : Nat) (C : Nat → Prop) (W : World) : Prop where
  h : ∃ (B E : Nat) (ahead behind inner : List UInt8) (m : MidD) (v : Value), (∀ k, C k ↔ (k = n0 + 1 ∨ k = n0 + 1 + 1 ∨ (B ≤ k ∧ k < E))) ∧ n0 + 3 ≤ B ∧ E ≤ W.heap.size ∧ Grp W (n0 + 1) (.string (bs ahead)) (.string (bs behind)) v ∧ Boxed W (n0 + 1 + 1) 4 (.bool true) ∧
    MidAt (fun k => B ≤ k ∧ k < E) inner m v W ∧ firstD s = some (ahead, m, behind) ∧ Below n0 w W
theorem fstI_abide (s : List UInt8) (w : World) (n0 N : Nat) (hw : w.heap.size = n0) (hN : n0 + 3 ≤ N) (pre : List (Nat × UInt8)) : Abide N (FstI s w n0 pre) := by
  constructor
  · rintro C A h k hk
    have h1 := h.b1.lt
    have h2 := h.b2.lt
    rcases (h.cs k).1 hk with q | q <;> omega
  · rintro C A A' h hk
    exact ⟨h.cs, boxed_keepN h.b0 hk (by omega), (hk.block _ h.b1.lt (.inl (by omega))).trans h.b1, boxed_keepN h.b2 hk (by omega), h.left, hk.later h.bel (by omega) (by omega)⟩
theorem fstX_abide (s : List UInt8) (w : World) (n0 N : Nat) (hw : w.heap.size = n0) (hN : n0 + 3 ≤ N) : Abide N (FstX s w n0) := by
  constructor
  · rintro C A ⟨B, E, ahead, behind, inner, m, v, h1, h2, h3, h4, h5, h6, h7, h8⟩ k hk
    have g1 := h4.lt
    have g2 := h5.lt
    rcases (h1 k).1 hk with q | q | q <;> omega
  · rintro C A A' ⟨B, E, ahead, behind, inner, m, v, h1, h2, h3, h4, h5, h6, h7, h8⟩ hk
    exact ⟨B, E, ahead, behind, inner, m, v, h1, h2, Nat.le_trans h3 hk.size, (hk.block _ h4.lt (.inl (by omega))).trans h4, boxed_keepN h5 hk (by omega), h6.keep (fun k d hlt => hk.block k hlt (.inr ((h1 k).2 (.inr (.inr d))))), h7, hk.later h8 (by omega) (by omega)⟩
/-- What firstGroup answers. -/
def FirstV (n0 : Nat) (o : Option (List UInt8 × MidD × List UInt8)) (e : Ending) (w' : World) : Prop := match o with
  | none => e = .returned (.tuple #[.agg #[.string ⟨#[]⟩, .string ⟨#[]⟩, .nilFunc], .bool false])
  | some (ahead, m, behind) => ∃ inner v, e = .returned (.tuple #[.agg #[.string (bs ahead), .string (bs behind), v], .bool true]) ∧ MidAt (fun k => n0 ≤ k) inner m v w'
set_option maxRecDepth 100000 in
set_option maxHeartbeats 4000000 in
theorem firstGroup_any (s : List UInt8) (hs : s.length ≤ 1000000) (w : World) (hG : GW w) : Calls Tryd.prog 13 #[.string (bs s)] w fun e w' => FirstV w.heap.size (firstD s) e w' ∧ Below w.heap.size w w' := by
  obtain ⟨n0, hn0⟩ : ∃ n, w.heap.size = n := ⟨_, rfl⟩
  have hsz := bs_size s
  have hn2 : 2 ≤ n0 := by have := hG.lt; omega
  refine (callsIn_wide (n := 0)).1 ?_
  refine callsIn_of_wp_marks Tryd.func13 rfl trivial ?_ rfl
  simp only [Tryd.ntmps13, List.size_toArray, List.length_cons, List.length_nil, Nat.reduceAdd, Nat.reduceSub, Array.replicate_succ, Array.replicate_zero, List.push_toArray, List.append_toArray, List.nil_append, List.cons_append]
  gi_wp2_with fail
  refine ⟨trivial, rfl, (callsIn_wide.2 (signs_any _ _)).mono ?_⟩
  rintro e w' ⟨rfl, hw⟩
  rw [hw]
  clear hw w'
  gi_wp2_with fail
  obtain ⟨w1, hw1⟩ : ∃ w1, lay w [.cells #[.string (bs s)] 9, .cells #[.string ⟨#[]⟩, .string ⟨#[]⟩, .nilFunc] 38, .cells #[.bool false] 4, .cells #[.string (bs s)] 9] = w1 := ⟨_, rfl⟩
  obtain ⟨z1, l1, f1⟩ := lay_facts [.cells #[.string (bs s)] 9, .cells #[.string ⟨#[]⟩, .string ⟨#[]⟩, .nilFunc] 38, .cells #[.bool false] 4, .cells #[.string (bs s)] 9] w
  rw [hw1] at z1 l1 f1
  rw [hn0] at z1 l1 f1
  simp only [lay] at hw1
  rw [hw1]
  clear hw1
  replace z1 : w1.heap.size = n0 + 4 := z1
  have q0 : Boxed w1 n0 9 (.string (bs s)) := f1 0 _ rfl
  have q1 : Grp w1 (n0 + 1) (.string ⟨#[]⟩) (.string ⟨#[]⟩) .nilFunc := f1 1 _ rfl
  have q2 : Boxed w1 (n0 + 1 + 1) 4 (.bool false) := f1 2 _ rfl
  have q3 : Boxed w1 (n0 + 1 + 1 + 1) 9 (.string (bs s)) := f1 3 _ rfl
  clear f1
  refine range_out (gf := 23) (lb := #[.pointer (some ⟨n0 + 1 + 1 + 1, 0, none⟩)]) rfl (enters_of Tryd.func23 (by kernel_rfl) rfl) (signs_hands (n0 + 1 + 1 + 1) s hs) (fun _ => rfl)
    (fun k => k = n0 + 1 ∨ k = n0 + 1 + 1) (FstI s w n0) (FstX s w n0) (fun pre => fstI_abide s w n0 _ hn0 (by omega) pre) (fstX_abide s w n0 _ hn0 (by omega))
    ⟨fun _ => Iff.rfl, q0, q1, q2, ⟨_, rfl, rfl⟩, l1⟩ (fun W hB => ⟨boxed_below q3 hB (by omega), by omega⟩) ?round ?done ?stop
  case round =>
    rintro l pre ⟨k, c⟩ C W hl hrec hCl hpre hI
    simp only [encSign]
    gi_wp2
    refine ⟨Below.refl _ _, fun W2 hsw => ?_⟩
    have hI2 := (fstI_abide s w n0 w1.heap.size hn0 (by omega) pre).keep _ _ _ hI (hsw.keep hl hCl)
    obtain ⟨r, hr, hf⟩ := hI2.left.step hpre
    have hkb : k < s.length := by have := (signs_at s false 0 _ (mem_of_pre hpre)).2; simpa using this
    have hWs : w1.heap.size + 1 ≤ W2.heap.size := by
      have : l < W2.heap.size := by obtain ⟨r, h⟩ := hsw.record; exact (Array.getElem?_eq_some_iff.1 h).1
      omega
    have hG2 : GW W2 := hG.below hI2.bel (by omega)
    have c0 := hI2.b0.cell
    have HALL := hide (And.intro hI2 (And.intro hr (And.intro hG2 (And.intro hWs (And.intro z1 hn0)))))
    clear hI hI2 hr hsw hpre q0 q1 q2 q3 l1 hG2 hrec hCl hl z1 hWs hn0 hG
    by_cases hc : c = 123
    · have e1 : ((c.toNat : Int) != 123) = false := by rw [hc]; rfl
      have hk1 : (k : Int) + 1 ≤ (s.length : Int) := by omega
      have hk2 : (0 : Int) ≤ (k : Int) + 1 := by omega
      have hk3 : (k : Int) ≤ (s.length : Int) := by omega
      rw [firstFrom, if_pos hc] at hf
      have hen := enclosed_any (s.drop (k + 1)) (by rw [List.length_drop]; omega)
      rw [← bs_drop s (k + 1) s.length (Nat.le_refl _)] at hen
      clear hc
      cases hE : enclosedD (s.drop (k + 1)) with
      | none =>
        rw [hE] at hf hen
        have HF := hide hf
        clear hE hf
        gi_wp2_with fail
        refine ⟨trivial, rfl, CallsIn.mono (CallsIn.inRound l (callsIn_wide.2 (hen _))) ?_⟩
        rintro e W3 ⟨rfl, hB3⟩
        clear hen
        simp only [enclV]
        gi_wp2
        obtain ⟨hI2, hr, hG2, hWs, z1, hn0⟩ := HALL.out
        have hI3 := (fstI_abide s w n0 W2.heap.size hn0 (by omega) pre).keep _ _ _ hI2 (.of_below hB3)
        exact ⟨C, .of_below hB3, hI3.cs, hI3.b0, hI3.b1, hI3.b2, ⟨r, hr, HF.out⟩, hI3.bel⟩
      | some p =>
        obtain ⟨inner, behind⟩ := p
        rw [hE] at hf hen
        have hil := enclosed_len hE
        have hib : inner.length ≤ 1000000 := by have := hil.2.1; rw [List.length_drop] at this; omega
        have HF := hide hf
        clear hE hf hil
        gi_wp2_with fail
        refine ⟨trivial, rfl, CallsIn.mono (CallsIn.inRound l (callsIn_wide.2 (hen _))) ?_⟩
        rintro e W3 ⟨rfl, hB3⟩
        clear hen
        simp only [enclV]
        have hI3 := (fstI_abide s w n0 W2.heap.size HALL.out.2.2.2.2.2 (by have := HALL.out.2.2.2.1; have := HALL.out.2.2.2.2.1; omega) pre).keep _ _ _ HALL.out.1 (.of_below hB3)
        have hG3 : GW W3 := HALL.out.2.2.1.below hB3 (by have := HALL.out.2.2.2.1; have := HALL.out.2.2.2.2.1; omega)
        have hgt := groupTexts_any inner hib W3 hG3
        have HI3 := hide (And.intro hI3 hB3)
        clear hI3 hB3 hG3
        gi_wp2_with fail
        refine ⟨trivial, rfl, CallsIn.mono (CallsIn.inRound l (callsIn_wide.2 hgt)) ?_⟩
        rintro e W4 ⟨hgv, hB4⟩
        clear hgt
        cases hm : midD inner with
        | none =>
          rw [hm] at hgv
          have he : e = .returned (.tuple #[.nilFunc, .bool false]) := hgv
          rw [he]
          have HM := hide (And.intro hm hB4)
          clear hm hgv he hB4
          gi_wp2
          obtain ⟨hI2, hr, hG2, hWs, z1, hn0⟩ := HALL.out
          obtain ⟨hI3, hB3⟩ := HI3.out
          obtain ⟨hm, hB4⟩ := HM.out
          have hI4 := (fstI_abide s w n0 W3.heap.size hn0 (by have := hB3.size; omega) pre).keep _ _ _ hI3 (.of_below hB4)
          have hf := HF.out
          rw [hm] at hf
          exact ⟨C, (TurnC.of_below hB3).trans (TurnC.of_below hB4), hI4.cs, hI4.b0, hI4.b1, hI4.b2, ⟨r, hr, hf⟩, hI4.bel⟩
        | some m =>
          rw [hm] at hgv
          obtain ⟨v, he, hat⟩ := hgv
          obtain ⟨f, lb, hv⟩ := hat.form
          subst hv
          rw [he]
          have hI4 : FstI s w n0 pre C W4 := (fstI_abide s w n0 W3.heap.size HALL.out.2.2.2.2.2 (by have := HALL.out.2.2.2.1; have := HALL.out.2.2.2.2.1; have := HI3.out.2.size; omega) pre).keep _ _ _ HI3.out.1 (.of_below hB4)
          have d0 := hI4.b0.cell
          obtain ⟨d1, d2, d3⟩ := hI4.b1.cell
          obtain ⟨g1, g2, g3⟩ := hI4.b1.frozen
          have d4 := hI4.b2.cell
          have g4 := hI4.b2.frozen
          have HM := hide (And.intro hm (And.intro hB4 (And.intro hat hI4)))
          clear hm he hB4 hat hI4
          gi_wp2
          obtain ⟨hI2, hr, hG2, hWs, z1, hn0⟩ := HALL.out
          obtain ⟨hI3, hB3⟩ := HI3.out
          obtain ⟨hm, hB4, hat, hI4⟩ := HM.out
          have hf := HF.out
          rw [hm] at hf
          have s3 := hB3.size
          have s4 := hB4.size
          have hcs := hI2.cs
          rw [bs_take]
          have tt : TurnC C (fun k => k = n0 + 1 ∨ k = n0 + 1 + 1 ∨ (W3.heap.size ≤ k ∧ k < W4.heap.size)) W2 W4 := by
            have b24 := hB3.trans (hB4.mono s3)
            refine ⟨b24.os, b24.tape, b24.output, b24.size, fun k hk _ => b24.block k hk, fun k hk => ?_⟩
            rcases hk with q | q | q
            · exact .inl ((hcs k).2 (.inl q))
            · exact .inl ((hcs k).2 (.inr q))
            · exact .inr (by omega)
          have hgrp := hI4.b1.set (.string (bs (s.take k))) (.string (bs behind)) (.func (.func f) #[] lb)
          refine ⟨_, (((tt.trans (TurnC.setCell _ _ _ (.inl rfl))).trans (TurnC.setCell _ _ _ (.inl rfl))).trans (TurnC.setCell _ _ _ (.inl rfl))).trans (TurnC.setCell _ _ _ (.inr (.inl rfl))), W3.heap.size, W4.heap.size, s.take k, behind, inner, m, .func (.func f) #[] lb, fun _ => Iff.rfl, by omega, ?_, hgrp.other (by omega), ?_, ?_, hf, ?_⟩
          · exact Nat.le_trans (Nat.le_trans (Nat.le_trans (KeepsWalks.setCell W4 _ _).size (KeepsWalks.setCell _ _ _).size) (KeepsWalks.setCell _ _ _).size) (KeepsWalks.setCell _ _ _).size
          · exact (boxed_otherI (boxed_otherI (boxed_otherI hI4.b2 (by omega) _) (by omega) _) (by omega) _).set _
          · refine MidAt.keep (W := W4) (hat.mono (fun k d hlt => ⟨d, hlt⟩)) (fun k d hlt => ?_)
            have d := d.1
            rw [Below.heap_setCell _ _ _ k (by show k ≠ n0 + 1 + 1; omega), Below.heap_setCell _ _ _ k (by show k ≠ n0 + 1; omega), Below.heap_setCell _ _ _ k (by show k ≠ n0 + 1; omega), Below.heap_setCell _ _ _ k (by show k ≠ n0 + 1; omega)]
          · exact (((hI4.bel.setCell (p := ⟨n0 + 1, 0, none⟩) (by show n0 ≤ n0 + 1; omega) _).setCell (p := ⟨n0 + 1, 1, none⟩) (by show n0 ≤ n0 + 1; omega) _).setCell (p := ⟨n0 + 1, 2, none⟩) (by show n0 ≤ n0 + 1; omega) _).setCell (p := ⟨n0 + 1 + 1, 0, none⟩) (by show n0 ≤ n0 + 1 + 1; omega) _
    · have e1 : ((c.toNat : Int) != 123) = true := by
        have := nat_eq c 123
        have h2 : (c == 123) = false := by simpa using hc
        rw [h2] at this
        have h3 : ((c.toNat : Int) == 123) = false := this
        rw [bne, h3]; rfl
      rw [firstFrom, if_neg hc] at hf
      have HF := hide hf
      clear hc hf
      gi_wp2
      obtain ⟨hI2, hr, _⟩ := HALL.out
      exact ⟨C, TurnC.refl _ _, hI2.cs, hI2.b0, hI2.b1, hI2.b2, ⟨r, hr, HF.out⟩, hI2.bel⟩
  case done =>
    rintro C W hz hC hI hK
    obtain ⟨r, hr, hf⟩ := hI.left
    have er : r = [] := by have := congrArg List.length hr; simp at this; exact this
    rw [er, firstFrom] at hf
    obtain ⟨d1, d2, d3⟩ := hI.b1.cell
    obtain ⟨g1, g2, g3⟩ := hI.b1.frozen
    have d4 := hI.b2.cell
    have g4 := hI.b2.frozen
    have HALL := hide (And.intro hI (And.intro hK (And.intro hf (And.intro z1 hn0))))
    clear hI hK hf hr z1 hn0
    gi_wp2
    obtain ⟨hI, hK, hf, z1, hn0⟩ := HALL.out
    have hgrp := (hI.b1.set (.string ⟨#[]⟩) (.string ⟨#[]⟩) .nilFunc).other (B' := n0 + 1 + 1) (i := 0) (u := .bool false) (by omega)
    have hbx := (boxed_otherI (B' := n0 + 1) (i := 2) (boxed_otherI (B' := n0 + 1) (i := 1) (boxed_otherI (B' := n0 + 1) (i := 0) hI.b2 (by omega) (.string ⟨#[]⟩)) (by omega) (.string ⟨#[]⟩)) (by omega) .nilFunc).set (.bool false)
    have hD : ∀ (W : World) (b i : Nat) (u : Value), b ≠ w1.heap.size → W.heap[w1.heap.size]? = some (.deferred (some [])) → (W.setCell ⟨b, i, none⟩ u).heap[w1.heap.size]? = some (.deferred (some [])) := fun W b i u hne h => (Below.heap_setCell _ _ _ _ (fun e => hne e.symm)).trans h
    have k1 := Grp.cell (W := World.putObj _ w1.heap.size (.deferred none)) ((World.putObj_heap_other (by omega)).trans hgrp)
    have k2 := (boxed_put (o := .deferred none) (D := w1.heap.size) hbx (by omega)).cell
    obtain ⟨k10, k11, k12⟩ := k1
    refine leave_ret (v := .tuple #[.agg #[.string ⟨#[]⟩, .string ⟨#[]⟩, .nilFunc], .bool false]) (hD _ _ _ _ (by omega) (hD _ _ _ _ (by omega) (hD _ _ _ _ (by omega) (hD _ _ _ _ (by omega) hK)))) ?_ ⟨?_, ?_⟩
    · simp [results, Tryd.results13, go_sem, k10, k11, k12, k2]
    · rw [hf]; exact rfl
    · rw [hn0]
      exact below_put ((((hI.bel.setCell (p := ⟨n0 + 1, 0, none⟩) (by show n0 ≤ n0 + 1; omega) _).setCell (p := ⟨n0 + 1, 1, none⟩) (by show n0 ≤ n0 + 1; omega) _).setCell (p := ⟨n0 + 1, 2, none⟩) (by show n0 ≤ n0 + 1; omega) _).setCell (p := ⟨n0 + 1 + 1, 0, none⟩) (by show n0 ≤ n0 + 1 + 1; omega) _) (by omega)
  case stop =>
    rintro C W hz hC hI hK
    obtain ⟨B, E, ahead, behind, inner, m, v, h1, h2, h3, h4, h5, h6, h7, h8⟩ := hI
    have hCD : ¬ (B ≤ w1.heap.size ∧ w1.heap.size < E) := fun q => hC ((h1 _).2 (.inr (.inr q)))
    obtain ⟨k10, k11, k12⟩ := Grp.cell (W := W.putObj w1.heap.size (.deferred none)) ((World.putObj_heap_other (by omega)).trans h4)
    have k2 := (boxed_put (o := .deferred none) (D := w1.heap.size) h5 (by omega)).cell
    gi_wp2
    refine leave_ret (v := .tuple #[.agg #[.string (bs ahead), .string (bs behind), v], .bool true]) hK ?_ ⟨?_, ?_⟩
    · simp [results, Tryd.results13, go_sem, k10, k11, k12, k2]
    · rw [h7]
      refine ⟨inner, v, rfl, ?_⟩
      exact MidAt.mono (MidAt.keep (W' := W.putObj w1.heap.size (.deferred none)) h6 (fun k d _ => World.putObj_heap_other (fun e => hCD (e ▸ d)))) (fun k d _ => by rw [hn0]; have := d.1; omega)
    · rw [hn0]
      exact below_put h8 (by omega)
end Go.Proofs.YtgpgbobmpdgfeaaDoor
