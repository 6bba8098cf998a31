/- A list's texts, handed out one by one. -/
import Derived.Test.YtgpgbobmpdgfeaaDoorBrP
namespace Go.Proofs.YtgpgbobmpdgfeaaDoor
open Go.RowKit Go.Shelf
attribute [local go_sem] Oper.semAt_some

theorem TurnC.keepN {C C' : Nat → Prop} {W A A' : World} {N : Nat} (h : TurnC C C' W A) (hk : KeepC N C' A A') (hN : W.heap.size ≤ N) : TurnC C C' W A' :=
  ⟨hk.os.trans h.os, hk.tape.trans h.tape, hk.output.trans h.output, Nat.le_trans h.size hk.size, fun k hlt hc => (hk.block k (Nat.lt_of_lt_of_le hlt h.size) (.inl (by omega))).trans (h.block k hlt hc), h.new⟩
/-- What a text's closure reads. -/
def TextRd (b : Nat) (s : List UInt8) (C : Nat → Prop) (W : World) : Prop := Boxed W b 9 (.string (bs s)) ∧ ¬ C b ∧ GW W ∧ ¬ C 0 ∧ ¬ C 1
theorem flat_prefix {α β : Type} {pre xs : List α} {x : α} {pre2 : List β} {x2 : β} (f : α → List β) (h : pre ++ [x] <+: xs) (h2 : pre2 ++ [x2] <+: f x) : pre.flatMap f ++ pre2 ++ [x2] <+: xs.flatMap f := by
  obtain ⟨t, rfl⟩ := h
  obtain ⟨t2, ht2⟩ := h2
  refine ⟨t2 ++ t.flatMap f, ?_⟩
  rw [List.flatMap_append, List.flatMap_append, List.flatMap_singleton, ← ht2]
  simp [List.append_assoc]
structure LstI (J : List (List UInt8) → (Nat → Prop) → World → Prop) (done : List (List UInt8)) (s : List UInt8) (l n0 b : Nat) (C : Nat → Prop) (W : World) : Prop where
  j : J done C W
  cs : ∀ k, C k → k < n0 ∨ n0 + 2 ≤ k
  nb : ¬ C b
  n0' : ¬ C 0
  n1 : ¬ C 1
  bb : Boxed W b 9 (.string (bs s))
  by' : Boxed W n0 30 (.func (.yield l) #[] #[])
  g : GW W
  size : n0 + 2 ≤ W.heap.size
theorem lstI_keep {J : List (List UInt8) → (Nat → Prop) → World → Prop} {dn : List (List UInt8)} {s : List UInt8} {l n0 b N : Nat} (hJ : ∀ x, Abide n0 (J x)) (hN : n0 + 1 ≤ N) (hb : b < n0) (h2 : 2 ≤ n0) {C : Nat → Prop} {A A' : World} (h : LstI J dn s l n0 b C A) (hk : KeepC N C A A') : LstI J dn s l n0 b C A' :=
  ⟨(hJ _).keep _ _ _ h.j (hk.mono (by omega) (fun _ q => q)), h.cs, h.nb, h.n0', h.n1, boxed_keepN h.bb hk (by omega), boxed_keepN h.by' hk (by omega), h.g.keepN hk (by omega), Nat.le_trans h.size hk.size⟩
theorem lstI_abide {J : List (List UInt8) → (Nat → Prop) → World → Prop} {dn : List (List UInt8)} {s : List UInt8} {l n0 b N : Nat} (hJ : ∀ x, Abide n0 (J x)) (hN : n0 + 1 ≤ N) (hb : b < n0) (h2 : 2 ≤ n0) : Abide N (LstI J dn s l n0 b) :=
  ⟨fun _ _ h => (hJ _).lt _ _ h.j, fun _ _ _ h hk => lstI_keep hJ hN hb h2 h hk⟩
/-- A yield's turn. -/
theorem lstI_turn {J : List (List UInt8) → (Nat → Prop) → World → Prop} {dn dn2 : List (List UInt8)} {s : List UInt8} {l n0 b : Nat} {C C' : Nat → Prop} {A A' : World} (h : LstI J dn s l n0 b C A) (ht : TurnC C C' A A') (hj : J dn2 C' A') : LstI J dn2 s l n0 b C' A' :=
  ⟨hj, fun k hk => by
    rcases ht.new k hk with q | q
    · exact h.cs k q
    · have := h.size; omega, keep_not ht h.bb.lt h.nb, keep_not ht (by have := h.g.lt; omega) h.n0', keep_not ht h.g.lt h.n1, boxed_turn ht h.bb h.nb, boxed_turn ht h.by' (fun q => by have := h.cs _ q; omega), h.g.turn ht h.n0' h.n1, Nat.le_trans h.size ht.size⟩
theorem keep_abide {J : (Nat → Prop) → World → Prop} {n0 N : Nat} (h : Abide n0 J) (hN : n0 ≤ N) : Abide N J := ⟨h.lt, fun C A A' hj hk => h.keep C A A' hj (hk.mono hN (fun _ q => q))⟩
theorem and_turn_abide {J : (Nat → Prop) → World → Prop} {N : Nat} {C0 : Nat → Prop} {W : World} (h : Abide N J) (hN : W.heap.size ≤ N) : Abide N (fun C A => J C A ∧ TurnC C0 C W A) :=
  ⟨fun C A hj => h.lt C A hj.1, fun C A A' hj hk => ⟨h.keep C A A' hj.1 hk, hj.2.keepN hk hN⟩⟩
set_option maxRecDepth 100000 in
set_option maxHeartbeats 4000000 in
theorem list_hands (s : List UInt8) (hs : s.length ≤ 1000000) (rest : List UInt8 → List (List UInt8)) (hrest : ∀ p ∈ piecesB s, ∀ b', Hands Tryd.prog 12 #[.pointer (some ⟨b', 0, none⟩)] encText (rest p) (TextRd b' p)) (b : Nat) :
    Hands Tryd.prog 31 #[.pointer (some ⟨b, 0, none⟩)] encText ((piecesB s).flatMap rest) (TextRd b s) := by
  intro l J Jx C W hJ hJx hY hRd h0
  obtain ⟨hb, hCb, hG, hC0, hC1⟩ := hRd
  obtain ⟨n0, hn0⟩ : ∃ n, W.heap.size = n := ⟨_, rfl⟩
  rw [hn0] at hJ hJx
  have hbn : b < n0 := by rw [← hn0]; exact hb.lt
  have hn2 : 2 ≤ n0 := by have := hG.lt; omega
  have c1 := (boxed_below hb (lay_facts [.cells #[.func (.yield l) #[] #[]] 30] W).2.1 hb.lt).cell
  simp only [lay] at c1
  refine callsIn_of_wp_marks Tryd.func31 rfl trivial ?_ rfl
  simp only [Tryd.ntmps31, List.size_toArray, List.length_cons, List.length_nil, Nat.reduceAdd, Nat.reduceSub, Array.replicate_succ, Array.replicate_zero, List.push_toArray, List.append_toArray, List.nil_append, List.cons_append]
  gi_wp2_with fail
  refine ⟨trivial, rfl, (callsIn_wide.2 (pieces_any _ _)).mono ?_⟩
  rintro e w' ⟨rfl, hw⟩
  rw [hw]
  clear hw w' c1
  gi_wp2_with fail
  obtain ⟨w1, hw1⟩ : ∃ w1, lay W [.cells #[.func (.yield l) #[] #[]] 30, .cells #[.string (bs s)] 9] = w1 := ⟨_, rfl⟩
  obtain ⟨z1, l1, f1⟩ := lay_facts [.cells #[.func (.yield l) #[] #[]] 30, .cells #[.string (bs s)] 9] W
  rw [hw1] at z1 l1 f1
  rw [hn0] at z1 l1 f1
  simp only [lay] at hw1
  rw [hw1]
  clear hw1
  replace z1 : w1.heap.size = n0 + 2 := z1
  have q0 : Boxed w1 n0 30 (.func (.yield l) #[] #[]) := f1 0 _ rfl
  have q1 : Boxed w1 (n0 + 1) 9 (.string (bs s)) := f1 1 _ rfl
  have qb : Boxed w1 b 9 (.string (bs s)) := boxed_below hb l1 hbn
  have hCl := (hJ []).lt _ _ h0
  rw [hn0] at hCl
  clear f1
  have h01 : J [] C w1 := (hJ []).keep _ _ _ h0 (.of_below (by rw [hn0]; exact l1))
  have hG1 := hG.below l1 hn2
  clear h0 hb l1 hG
  refine range_out (gf := 39) (lb := #[.pointer (some ⟨n0 + 1, 0, none⟩)]) rfl (enters_of Tryd.func39 (by kernel_rfl) rfl) (pieces_hands (n0 + 1) s hs) (fun _ => rfl)
    C (fun pre C W => LstI J (pre.flatMap rest) s l n0 b C W) Jx (fun pre => lstI_abide hJ (by omega) hbn hn2) (keep_abide hJx (by omega))
    ⟨h01, fun k q => .inl (hCl k q), hCb, hC0, hC1, qb, q0, hG1, by omega⟩ (fun W hB => ⟨boxed_below q1 hB (by omega), fun q => by
      rcases q with q | q
      · have := hCl _ q; omega
      · omega⟩) ?round ?done ?stop
  case round =>
    clear hCb hC0 hC1 h01 hG1 qb q0 q1 hCl
    rintro l2 pre x C W hl hrec hCl2 hpre hI
    simp only [encText]
    gi_wp2
    refine ⟨Below.refl _ _, fun W2 hsw => ?_⟩
    have hI2 := lstI_keep hJ (N := w1.heap.size) (by omega) hbn hn2 hI (hsw.keep hl hCl2)
    obtain ⟨r₀, hr₀⟩ := hsw.record
    have hC2 := (hJ _).lt _ _ hI2.j
    clear hI hsw hrec
    gi_wp2_with fail
    refine ⟨trivial, rfl, CallsIn.mono (CallsIn.inRound l2 (callsIn_wide.2 (texts_any _ _))) ?_⟩
    rintro e w' ⟨rfl, hw⟩
    rw [hw]
    clear hw w'
    gi_wp2_with fail
    obtain ⟨W3, hW3⟩ : ∃ W3, W2.alloc (.cells #[.string (bs x)] 9) = W3 := ⟨_, rfl⟩
    have hB3 : Below W2.heap.size W2 W3 := by rw [← hW3]; exact (Below.refl _ _).alloc (Nat.le_refl _) _
    have hz3 : W3.heap.size = W2.heap.size + 1 := by rw [← hW3]; simp
    have hbx : Boxed W3 W2.heap.size 9 (.string (bs x)) := by rw [← hW3]; exact Boxed.new _ _ _
    rw [hW3]
    clear hW3
    have hI3 := lstI_keep hJ (N := W2.heap.size) (by have := hI2.size; omega) hbn hn2 hI2 (.of_below hB3)
    have hlt0 := (Array.getElem?_eq_some_iff.1 hr₀).1
    have hs2 := hI2.size
    refine range_in (gf := 12) (lb := #[.pointer (some ⟨W2.heap.size, 0, none⟩)]) ((hB3.block _ hlt0).trans hr₀) rfl (enters_of Tryd.func12 (by kernel_rfl) rfl) (hrest x (mem_of_pre hpre) W2.heap.size) (fun _ => rfl)
      C (fun pre2 C' A => LstI J (pre.flatMap rest ++ pre2) s l n0 b C' A ∧ TurnC C C' W2 A) (fun C' A => Jx C' A ∧ TurnC C C' W2 A)
      (fun pre2 => and_turn_abide (lstI_abide hJ (by omega) hbn hn2) (by omega)) (and_turn_abide (keep_abide hJx (by omega)) (by omega))
      ⟨by rw [List.append_nil]; exact hI3, .of_below hB3⟩ (fun W hB => ⟨boxed_below hbx hB (by omega), fun q => by
        rcases q with q | q
        · have := hC2 _ q; omega
        · omega, hI3.g.below hB (by omega), fun q => by
          rcases q with q | q
          · exact hI3.n0' q
          · omega, fun q => by
          rcases q with q | q
          · exact hI3.n1 q
          · omega⟩) ?round2 ?done2 ?stop2
    case round2 =>
      clear hI2 hI3 hbx hC2 hr₀ hlt0
      rintro l3 pre2 x2 C3 A hl3 hrec3 hCl3 hpre2 ⟨hI3, ht3⟩
      simp only [encText]
      gi_wp2
      refine ⟨Below.refl _ _, fun A2 hsw3 => ?_⟩
      have hk := hsw3.keep (N := W3.heap.size) hl3 hCl3
      have hI4 := lstI_keep hJ (N := W3.heap.size) (by omega) hbn hn2 hI3 hk
      have ht4 := ht3.keepN hk (by omega)
      have hyi := hY (pre.flatMap rest ++ pre2) x2 C3 A2 (flat_prefix rest hpre hpre2) hI4.j
      obtain ⟨fn, tmps, assign, body, hy, hR⟩ := hyi
      have hy : (Instr.yield l #[.string (bs x2)]).run Tryd.prog A2 = .ok (.round l fn tmps assign body) A2 := hy
      have cy := hI4.by'.cell
      clear hI3 ht3 hsw3 hk hrec3 hCl3 hl3
      gi_wp2_with fail
      refine ⟨rfl, RoundIn.mono (F := Fence.wide) hR ?_⟩
      rintro e A3 ⟨C4, ht, (⟨rfl, hj⟩ | ⟨rfl, hj⟩)⟩
      · have hI5 := lstI_turn hI4 ht hj
        clear hy hR cy
        gi_wp2
        exact ⟨C4, ht, by rw [← List.append_assoc]; exact hI5, ht4.trans ht⟩
      · clear hy hR cy
        gi_wp2
        exact ⟨C4, ht, hj, ht4.trans ht⟩
    case done2 =>
      rintro C3 A hz3' hC3 ⟨hI4, ht4⟩
      gi_wp2
      refine ⟨C3, ht4, ?_⟩
      show LstI J ((pre ++ [x]).flatMap rest) s l n0 b C3 A
      rw [List.flatMap_append, List.flatMap_singleton]
      exact hI4
    case stop2 =>
      rintro C3 A hz3' hC3 ⟨hj, ht4⟩
      exact ⟨C3, ht4, hj⟩
  case done =>
    rintro C W hz hC hI hK
    have hI : LstI J ((piecesB s).flatMap rest) s l n0 b C W := hI
    gi_wp2
    exact leave_end hK (results_none rfl _ _ _) ⟨⟨_, rfl⟩, C, .inl ((hJ _).keep _ _ _ hI.j (KeepC.putObj _ _ (by omega) hC))⟩
  case stop =>
    rintro C W hz hC hI hK
    gi_wp2
    exact leave_ret hK (results_none rfl _ _ _) ⟨⟨_, rfl⟩, C, .inr (hJx.keep _ _ _ hI (KeepC.putObj _ _ (by omega) hC))⟩
end Go.Proofs.YtgpgbobmpdgfeaaDoor
