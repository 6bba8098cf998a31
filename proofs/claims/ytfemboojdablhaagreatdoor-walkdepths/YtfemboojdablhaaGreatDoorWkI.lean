/- Walk: what is gone to below a node. -/
import Derived.Test.YtfemboojdablhaaGreatDoorWkH
import Derived.BigQuiet
import Derived.Deep.QuietTactic
namespace Go.Proofs.YtfemboojdablhaaGreatDoor.Tre
open Go.RowKit Go.Shelf
variable {L : List NodeD} {c : Cf} {gone nn : Nat} {out : List UInt8} {ab : List Bool} {pv bv tv : Value} {W W' : World}

/-- What holds of a node that is gone to. -/
structure AtN (L : List NodeD) (k : Nat) (p : ByteArray) (d : Int) (n : NodeD) : Prop where
  n : L[k]? = some n
  d0 : 0 ≤ d
  dk : d ≤ k
  p0 : 0 < p.size
  pd : (p.size : Int) ≤ 61 * d + 1
/-- goToKids, as far as f. -/
def KidsC (L : List NodeD) (c : Cf) (test : Nat → Bool) (J : (Nat → Prop) → (Nat → Prop) → World → Prop) (f : Nat) : Prop :=
  ∀ (vb k : Nat) (p : ByteArray) (d : Int) (n : NodeD) (kv : Value) (s t gone nn : Nat) (out : List UInt8) (ab : List Bool) (pv bv tv : Value) (E : Nat → Prop) (w : World),
    GoH L c J s t (belowG L c.deep c.mx f n p d).length k gone nn out ab pv bv tv E w → VisB w vb p d k n kv → ¬ E vb → AtN L k p d n → IntRow c.B w kv n.kids → goesB n d c.mx = true → L.length < k + f + 1 →
    Calls Tryz.prog 121 #[.pointer (some ⟨c.b, 0, none⟩), .pointer (some ⟨vb, 0, none⟩)] w (WkPost L c test J (belowG L c.deep c.mx f n p d) s t gone out ab bv tv E w)
/-- goBelow, as far as f. -/
def BelowC (L : List NodeD) (c : Cf) (test : Nat → Bool) (J : (Nat → Prop) → (Nat → Prop) → World → Prop) (f : Nat) : Prop :=
  ∀ (vb k : Nat) (p : ByteArray) (d : Int) (n : NodeD) (kv : Value) (s t gone nn : Nat) (out : List UInt8) (ab : List Bool) (pv bv tv : Value) (E : Nat → Prop) (w : World),
    GoH L c J s (t + 1) (belowG L c.deep c.mx f n p d).length k gone nn out ab pv bv tv E w → VisB w vb p d k n kv → ¬ E vb → AtN L k p d n → IntRow c.B w kv n.kids → L.length < k + f + 1 →
    Calls Tryz.prog 79 #[.pointer (some ⟨c.b, 0, none⟩), .pointer (some ⟨vb, 0, none⟩)] w (WkPost L c test J (belowG L c.deep c.mx f n p d) s t gone out ab bv tv E w)
/-- goTo, as far as f. -/
def GoC (L : List NodeD) (c : Cf) (test : Nat → Bool) (J : (Nat → Prop) → (Nat → Prop) → World → Prop) (f : Nat) : Prop :=
  ∀ (k : Nat) (p : ByteArray) (d : Int) (n : NodeD) (s t gone nn : Nat) (out : List UInt8) (ab : List Bool) (pv bv tv : Value) (E : Nat → Prop) (w : World),
    GoH L c J s t (visG L c.deep c.mx f k p d).length k gone nn out ab pv bv tv E w → AtN L k p d n → L.length < k + f →
    Calls Tryz.prog 46 #[.pointer (some ⟨c.b, 0, none⟩), .int .i64 (k : Int), .string p, .int .i64 d] w (WkPost L c test J (visG L c.deep c.mx f k p d) s t gone out ab bv tv E w)

theorem GoH.drew {J : (Nat → Prop) → (Nat → Prop) → World → Prop} {s t len lo : Nat} {E : Nat → Prop} {w : World} (hs : Stab J) (h : GoH L c J s t len lo gone nn out ab pv bv tv E w) : GoH L c J s t len lo gone nn out ab pv bv tv E w.drew :=
  ⟨h.st.below (Below.refl _ w).drew, hs _ _ _ _ _ h.j (TurnC.of_below (Below.refl _ w).drew), h.ol, h.nl, h.bud, h.abf⟩
/-- Nothing is gone to. -/
theorem WkPost.none {test : Nat → Bool} {J : (Nat → Prop) → (Nat → Prop) → World → Prop} {s t t' len lo : Nat} {E : Nat → Prop} {w w' : World} (h : GoH L c J s t' len lo gone nn out ab pv bv tv E w') (ht : t ≤ t') (hT : TurnE (DS c bv tv) E (DS c bv tv) E w w') : WkPost L c test J [] s t gone out ab bv tv E w (.returned (.tuple #[])) w' := by
  refine ⟨rfl, pv, bv, tv, nn, E, ?_, h.j, hT, ?_, ?_⟩
  · have : outW c.mn test [] = [] := rfl
    rw [this, List.append_nil]; exact h.st
  · have : outW c.mn test [] = [] := rfl
    rw [this, List.append_nil]; exact h.ol
  · have := h.nl; simp; omega

theorem below_n (w : World) (n : Nat) : Below w.heap.size w (w.drewN n) := ⟨rfl, rfl, rfl, Nat.le_refl _, fun _ _ => rfl⟩
theorem GoH.below {J : (Nat → Prop) → (Nat → Prop) → World → Prop} {s t len lo : Nat} {E : Nat → Prop} {w w' : World} (hs : Stab J) (h : GoH L c J s t len lo gone nn out ab pv bv tv E w) (hb : Below w.heap.size w w') : GoH L c J s t len lo gone nn out ab pv bv tv E w' :=
  ⟨h.st.below hb, hs _ _ _ _ _ h.j (TurnC.of_below hb), h.ol, h.nl, h.bud, h.abf⟩
theorem WSt.abc (h : WSt L c gone out ab pv bv tv nn W) {k : Nat} {x : Bool} (hx : ab[k]? = some x) : W.cell? ⟨c.ga, k, none⟩ = some (.bool x) := by
  rw [Lib.cell_of_heap h.abv]
  simp [hx]

set_option maxRecDepth 100000 in
set_option maxHeartbeats 4000000 in
theorem below_any {test : Nat → Bool} {J : (Nat → Prop) → (Nat → Prop) → World → Prop} (hA : Asks L c test J) (hL : L.length ≤ 201) (f : Nat) (hK : KidsC L c test J f) : BelowC L c test J f := by
  intro vb k p d n kv s t gone nn out ab pv bv tv E w h hv hE hat hint hf
  have c0 : w.cell? ⟨vb, 3, none⟩ = some (.int .u8 n.kind) := hv.cell 3
  have c1 : w.cell? ⟨vb, 1, none⟩ = some (.int .i64 d) := hv.cell 1
  have c2 : w.cell? ⟨c.b, 4, none⟩ = some (.int .i64 c.mx) := h.st.blk.cell 4
  have c3 : w.cell? ⟨vb, 10, none⟩ = some (.bool false) := hv.cell 10
  have hkl : k < L.length := (List.getElem?_eq_some_iff.1 hat.n).1
  have hkI : (k : Int) < (L.length : Int) := by omega
  have HD : Hid ((n.kind == 100 || n.kind == 120) = dirD n) := rfl
  have HP := hide (⟨h, hv, hE, hat, hint, hf⟩ : _ ∧ _ ∧ _ ∧ _ ∧ _ ∧ _)
  cases hdir : dirD n with
  | false =>
    have HB : Hid (belowG L c.deep c.mx f n p d = []) := by unfold belowG goesB; rw [hdir]; exact rfl
    have hk0 : (n.kind == 100 || n.kind == 120) = false := HD.out.trans hdir
    have HDC : ∀ w', Hid (Calls Tryz.prog 86 #[.int .u8 n.kind] w' fun e w'' => e = .returned (.bool false) ∧ w'' = w') := fun w' => by have := isdir_any n.kind w'; rw [hk0] at this; exact this
    clear hk0 HD h hv hE hat hint hf
    go_enter Tryz.func79, Tryz.ntmps79
    go_wp2_with fail
    go_quiet ((go_at_call 86; exact Calls.quiet_of_same (HDC _).out))
    go_wp2
    first | go_end0 | (refine bodyPost_ret (results_none rfl _ _ _) rfl ?_)
    rw [HB.out]
    exact WkPost.none (HP.out.1.below hA.stab (below_n w nq)) (Nat.le_succ _) (withE (TurnC.of_below (below_n w nq)))
  | true =>
    have hk0 : (n.kind == 100 || n.kind == 120) = true := HD.out.trans hdir
    have HDC : ∀ w', Hid (Calls Tryz.prog 86 #[.int .u8 n.kind] w' fun e w'' => e = .returned (.bool true) ∧ w'' = w') := fun w' => by have := isdir_any n.kind w'; rw [hk0] at this; exact this
    by_cases hdm : d < c.mx
    · have hb1 : decide (c.mx ≤ d) = false := by rw [decide_eq_false_iff_not]; omega
      have c4 : w.cell? ⟨c.b, 9, none⟩ = some (.slice (some ⟨c.ga, 0, none⟩) L.length L.length) := h.st.blk.cell 9
      have c5 : w.cell? ⟨vb, 2, none⟩ = some (.int .i64 (k : Int)) := hv.cell 2
      have c6 : w.cell? ⟨c.ga, k, none⟩ = some (.bool false) := h.st.abc (h.abf k (Nat.le_refl _) hkl)
      have c7 : w.cell? ⟨vb, 0, none⟩ = some (.string p) := hv.cell 0
      by_cases hx : n.kind = 120
      · have hbx : (n.kind == 120) = true := by rw [hx]; rfl
        have HB : Hid (belowG L c.deep c.mx f n p d = []) := by unfold belowG goesB; rw [hx]; simp [Hid]
        have HN : ∀ m1, Hid (Calls Tryz.prog 44 #[.pointer (some ⟨c.b, 0, none⟩), .string p, .string ⟨#[115, 104, 117, 116]⟩] (w.drewN m1) fun e w' => e = .returned (.tuple #[]) ∧ ∃ tv', WSt L c gone out ab pv bv tv' (nn + 1) w' ∧ TurnC (DS c bv tv) (DS c bv tv') (w.drewN m1) w') := fun m1 =>
          note_any p ⟨#[115, 104, 117, 116]⟩ _ (h.st.below (below_n w m1)) (by have := h.nl; have := h.bud; omega) (by have := hat.pd; have := hat.dk; omega) (by decide)
        clear hk0 HD h hv hE hat hint hf hx
        go_enter Tryz.func79, Tryz.ntmps79
        go_wp2_with fail
        go_quiet ((go_at_call 86; exact Calls.quiet_of_same (HDC _).out))
        go_wp2
        go_quiet (fail)
        go_wp2_with fail
        refine (HN _).out.mono ?_
        rintro e w' ⟨rfl, tv', h1, h2⟩
        have HY := hide (⟨h1, h2⟩ : _ ∧ _)
        clear h1 h2
        go_wp2
        go_end0
        obtain ⟨h1, h2⟩ := HY.out
        obtain ⟨h, _⟩ := HP.out
        have hT : TurnC (DS c bv tv) (DS c bv tv') w w' := (TurnC.of_below (below_n w _)).trans h2
        have he : outW c.mn test [] = [] := rfl
        rw [HB.out]
        refine ⟨rfl, pv, bv, tv', nn + 1, E, by rw [he, List.append_nil]; exact h1, hA.stab _ _ _ _ _ h.j hT, withE hT, by rw [he, List.append_nil]; exact h.ol, ?_⟩
        have := h.nl
        simp; omega
      · have hbx : (n.kind == 120) = false := by rw [beq_eq_false_iff_ne]; exact hx
        have hgo : goesB n d c.mx = true := by unfold goesB; simp [hdir, hdm, hx]
        have HN : ∀ m1, Hid (Calls Tryz.prog 121 #[.pointer (some ⟨c.b, 0, none⟩), .pointer (some ⟨vb, 0, none⟩)] (w.drewN m1) (WkPost L c test J (belowG L c.deep c.mx f n p d) s t gone out ab bv tv E (w.drewN m1))) := fun m1 =>
          hK vb k p d n kv s t gone nn out ab pv bv tv E _ (by
            have hg := h.below hA.stab (below_n w m1)
            exact ⟨hg.st, hg.j, hg.ol, by have := hg.nl; omega, hg.bud, hg.abf⟩) hv hE hat (hint.below ((below_n w m1).mono h.st.Bl)) hgo hf
        clear hk0 HD h hv hE hat hint hf hx hgo
        go_enter Tryz.func79, Tryz.ntmps79
        go_wp2_with fail
        go_quiet ((go_at_call 86; exact Calls.quiet_of_same (HDC _).out))
        go_wp2
        go_quiet (fail)
        go_wp2_with fail
        refine (HN _).out.mono ?_
        rintro e w' ⟨rfl, pv', bv', tv', nn', E', h1, h2, h3, h4, h5⟩
        have HY := hide (⟨h1, h2, h3, h4, h5⟩ : _ ∧ _ ∧ _ ∧ _ ∧ _)
        clear h1 h2 h3 h4 h5
        go_wp2
        go_end0
        obtain ⟨h1, h2, h3, h4, h5⟩ := HY.out
        exact ⟨rfl, pv', bv', tv', nn', E', h1, h2, (withE (TurnC.of_below (below_n w _))).trans h3, h4, h5⟩
    · have hb1 : decide (c.mx ≤ d) = true := by rw [decide_eq_true_eq]; omega
      have HB : Hid (belowG L c.deep c.mx f n p d = []) := by unfold belowG goesB; simp [hdm, Hid]
      clear hk0 HD h hv hE hat hint hf
      go_enter Tryz.func79, Tryz.ntmps79
      go_wp2_with fail
      go_quiet ((go_at_call 86; exact Calls.quiet_of_same (HDC _).out))
      go_wp2
      first | go_end0 | (refine bodyPost_ret (results_none rfl _ _ _) rfl ?_)
      rw [HB.out]
      exact WkPost.none (HP.out.1.below hA.stab (below_n w nq)) (Nat.le_succ _) (withE (TurnC.of_below (below_n w nq)))
end Go.Proofs.YtfemboojdablhaaGreatDoor.Tre
