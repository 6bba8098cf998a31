/- The document's Match. -/
import Derived.Test.YtiekhoehkgmbjaaDoorARefK
namespace Go.Proofs.YtiekhoehkgmbjaaDoor
open Go.RowKit Go.Maps

theorem epsOf_at {A : List RSt} {k : Nat} {st : RSt} (h : A[k]? = some st) : epsOf A k = st.eps := by
  unfold epsOf; rw [h]
theorem epsOf_mem {A : List RSt} {k y : Nat} (h : y ∈ epsOf A k) : ∃ st, A[k]? = some st ∧ y ∈ st.eps := by
  unfold epsOf at h
  split at h
  · exact ⟨_, by assumption, h⟩
  · cases h
theorem eps_frch {A : List RSt} {p x y : Nat} {s : List UInt8} (hx : FRch A p s x) (h : EpsR A x y) : FRch A p s y := by
  induction h with
  | nil => exact hx
  | step z y _ hy ih =>
    obtain ⟨st, h1, h2⟩ := epsOf_mem hy
    exact .eps s z y st ih h1 h2
theorem frch_nil {A : List RSt} {p y : Nat} {t : List UInt8} (h : FRch A p t y) : t = [] → EpsR A p y := by
  induction h with
  | nil => intro _; exact .nil
  | eps s k x st _ hk hx ih => intro e; exact .step k x (ih e) (by rw [epsOf_at hk]; exact hx)
  | byte s k st c _ _ _ _ => intro e; simp at e
theorem frch_snoc {A : List RSt} {p y : Nat} {t s : List UInt8} {c : UInt8} (h : FRch A p t y) : t = s ++ [c] → ∃ k st, FRch A p s k ∧ A[k]? = some st ∧ c ∈ st.set ∧ EpsR A st.to y := by
  induction h with
  | nil => intro e; simp at e
  | eps s' k x st _ hk hx ih =>
    intro e
    obtain ⟨k', st', h1, h2, h3, h4⟩ := ih e
    exact ⟨k', st', h1, h2, h3, .step k x h4 (by rw [epsOf_at hk]; exact hx)⟩
  | byte s' k st c' h hk hc _ =>
    intro e
    obtain ⟨rfl, e2⟩ := List.append_inj' e rfl
    cases e2
    exact ⟨k, st, h, hk, hc, .nil⟩
/-- The states that a text leads to. -/
structure Lst (A : List RSt) (p : Nat) (s : List UInt8) (l : List Nat) : Prop where
  asc : Asc l
  all : ∀ y, y ∈ l ↔ FRch A p s y
  lt : ∀ y ∈ l, y < A.length
theorem Lst.start {A : List RSt} {p : Nat} {l : List Nat} (h : ClosedL A [p] l) : Lst A p [] l := by
  refine ⟨h.asc, fun y => ?_, h.lt⟩
  rw [h.all]
  constructor
  · rintro ⟨x, hx, he⟩
    rw [List.mem_singleton] at hx
    subst hx
    exact eps_frch .nil he
  · intro hf
    exact ⟨p, by simp, frch_nil hf rfl⟩
theorem Lst.step {A : List RSt} {p : Nat} {s : List UInt8} {c : UInt8} {l l2 out : List Nat} (h : Lst A p s l) (h2 : ∀ y, y ∈ l2 ↔ StepTo A c l y) (h3 : ClosedL A l2 out) : Lst A p (s ++ [c]) out := by
  refine ⟨h3.asc, fun y => ?_, h3.lt⟩
  rw [h3.all]
  constructor
  · rintro ⟨x, hx, he⟩
    obtain ⟨k, hk, st, hst, hc, rfl⟩ := (h2 x).1 hx
    exact eps_frch (.byte s k st c ((h.all k).1 hk) hst hc) he
  · intro hf
    obtain ⟨k, st, h4, h5, h6, h7⟩ := frch_snoc hf rfl
    exact ⟨st.to, (h2 _).2 ⟨k, (h.all k).2 h4, st, h5, h6, rfl⟩, h7⟩
set_option maxRecDepth 100000 in
set_option maxHeartbeats 4000000 in
theorem rmatch_any (op : Int) (s : ByteArray) (v : Value) (ks : List ExprD) (t : ByteArray) (w : World) (hk : KRd w.heap.size w v ks) (hs : s.size ≤ 1000000000) (hsz : nodes (.mk op s.data.toList ks) ≤ 10000000) (ht : t.size ≤ 1000000000) :
    Calls Tryd.prog 11 #[.agg #[.int .i64 op, .string s, v], .string t] w fun e w' => ∃ r, e = .returned (.bool r) ∧ (r = true ↔ InE (.mk op s.data.toList ks) t.data.toList) ∧ Below w.heap.size w w' := by
  obtain ⟨p, c, rfl⟩ := kids_shape hk
  have hb0 : EBox (w.alloc (.cells #[.int .i64 op, .string s, .slice p ks.length c] 24)) w.heap.size op s (.slice p ks.length c) := ebox w op s (.slice p ks.length c)
  have hal : Below w.heap.size w (w.alloc (.cells #[.int .i64 op, .string s, .slice p ks.length c] 24)) := (Below.refl _ _).alloc (Nat.le_refl _) _
  have hk2 := (hk.below hal).wide hal.size
  have hmd := made_any op s (.slice p ks.length c) ks _ hk2 hs hsz
  obtain ⟨b0, b1, b2⟩ := hb0.cells
  have HRM : Hid (∀ x, FRch (rAuto (.mk op s.data.toList ks)) (rStart (.mk op s.data.toList ks)) x 0 ↔ InE (.mk op s.data.toList ks) x) := fun x => ref_match _ x
  obtain ⟨zW, zn, zl, zu, ze⟩ := bld_sz (.mk op s.data.toList ks) [(⟨[], 0, []⟩ : RSt)] 0 (by simp) wf_zero
  change Wf (rAuto _) at zW
  change (rAuto _).length ≤ _ at zu
  change epsT (rAuto _) + 1 ≤ _ at ze
  have e0 : epsT [(⟨[], 0, []⟩ : RSt)] = 0 := rfl
  rw [e0] at ze
  simp only [List.length_singleton] at zu
  have HAL := hide hal
  clear zn zl e0 hk hk2 hal hb0
  go_enter Tryd.func11, Tryd.ntmps11
  go_wp2_with (go_at_call 23; refine hmd.mono ?_; rintro e w1 ⟨a, v1, out1, n₀, rfl, hRR, hn₀, hcl, hLR, hb1⟩)
  have hb01 : Below w.heap.size w w1 := HAL.out.trans (hb1.mono HAL.out.size)
  obtain ⟨A, hAE⟩ : ∃ A, rAuto (.mk op s.data.toList ks) = A := ⟨_, rfl⟩
  obtain ⟨k, hkE⟩ : ∃ k, rStart (.mk op s.data.toList ks) = k := ⟨_, rfl⟩
  rw [hAE] at zW zu ze hRR hcl HRM
  rw [hkE] at hcl HRM
  have hL1 := Lst.start hcl
  clear hAE hkE hb1 hmd b0 b1 b2 HAL
  go_wp2
  go_loopw [6, 7] (fun lv iv wr => ∃ (i : Nat) (l : List Nat), iv = .int .i64 (i : Int) ∧ i ≤ t.size ∧ LRow wr.heap.size wr lv l ∧ Lst A k (t.data.toList.take i) l ∧ RRead n₀ wr a A ∧ n₀ ≤ wr.heap.size ∧ Below w.heap.size w wr) (fun _ iv _ => t.size - (intOf iv).toNat)
  case atStart => exact ⟨0, out1, rfl, Nat.zero_le _, hLR, hL1, hRR, hn₀, hb01⟩
  case round =>
    clear hLR hL1 hRR hn₀ hb01 hcl
    obtain ⟨i, l, rfl, hi, hLR, hL, hRR, hn₀, hb⟩ := hrel
    have hll : l.length ≤ A.length := asc_len hL.asc hL.lt
    by_cases hlt : i < t.size
    · have hiI : (i : Int) < (t.size : Int) := by omega
      have htk : t.data.toList.take (i + 1) = t.data.toList.take i ++ [t[i]] := by
        have hlt' : i < t.data.toList.length := by rw [Array.length_toList]; exact hlt
        rw [List.take_succ_eq_append_getElem hlt']
        rfl
      have hst := rstep_any n₀ a A _ l t[i] wr hRR zW hLR hL.lt hll (by omega) hn₀
      have HL := hide hL
      have HRR := hide hRR
      have HB := hide hb
      have HTK := hide htk
      obtain ⟨la, lc, rfl⟩ := lrow_shape hLR
      clear hL hRR hb hLR htk
      go_wp2_with (go_at_call 24; refine hst.mono ?_; rintro e w2 ⟨v2, out2, l2, rfl, hl2, hcl2, hown2, hb2⟩)
      go_roundw
      case rel =>
        refine ⟨i + 1, out2, by simp, by omega, LRow.of_own hown2, ?_, HRR.out.below (hb2.mono hn₀), Nat.le_trans hn₀ hb2.size, HB.out.trans (hb2.mono HB.out.size)⟩
        rw [HTK.out]
        exact HL.out.step hl2 hcl2
      case measure => simp [intOf]; omega
    · have hie : i = t.size := by omega
      subst hie
      have hiI : ¬ ((t.size : Int) < (t.size : Int)) := by omega
      have hen := ends_any _ l wr hLR hL.asc (by omega)
      have hfin : decide (0 ∈ l) = true ↔ InE (.mk op s.data.toList ks) t.data.toList := by
        have e : t.data.toList.take t.size = t.data.toList := List.take_of_length_le (by rw [Array.length_toList]; exact Nat.le_refl _)
        rw [decide_eq_true_iff, hL.all 0, e]
        exact HRM.out _
      have HF := hide hfin
      have HB := hide hb
      obtain ⟨la, lc, rfl⟩ := lrow_shape hLR
      clear hL hRR hb hLR hfin
      go_wp2_with (go_at_call 25; refine hen.mono ?_; rintro e w2 ⟨rfl, hb2⟩)
      go_ret
      exact ⟨_, rfl, HF.out, HB.out.trans (hb2.mono HB.out.size)⟩
end Go.Proofs.YtiekhoehkgmbjaaDoor
