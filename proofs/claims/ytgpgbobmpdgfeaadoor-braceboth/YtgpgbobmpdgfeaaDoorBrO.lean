/- Whether it is a list; rows handed out. -/
import Derived.Test.YtgpgbobmpdgfeaaDoorBrL
import Derived.Test.YtgpgbobmpdgfeaaDoorBrN
namespace Go.Proofs.YtgpgbobmpdgfeaaDoor
open Go.RowKit Go.Shelf
attribute [local go_sem] Oper.semAt_some

structure CountI (n0 : Nat) (w : World) (pre : List (List UInt8)) (C : Nat → Prop) (W : World) : Prop where
  cs : ∀ k, C k ↔ k = n0
  b0 : Boxed W n0 3 (.int .i64 (pre.length : Int))
  bel : Below n0 w W
theorem countI_abide (n0 N : Nat) (w : World) (hw : w.heap.size = n0) (hN : n0 + 1 ≤ N) (pre : List (List UInt8)) : Abide N (CountI n0 w pre) := by
  constructor
  · rintro C A h k hk
    have := h.b0.lt
    have := (h.cs k).1 hk
    omega
  · rintro C A A' h hk
    exact ⟨h.cs, boxed_keepN h.b0 hk (by omega), hk.later h.bel (by omega) (by omega)⟩
theorem false_abide (N : Nat) : Abide N (fun _ _ => False) := ⟨fun _ _ h => h.elim, fun _ _ _ h => h.elim⟩
theorem cutAt_count (s : List UInt8) : ∀ (ks : List Nat) (i : Nat), (cutAtD s i ks).length = ks.length + 1 := by
  intro ks
  induction ks with
  | nil => intro i; rfl
  | cons k ks ih => intro i; rw [cutAtD, List.length_cons, ih, List.length_cons]
theorem commas_count : ∀ (r : List (Nat × UInt8)) (d : Int), (commasD d r).length ≤ r.length := by
  intro r
  induction r with
  | nil => intro d; simp [commasD]
  | cons x r ih =>
    intro d
    obtain ⟨k, c⟩ := x
    rw [commasD]
    have h1 := ih (d + 1)
    have h2 := ih (d - 1)
    have h3 := ih d
    split
    · simp; omega
    · split
      · simp; omega
      · split <;> (simp; omega)
theorem pieces_count (s : List UInt8) : (piecesB s).length ≤ s.length + 1 := by
  unfold piecesB
  rw [cutAt_count]
  have := commas_count (signsD false 0 s) 0
  have := signs_len s false 0
  omega
set_option maxRecDepth 100000 in
set_option maxHeartbeats 2000000 in
theorem isList_any (s : List UInt8) (hs : s.length ≤ 1000000) (w : World) : Calls Tryd.prog 24 #[.string (bs s)] w fun e w' => e = .returned (.bool (decide (1 < (piecesB s).length))) ∧ Below w.heap.size w w' := by
  obtain ⟨n0, hn0⟩ : ∃ n, w.heap.size = n := ⟨_, rfl⟩
  refine (callsIn_wide (n := 0)).1 ?_
  refine callsIn_of_wp_marks Tryd.func24 rfl trivial ?_ rfl
  simp only [Tryd.ntmps24, List.size_toArray, List.length_cons, List.length_nil, Nat.reduceAdd, Nat.reduceSub, Array.replicate_succ, Array.replicate_zero, List.push_toArray, List.append_toArray, List.nil_append, List.cons_append]
  gi_wp2_with fail
  refine ⟨trivial, rfl, (callsIn_wide.2 (pieces_any _ _)).mono ?_⟩
  rintro e w' ⟨rfl, hw⟩
  rw [hw]
  clear hw w'
  gi_wp2_with fail
  obtain ⟨w1, hw1⟩ : ∃ w1, lay w [.cells #[.int .i64 0] 3, .cells #[.string (bs s)] 9] = w1 := ⟨_, rfl⟩
  obtain ⟨z1, l1, f1⟩ := lay_facts [.cells #[.int .i64 0] 3, .cells #[.string (bs s)] 9] w
  rw [hw1] at z1 l1 f1
  rw [hn0] at z1 l1 f1
  simp only [lay] at hw1
  rw [hw1]
  clear hw1
  replace z1 : w1.heap.size = n0 + 2 := z1
  have q0 : Boxed w1 n0 3 (.int .i64 (([] : List (List UInt8)).length : Int)) := f1 0 _ rfl
  have q1 : Boxed w1 (n0 + 1) 9 (.string (bs s)) := f1 1 _ rfl
  clear f1
  refine range_out (gf := 39) (lb := #[.pointer (some ⟨n0 + 1, 0, none⟩)]) rfl (enters_of Tryd.func39 (by kernel_rfl) rfl) (pieces_hands (n0 + 1) s hs) (fun _ => rfl)
    (fun k => k = n0) (CountI n0 w) (fun _ _ => False) (fun pre => countI_abide n0 _ w hn0 (by omega) pre) (false_abide _)
    ⟨fun _ => Iff.rfl, q0, l1⟩ (fun W hB => ⟨boxed_below q1 hB (by omega), by omega⟩) ?round ?done ?stop
  case round =>
    rintro l pre x C W hl hrec hCl hpre hI
    simp only [encText]
    gi_wp2
    refine ⟨Below.refl _ _, fun W2 hsw => ?_⟩
    have hI2 := (countI_abide n0 w1.heap.size w hn0 (by omega) pre).keep _ _ _ hI (hsw.keep hl hCl)
    have c0 := hI2.b0.cell
    have f0 := hI2.b0.frozen
    have hlen := len_of_pre hpre
    have hcnt := pieces_count s
    have hb : pre.length ≤ 1000001 := by omega
    have HI := hide hI2
    clear hI hI2 hsw hpre hcnt hlen
    gi_wp2
    have hI2 := HI.out
    refine ⟨C, TurnC.setCell _ _ _ ((hI2.cs _).2 rfl), hI2.cs, ?_, hI2.bel.setCell (p := ⟨n0, 0, none⟩) (Nat.le_refl _) _⟩
    rw [List.length_append, List.length_singleton]
    exact hI2.b0.set _
  case done =>
    rintro C W hz hC hI hK
    have c0 := hI.b0.cell
    have HI := hide hI
    have HK := hide hK
    clear hI hK
    obtain ⟨m, hm⟩ : ∃ m, (piecesB s).length = m := ⟨_, rfl⟩
    rw [hm] at c0
    have HM := hide (And.intro hm (And.intro hn0 (And.intro z1 (pieces_count s))))
    clear hm hn0 z1 hz hC
    by_cases h1 : 1 < m
    · have hI : (1 : Int) < (m : Int) := by omega
      gi_wp2
      obtain ⟨hm, hn0, z1, _⟩ := HM.out
      exact leave_ret HK.out (results_tmp rfl _ _ _) ⟨by rw [hm]; simp [h1], by rw [hn0]; exact below_put HI.out.bel (by omega)⟩
    · have hI : ¬ ((1 : Int) < (m : Int)) := by omega
      gi_wp2
      obtain ⟨hm, hn0, z1, _⟩ := HM.out
      exact leave_ret HK.out (results_tmp rfl _ _ _) ⟨by rw [hm]; simp [h1], by rw [hn0]; exact below_put HI.out.bel (by omega)⟩
  case stop =>
    rintro C W hz hC hI hK
    exact hI.elim
set_option maxRecDepth 100000 in
theorem listTexts_any (s : ByteArray) (w : World) : Calls Tryd.prog 25 #[.string s] w fun e w' => e = .returned (.func (.func 31) #[] #[.pointer (some ⟨w.heap.size, 0, none⟩)]) ∧ w' = w.alloc (.cells #[.string s] 9) := by
  go_enter Tryd.func25, Tryd.ntmps25
  go_wp2
  go_ret
  exact ⟨rfl, rfl⟩
set_option maxRecDepth 100000 in
theorem texts_any (s : ByteArray) (w : World) : Calls Tryd.prog 10 #[.string s] w fun e w' => e = .returned (.func (.func 12) #[] #[.pointer (some ⟨w.heap.size, 0, none⟩)]) ∧ w' = w.alloc (.cells #[.string s] 9) := by
  go_enter Tryd.func10, Tryd.ntmps10
  go_wp2
  go_ret
  exact ⟨rfl, rfl⟩
def stepD (a b : Int) : Int := if b < a then -1 else 1
def textF (l : Bool) : Nat := if l then 36 else 34
set_option maxRecDepth 100000 in
theorem row_any (a b : Int) (f : Nat) (w : World) : Calls Tryd.prog 37 #[.int .i64 a, .int .i64 b, .func (.func f) #[] #[]] w fun e w' => e = .returned (.func (.func 44) #[] #[.pointer (some ⟨w.heap.size, 0, none⟩), .pointer (some ⟨w.heap.size + 2, 0, none⟩), .pointer (some ⟨w.heap.size + 1, 0, none⟩), .pointer (some ⟨w.heap.size + 3, 0, none⟩)]) ∧ Below w.heap.size w w' ∧
    Boxed w' w.heap.size 3 (.int .i64 a) ∧ Boxed w' (w.heap.size + 1) 3 (.int .i64 b) ∧ Boxed w' (w.heap.size + 2) 61 (.func (.func f) #[] #[]) ∧ Boxed w' (w.heap.size + 3) 3 (.int .i64 (stepD a b)) := by
  obtain ⟨z1, l1, f1⟩ := lay_facts [.cells #[.int .i64 a] 3, .cells #[.int .i64 b] 3, .cells #[.func (.func f) #[] #[]] 61, .cells #[.int .i64 1] 3] w
  have q0 : Boxed _ w.heap.size 3 (.int .i64 a) := f1 0 _ rfl
  have q1 : Boxed _ (w.heap.size + 1) 3 (.int .i64 b) := f1 1 _ rfl
  have q2 : Boxed _ (w.heap.size + 2) 61 (.func (.func f) #[] #[]) := f1 2 _ rfl
  have q3 : Boxed _ (w.heap.size + 3) 3 (.int .i64 1) := f1 3 _ rfl
  simp only [lay] at z1 l1 q0 q1 q2 q3
  clear f1
  obtain ⟨n0, hn0⟩ : ∃ n, w.heap.size = n := ⟨_, rfl⟩
  have HALL := hide (And.intro l1 (And.intro q0 (And.intro q1 (And.intro q2 q3))))
  have c0 := q0.cell
  have c1 := q1.cell
  have c3 := q3.cell
  have f3 := q3.frozen
  rw [hn0] at c0 c1 c3 f3
  rw [hn0] at HALL
  have HN := hide hn0
  clear l1 q0 q1 q2 q3 z1
  by_cases h : b < a
  · have HS := hide (show stepD a b = -1 from if_pos h)
    go_enter Tryd.func37, Tryd.ntmps37
    go_wp2
    go_ret
    obtain ⟨z1, l1, f1⟩ := lay_facts [.cells #[.int .i64 a] 3, .cells #[.int .i64 b] 3, .cells #[.func (.func f) #[] #[]] 61, .cells #[.int .i64 (-1)] 3] w
    have q0 : Boxed _ w.heap.size 3 (.int .i64 a) := f1 0 _ rfl
    have q1 : Boxed _ (w.heap.size + 1) 3 (.int .i64 b) := f1 1 _ rfl
    have q2 : Boxed _ (w.heap.size + 2) 61 (.func (.func f) #[] #[]) := f1 2 _ rfl
    have q3 : Boxed _ (w.heap.size + 3) 3 (.int .i64 (-1)) := f1 3 _ rfl
    rw [HN.out] at q0 q1 q2 q3 l1
    rw [HS.out, HN.out]
    exact ⟨rfl, l1, q0, q1, q2, q3⟩
  · have HS := hide (show stepD a b = 1 from if_neg h)
    go_enter Tryd.func37, Tryd.ntmps37
    go_wp2
    go_ret
    obtain ⟨l1, q0, q1, q2, q3⟩ := HALL.out
    rw [HS.out]
    exact ⟨rfl, l1, q0, q1, q2, q3⟩
/-- What the package's tables hold. -/
structure GW (W : World) : Prop where
  maxw : ∃ m, W.cell? ⟨0, 0, none⟩ = some (.int .i64 m)
  pow : Lib.TabIs Tryd.prog W "internal/strconv.uint64pow10" .u64 Lib.pow10Tab
theorem pow_at : Tryd.prog.globalNamed "internal/strconv.uint64pow10" = some 1 := by kernel_rfl
theorem GW.lt {W : World} (h : GW W) : 1 < W.heap.size := by
  have h2 := h.pow
  unfold Lib.TabIs World.var? at h2
  rw [pow_at] at h2
  cases e : W.heap[1]? with
  | none => rw [Option.bind_some, e] at h2; cases h2
  | some o => exact (Array.getElem?_eq_some_iff.1 e).1
theorem GW.keep {W W' : World} (h : GW W) (h0 : W'.heap[0]? = W.heap[0]?) (h1 : W'.heap[1]? = W.heap[1]?) : GW W' := by
  constructor
  · obtain ⟨m, hm⟩ := h.maxw
    exact ⟨m, (World.cell?_of_block (a := ⟨0, 0, none⟩) h0).trans hm⟩
  · have h2 := h.pow
    unfold Lib.TabIs World.var? at h2 ⊢
    rw [pow_at] at h2 ⊢
    rw [Option.bind_some, h1]
    exact h2
theorem GW.below {W W' : World} {B : Nat} (h : GW W) (hb : Below B W W') (hB : 2 ≤ B) : GW W' := h.keep (hb.block 0 (by omega)) (hb.block 1 (by omega))
theorem GW.turn {C C' : Nat → Prop} {W W' : World} (h : GW W) (ht : TurnC C C' W W') (h0 : ¬ C 0) (h1 : ¬ C 1) : GW W' := h.keep (ht.block 0 (by have := h.lt; omega) h0) (ht.block 1 h.lt h1)
theorem GW.keepN {N : Nat} {C : Nat → Prop} {W W' : World} (h : GW W) (hk : KeepC N C W W') (hN : 2 ≤ N) : GW W' := h.keep (hk.block 0 (by have := h.lt; omega) (.inl (by omega))) (hk.block 1 h.lt (.inl (by omega)))
theorem u9' : Tryd.prog.underlying 9 = some .string := by kernel_rfl
theorem u60 : Tryd.prog.underlying 60 = some (.slice 5) := by kernel_rfl
theorem u5' : Tryd.prog.underlying 5 = some (.int .u8) := by kernel_rfl
set_option maxRecDepth 100000 in
theorem letterText_any (c : UInt8) (w : World) : Calls Tryd.prog 36 #[.int .i64 (c.toNat : Int)] w fun e w' => e = .returned (.string (bs [c])) ∧ Below w.heap.size w w' := by
  have hcn : c.toNat < 256 := c.toNat_lt
  have hcv : (Go.convert 60 9 (.slice (some ⟨w.heap.size, 0, none⟩) 1 1)).run Tryd.prog (w.alloc (.cells #[.int .u8 (c.toNat : Int)] 5)) = .ok (.string (bs [c])) (w.alloc (.cells #[.int .u8 (c.toNat : Int)] 5)) := by
    refine run_convert_bytes_back (w.alloc (.cells #[.int .u8 (c.toNat : Int)] 5)) 60 9 5 ⟨w.heap.size, 0, none⟩ 1 [c] u60 u5' u9' (fun j hj => ?_)
    have : j = 0 := by simp at hj; exact hj
    subst this
    exact (Boxed.new w 5 (.int .u8 (c.toNat : Int))).cell
  go_enter Tryd.func36, Tryd.ntmps36
  go_wp2
  go_ret
  exact ⟨rfl, (Below.refl _ _).alloc (Nat.le_refl _) _⟩
theorem growS_below (w : World) (os : Array Obj) : Below w.heap.size w (Go.Sort.grow w os) := ⟨rfl, rfl, rfl, by simp [Go.Sort.grow], fun k hk => by simp [Go.Sort.grow, Array.getElem?_append_left hk]⟩
/-- What a row's text function answers. -/
theorem text_any (l : Bool) (n : Int) (h0 : l = true → 0 ≤ n ∧ n < 256) (h1 : -1000000 ≤ n ∧ n ≤ 1000000) (w : World) (hG : GW w) : Calls Tryd.prog (textF l) #[.int .i64 n] w fun e w' => e = .returned (.string (bs (rowTextD l n))) ∧ Below w.heap.size w w' := by
  cases l with
  | true =>
    obtain ⟨a, b⟩ := h0 rfl
    have := letterText_any (UInt8.ofNat n.toNat) w
    have e : (((UInt8.ofNat n.toNat).toNat : Nat) : Int) = n := by
      rw [UInt8.toNat_ofNat']
      omega
    rw [e] at this
    exact this
  | false =>
    refine (Tryd.strconv_Itoa n (by omega) (by omega) w hG.pow).mono ?_
    rintro e w' ⟨he, k, os, rfl⟩
    exact ⟨he, (show Below w.heap.size w (w.drewN k) from ⟨rfl, rfl, rfl, Nat.le_refl _, fun _ _ => rfl⟩).trans (growS_below (w.drewN k) os)⟩
/-- A row's closure lies there. -/
structure RowAt (a b : Int) (l : Bool) (f1 f2 f3 f4 : Nat) (W : World) : Prop where
  b1 : Boxed W f1 3 (.int .i64 a)
  b2 : Boxed W f2 61 (.func (.func (textF l)) #[] #[])
  b3 : Boxed W f3 3 (.int .i64 b)
  b4 : Boxed W f4 3 (.int .i64 (stepD a b))
def nthD (a b : Int) (i : Nat) : Int := if b < a then a - (i : Int) else a + (i : Int)
theorem nums_len (a b : Int) : (numsD a b).length = (b - a).natAbs + 1 := by unfold numsD; simp
theorem nums_take {a b : Int} {i : Nat} (h : i < (b - a).natAbs + 1) : (numsD a b).take (i + 1) = (numsD a b).take i ++ [nthD a b i] := by
  rw [List.take_succ_eq_append_getElem (by rw [nums_len]; exact h)]
  congr 2
  unfold numsD nthD
  simp
theorem nth_step (a b : Int) (i : Nat) : nthD a b i + stepD a b = nthD a b (i + 1) := by
  unfold nthD stepD
  split <;> omega
theorem nth_last {a b : Int} {i : Nat} (h : i ≤ (b - a).natAbs) : nthD a b i = b ↔ i = (b - a).natAbs := by
  unfold nthD
  split <;> omega
theorem nth_in {a b lo hi : Int} {i : Nat} (h : i ≤ (b - a).natAbs) (ha : lo ≤ a ∧ a ≤ hi) (hb : lo ≤ b ∧ b ≤ hi) : lo ≤ nthD a b i ∧ nthD a b i ≤ hi := by
  unfold nthD
  split <;> omega
set_option maxRecDepth 100000 in
set_option maxHeartbeats 4000000 in
theorem row_hands (a b : Int) (l : Bool) (f1 f2 f3 f4 : Nat) (hl : l = true → (0 ≤ a ∧ a < 256) ∧ (0 ≤ b ∧ b < 256)) (ha : -1000000 ≤ a ∧ a ≤ 1000000) (hb : -1000000 ≤ b ∧ b ≤ 1000000) :
    Hands Tryd.prog 44 #[.pointer (some ⟨f1, 0, none⟩), .pointer (some ⟨f2, 0, none⟩), .pointer (some ⟨f3, 0, none⟩), .pointer (some ⟨f4, 0, none⟩)] encText ((numsD a b).map (rowTextD l)) (fun C W => RowAt a b l f1 f2 f3 f4 W ∧ GW W ∧ ¬ C f1 ∧ ¬ C f2 ∧ ¬ C f3 ∧ ¬ C f4 ∧ ¬ C 0 ∧ ¬ C 1) := by
  intro l2 J Jx C W hJ hJx hY hRd h0
  obtain ⟨hR, hG, n1, n2, n3, n4, n5, n6⟩ := hRd
  have c1 := hR.b1.cell
  refine callsIn_of_wp Tryd.func44 rfl trivial ?_ rfl
  simp only [Tryd.ntmps44, List.size_toArray, List.length_cons, List.length_nil, Nat.reduceAdd, Nat.reduceSub, Array.replicate_succ, Array.replicate_zero, List.push_toArray, List.append_toArray, List.nil_append, List.cons_append]
  gi_wp2
  gi_loopw [6] (fun nv wr => ∃ (i : Nat) (C : Nat → Prop), nv = .int .i64 (nthD a b i) ∧ i ≤ (b - a).natAbs ∧ J (((numsD a b).take i).map (rowTextD l)) C wr ∧ RowAt a b l f1 f2 f3 f4 wr ∧ GW wr ∧ ¬ C f1 ∧ ¬ C f2 ∧ ¬ C f3 ∧ ¬ C f4 ∧ ¬ C 0 ∧ ¬ C 1) (fun nv _ => if b < a then ((intOf nv) - b).toNat else (b - (intOf nv)).toNat)
  case atStart => exact ⟨0, C, by unfold nthD; simp, Nat.zero_le _, h0, hR, hG, n1, n2, n3, n4, n5, n6⟩
  case round =>
    obtain ⟨i, C, rfl, hi, hJ1, hR1, hG1, n1, n2, n3, n4, n5, n6⟩ := hrel
    obtain ⟨n, hn⟩ : ∃ n, nthD a b i = n := ⟨_, rfl⟩
    have hnb := nth_in (lo := -1000000) (hi := 1000000) hi ha hb
    have hnl : l = true → 0 ≤ n ∧ n < 256 := fun e => by
      obtain ⟨x, y⟩ := hl e
      have := nth_in (lo := 0) (hi := 255) hi (by omega) (by omega)
      rw [hn] at this
      omega
    have htk := nums_take (a := a) (b := b) (i := i) (by omega)
    have hst := nth_step a b i
    have hla := nth_last hi
    rw [hn] at hnb htk hst hla
    have htx := text_any l n hnl hnb wr hG1
    have hf1 : nthD a b (i + 1) = n + stepD a b := hst.symm
    have hsb : stepD a b = 1 ∨ stepD a b = -1 := by unfold stepD; split <;> simp
    have hme : nthD a b i = n := hn
    have HN := hide (And.intro hn (And.intro htk (And.intro hf1 hla)))
    rw [hn]
    clear hn htk hst hf1 hla hnl hme h0 hR hG c1 hl
    have c2 := hR1.b2.cell
    have HR1 := hide hR1
    have HJ1 := hide hJ1
    have HG1 := hide hG1
    clear hR1 hJ1 hG1
    have hY2 : ∀ W2 : World, Below wr.heap.size wr W2 → ∃ fn tmps assign body, (Instr.yield l2 #[.string (bs (rowTextD l n))]).run Tryd.prog W2 = .ok (.round l2 fn tmps assign body) W2 ∧ RoundIn Fence.wide 0 Tryd.prog l2 fn tmps assign body W2 fun e A' => ∃ C', TurnC C C' W2 A' ∧ ((e = .returned (.bool true) ∧ J (((numsD a b).take (i + 1)).map (rowTextD l)) C' A') ∨ (e = .returned (.bool false) ∧ Jx C' A')) := by
      intro W2 hB
      have h1 := hY (((numsD a b).take i).map (rowTextD l)) (rowTextD l n) C W2 (by
        rw [show [rowTextD l n] = [n].map (rowTextD l) from rfl, ← List.map_append, ← HN.out.2.1]
        exact List.IsPrefix.map _ (List.take_prefix _ _)) ((hJ _).keep _ _ _ HJ1.out (.of_below hB))
      rw [show ((numsD a b).take i).map (rowTextD l) ++ [rowTextD l n] = ((numsD a b).take (i + 1)).map (rowTextD l) by rw [HN.out.2.1, List.map_append]; rfl] at h1
      exact h1
    have hR2 : ∀ W2 : World, Below wr.heap.size wr W2 → RowAt a b l f1 f2 f3 f4 W2 := fun W2 hB => ⟨boxed_below HR1.out.b1 hB HR1.out.b1.lt, boxed_below HR1.out.b2 hB HR1.out.b2.lt, boxed_below HR1.out.b3 hB HR1.out.b3.lt, boxed_below HR1.out.b4 hB HR1.out.b4.lt⟩
    have HY2 := hide hY2
    have HR2 := hide hR2
    have HHJ := hide (And.intro hJ hJx)
    clear hY2 hR2 hY hJ hJx
    cases l
    all_goals
      simp only [textF, Bool.false_eq_true, if_true, if_false] at htx c2
      gi_wp2_with fail
      refine ⟨trivial, rfl, (callsIn_wide.2 htx).mono ?_⟩
      rintro e W2 ⟨rfl, hB2⟩
      clear htx
      obtain ⟨fn, tmps, assign, body, hy, hRd⟩ := HY2.out W2 hB2
      have hRa := HR2.out W2 hB2
      have hGa := HG1.out.below hB2 (by have := HG1.out.lt; omega)
      gi_wp2_with fail
      refine ⟨rfl, hRd.mono ?_⟩
      rintro e W3 ⟨C', ht, (⟨rfl, hj⟩ | ⟨rfl, hj⟩)⟩
      · have hRb : RowAt a b _ f1 f2 f3 f4 W3 := ⟨boxed_turn ht hRa.b1 n1, boxed_turn ht hRa.b2 n2, boxed_turn ht hRa.b3 n3, boxed_turn ht hRa.b4 n4⟩
        have hGb := hGa.turn ht n5 n6
        have m1 := keep_not ht hRa.b1.lt n1
        have m2 := keep_not ht hRa.b2.lt n2
        have m3 := keep_not ht hRa.b3.lt n3
        have m4 := keep_not ht hRa.b4.lt n4
        have m5 := keep_not ht (by have := hGa.lt; omega) n5
        have m6 := keep_not ht hGa.lt n6
        have c3 := hRb.b3.cell
        have c4 := hRb.b4.cell
        clear ht hy hRd hRa hGa
        by_cases hz : n = b
        · have hzb : (n != b) = false := by simp [hz]
          have hie := HN.out.2.2.2.1 hz
          clear hz
          gi_wp2
          go_end0
          refine ⟨⟨_, rfl⟩, C', .inl ?_⟩
          rw [List.take_of_length_le (by rw [nums_len]; omega)] at hj
          exact hj
        · have hzb : (n != b) = true := by simp [hz]
          have hie : i ≠ (b - a).natAbs := fun e => hz (HN.out.2.2.2.2 e)
          clear hz
          have hwr : IntKind.i64.wrap (n + stepD a b) = n + stepD a b := by rw [IntKind.wrap_i64]; omega
          gi_wp2
          case roundEnd =>
            refine ⟨⟨i + 1, C', by rw [HN.out.2.2.1], by omega, hj, hRb, hGb, m1, m2, m3, m4, m5, m6⟩, ?_⟩
            have hn := HN.out.1
            unfold nthD at hn
            unfold stepD
            by_cases hab : b < a
            · simp only [intOf, hab, if_true] at hn ⊢
              omega
            · simp only [intOf, hab, if_false] at hn ⊢
              omega
      · clear ht hy hRd
        gi_wp2
        go_end0
        exact ⟨⟨_, rfl⟩, C', .inr hj⟩
end Go.Proofs.YtgpgbobmpdgfeaaDoor
