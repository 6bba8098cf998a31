/- Merged: ARange, AEach, AQuiet. -/
import Derived.Test.YtfemboojdablhaaGreatDoorMi02
import Derived.Lib.TrailingZeros
namespace Go.Proofs.YtfemboojdablhaaGreatDoor
open Go.RowKit Go.Shelf
def Hands (P : Program) (m : Nat) (gf : Nat) (ba : Array Value) (xs : List Nat) (Rd : World → Prop) : Prop :=
  ∀ (l : Nat) (J : List Nat → World → Prop) (W : World), (∀ pre A, J pre A → Rd A) →
    (∀ (pre : List Nat) (x : Nat) (A : World), pre ++ [x] <+: xs → J pre A → YieldAt Fence.wide (m - 1) P l #[.int .i64 (x : Int)] A fun e A' => e = .returned (.bool true) ∧ J (pre ++ [x]) A') →
    J [] W → CallsIn Fence.wide m P gf (ba ++ #[.func (.yield l) #[] #[]]) W fun e W' => (∃ v, e = .returned v) ∧ J xs W'
theorem range_hands {P : Program} {n : Nat} {g : Operand} {p : Tmp} {assign body : Code} {Q : Exit → Act → World → Prop} {a : Act} {w : World} {gf : Nat} {ba : Array Value} (hg : a.eval g = .func (.func gf) ba #[])
    (eg : ∀ args w, (callFunc gf args).run P w = .ok (.enter gf args) w) {xs : List Nat} {Rd : World → Prop} (hh : Hands P (n - 1) gf ba xs Rd)
    (I : List Nat → World → Prop) (hI : OwnFrom w.heap.size I) (hRd : ∀ pre A, I pre A → Rd A) (h0 : I [] w) (a₁ : Nat → Act)
    (hassign : ∀ (l x : Nat) (W : World) (K : Act → World → Prop), K (a₁ x) W → assign.wpIn (Fence.wide.inRound l) (n - 1 - 1) P (Exit.then K (fun _ _ _ => False)) { tmps := ((#[p] : Array Tmp).zip (#[.int .i64 (x : Int)] : Array Value)).foldl (fun t (q, v) => t.setIfInBounds q v) a.tmps, defers := [] } W)
    (hbody : ∀ (l : Nat) (pre : List Nat) (x : Nat) (W : World), w.heap.size ≤ l → (∃ r, W.heap[l]? = some (.loop r)) → pre ++ [x] <+: xs → I pre W → body.wpIn (Fence.wide.inRound l) (n - 1 - 1) P (fun e _ W' => e = .normal ∧ KeepsFrom w.heap.size W W' ∧ I (pre ++ [x]) W') (a₁ x) W)
    (hdone : ∀ (D : Nat) (W : World), w.heap.size ≤ D → I xs W → W.heap[D]? = some (.deferred (some [])) → Q .normal { a with defers := { target := .collected D, args := #[] } :: a.defers } W) :
    (Code.rangeFunc g #[p] assign body).wpIn Fence.wide n P Q a w := by
  refine wpIn_rangeFunc fun fn hfn => ?_
  obtain ⟨R, hR⟩ : ∃ R : LoopState → Loop, R = fun st => { state := st, pending := none, fn, tmps := a.tmps, params := #[p], assign, body, defers := w.heap.size } := ⟨_, rfl⟩
  have s1 : ((w.alloc (.deferred (some []))).alloc (.loop (R .ready))).heap[w.heap.size + 1]? = some (.loop (R .ready)) := by
    have := World.alloc_heap_new (w.alloc (.deferred (some []))) (.loop (R .ready))
    rwa [World.size_alloc] at this
  have s2 : ((w.alloc (.deferred (some []))).alloc (.loop (R .ready))).heap[w.heap.size]? = some (.deferred (some [])) := (Below.heap_alloc _ _ _ (by simp)).trans (World.alloc_heap_new w _)
  have s3 : I [] ((w.alloc (.deferred (some []))).alloc (.loop (R .ready))) := hI.alloc _ (hI.alloc _ h0)
  obtain ⟨W1, hW1⟩ : ∃ W1, (w.alloc (.deferred (some []))).alloc (.loop (R .ready)) = W1 := ⟨_, rfl⟩
  rw [hW1] at s1 s2 s3
  refine ⟨w.heap.size + 1, [{ target := .collected w.heap.size, args := #[] }], W1, { target := .fn (.func gf) #[], args := ba ++ #[.func (.yield (w.heap.size + 1)) #[] #[]] }, W1, gf, ba ++ #[.func (.yield (w.heap.size + 1)) #[] #[]], W1, ?_, ?_, fun _ _ => trivial, ?_, fun h => (by cases h), ?_⟩
  · rw [← hW1, hR]; exact run_enterLoop_outer _ _ _ _ _
  · simp only [resolve, hg]
    simp [go_sem]
  · simp [invoke, go_sem, eg]
  · refine (hh (w.heap.size + 1) (fun pre W => I pre W ∧ W.heap[w.heap.size + 1]? = some (.loop (R .ready)) ∧ W.heap[w.heap.size]? = some (.deferred (some []))) _ (fun pre A h => hRd pre A h.1) ?_ ⟨s3, s1, s2⟩).mono ?_
    · rintro pre x A hpre ⟨q1, q2, q3⟩
      have hlt := (Array.getElem?_eq_some_iff.1 q2).1
      have hy := run_yield (P := P) (args := #[.int .i64 (x : Int)]) q2 (by rw [hR]; rfl)
      rw [hR] at hy
      refine ⟨fn, _, assign, body, hy, roundIn_of_wpIn hfn (hassign _ x A _ ?_)⟩
      refine ⟨_, run_beginRound q2 (by rw [hR]), ?_⟩
      have q4 := World.putObj_heap_same (o := .loop { R .ready with state := .busy }) hlt
      refine wpIn_mono (hbody _ pre x _ (by omega) ⟨_, q4⟩ hpre (hI.putObj _ q1 (by omega) q2 rfl)) ?_
      rintro e a3 A3 ⟨rfl, hk, hi⟩
      have q5 := hk.same _ _ (by omega) q4 rfl
      have q6 := hk.same w.heap.size _ (Nat.le_refl _) ((World.putObj_heap_other (by omega)).trans q3) rfl
      have he := run_endRound (P := P) none q5
      rw [hR] at he q5 ⊢
      exact ⟨_, _, he, rfl, hI.putObj _ hi (by omega) q5 rfl, World.putObj_heap_same (Array.getElem?_eq_some_iff.1 q5).1, (World.putObj_heap_other (by omega)).trans q6⟩
    · rintro e W2 ⟨⟨v, rfl⟩, q1, q2, q3⟩
      refine ⟨none, _, by have := run_endLoop (P := P) q2 (by rw [hR]; simp); rw [hR] at this; exact this, hdone _ _ (Nat.le_refl _) (hI.putObj _ q1 (by omega) q2 rfl) ((World.putObj_heap_other (by omega)).trans q3)⟩
end Go.Proofs.YtfemboojdablhaaGreatDoor
namespace Go.Proofs.YtfemboojdablhaaGreatDoor
open Go.RowKit Go.Shelf
attribute [local go_sem] Oper.semAt_some
theorem tb_add (a b i : Nat) (hb : b < 2 ^ i) (j : Nat) : (2 ^ i * a + b).testBit j = if j < i then b.testBit j else a.testBit (j - i) := Nat.testBit_two_pow_mul_add a hb j
theorem tb_odd (m j : Nat) : (2 * m + 1).testBit j = (decide (j = 0) || (2 * m).testBit j) := by
  cases j with
  | zero => simp [Nat.testBit_zero]
  | succ j => rw [Nat.testBit_succ, Nat.testBit_succ]; simp; congr 1; omega
theorem low_bit (x : Nat) (h0 : x ≠ 0) (h : x < 18446744073709551616) : Lib.ctz 64 x < 64 ∧ x &&& (18446744073709551616 - x) = 2 ^ Lib.ctz 64 x ∧ ∀ j, x.testBit j = (decide (j = Lib.ctz 64 x) || (x &&& (x - 1)).testBit j) := by
  have h2 : x < 2 ^ 64 := h
  obtain ⟨a, b⟩ := Lib.lowest_bit 64 x h0 h2
  refine ⟨b, a, fun j => ?_⟩
  obtain ⟨m, hm, _⟩ := Lib.ctzFrom_spec 64 x (by omega) h2
  have hc : Lib.ctz 64 x = Lib.ctzFrom 64 x := by unfold Lib.ctz; rw [if_neg h0]
  rw [hc]
  generalize Lib.ctzFrom 64 x = t at hm
  have hp : 0 < 2 ^ t := Nat.pow_pos (by decide)
  have e1 : x = 2 ^ t * (2 * m + 1) + 0 := by rw [Nat.add_zero]; exact hm
  have e2 : x - 1 = 2 ^ t * (2 * m) + (2 ^ t - 1) := by rw [hm, Nat.mul_add, Nat.mul_one]; omega
  have b1 : ∀ j, x.testBit j = if j < t then false else (2 * m + 1).testBit (j - t) := fun j => by
    rw [e1, tb_add _ _ _ hp, Nat.zero_testBit]
  have b2 : ∀ j, (x - 1).testBit j = if j < t then true else (2 * m).testBit (j - t) := fun j => by
    rw [e2, tb_add _ _ _ (by omega)]
    by_cases hj : j < t
    · rw [if_pos hj, if_pos hj, Nat.testBit_two_pow_sub_one]; simp [hj]
    · rw [if_neg hj, if_neg hj]
  rw [Nat.testBit_and, b1, b2]
  by_cases hj : j < t
  · rw [if_pos hj]; simp; omega
  · rw [if_neg hj, if_neg hj, tb_odd]
    by_cases e : j = t
    · simp [e]
    · have : j - t ≠ 0 := by omega
      simp [e, this]
theorem low_lt (x : Nat) (h0 : x ≠ 0) : x &&& (x - 1) < x := Nat.lt_of_le_of_lt Nat.and_le_right (by omega)
def bl (x : Nat) : List Nat := if h : x = 0 then [] else Lib.ctz 64 x :: bl (x &&& (x - 1))
termination_by x
decreasing_by exact low_lt x h
theorem bl_zero : bl 0 = [] := by rw [bl]; rfl
theorem bl_step {x : Nat} (h : x ≠ 0) : bl x = Lib.ctz 64 x :: bl (x &&& (x - 1)) := by rw [bl, dif_neg h]
theorem bl_mem : ∀ (n x : Nat), x ≤ n → x < 18446744073709551616 → ∀ k, k ∈ bl x ↔ x.testBit k = true := by
  intro n
  induction n with
  | zero =>
    intro x hx _ k
    have : x = 0 := by omega
    subst this
    rw [bl_zero, Nat.zero_testBit]; simp
  | succ n ih =>
    intro x hx hb k
    by_cases h0 : x = 0
    · subst h0
      rw [bl_zero, Nat.zero_testBit]; simp
    · have hl := low_lt x h0
      rw [bl_step h0, List.mem_cons, ih _ (by omega) (by omega) k, (low_bit x h0 hb).2.2 k]
      simp
def els : Nat → List Nat → List Nat
  | _, [] => []
  | i, x :: ws => (bl x).map (fun t => i * 64 + t) ++ els (i + 1) ws
theorem els_snoc (x : Nat) : ∀ (ws : List Nat) (i : Nat), els i (ws ++ [x]) = els i ws ++ (bl x).map (fun t => (i + ws.length) * 64 + t) := by
  intro ws
  induction ws with
  | nil => intro i; simp [els]
  | cons a ws ih =>
    intro i
    rw [List.cons_append, els, els, ih, List.append_assoc, List.length_cons]
    congr 3
    funext t
    omega
theorem els_mem : ∀ (ws : List Nat) (i y : Nat), (∀ x ∈ ws, x < 18446744073709551616) → (y ∈ els i ws ↔ ∃ t j x, ws[j]? = some x ∧ t < 64 ∧ x.testBit t = true ∧ y = (i + j) * 64 + t) := by
  intro ws
  induction ws with
  | nil => intro i y _; simp [els]
  | cons a ws ih =>
    intro i y hb
    rw [els, List.mem_append, List.mem_map, ih (i + 1) y (fun x hx => hb x (by simp [hx]))]
    have ha := hb a (by simp)
    constructor
    · rintro (⟨t, ht, rfl⟩ | ⟨t, j, x, h1, h2, h3, rfl⟩)
      · have h3 := (bl_mem a a (Nat.le_refl _) ha t).1 ht
        have ht : t < 64 := by
          rcases Nat.lt_or_ge t 64 with h | h
          · exact h
          · have : a < 2 ^ t := Nat.lt_of_lt_of_le (show a < 2 ^ 64 from ha) (Nat.pow_le_pow_right (by decide) h)
            rw [Nat.testBit_lt_two_pow this] at h3; cases h3
        exact ⟨t, 0, a, rfl, ht, h3, by omega⟩
      · exact ⟨t, j + 1, x, by simpa using h1, h2, h3, by omega⟩
    · rintro ⟨t, j, x, h1, h2, h3, rfl⟩
      cases j with
      | zero =>
        simp at h1
        subst h1
        exact .inl ⟨t, (bl_mem a a (Nat.le_refl _) ha t).2 h3, by omega⟩
      | succ j => exact .inr ⟨t, j, x, by simpa using h1, h2, h3, by omega⟩
theorem els_in {ws : List Nat} (hb : ∀ x ∈ ws, x < 18446744073709551616) (y : Nat) : y ∈ els 0 ws ↔ inS ws y = true := by
  rw [els_mem ws 0 y hb]
  unfold inS
  constructor
  · rintro ⟨t, j, x, h1, h2, h3, rfl⟩
    have e1 : ((0 + j) * 64 + t) / 64 = j := by omega
    have e2 : ((0 + j) * 64 + t) % 64 = t := by omega
    rw [e1, e2, List.getD_eq_getElem?_getD, h1]
    exact h3
  · intro h
    cases e : ws[y / 64]? with
    | none => rw [List.getD_eq_getElem?_getD, e] at h; simp at h
    | some x =>
      rw [List.getD_eq_getElem?_getD, e] at h
      exact ⟨y % 64, y / 64, x, e, by omega, h, by omega⟩
def TabW (w : World) : Prop := ∀ j, j < 64 → w.cell? ⟨11, j, none⟩ = some (.int .u8 (Lib.deBruijn64tab.getD j 0 : Nat))
theorem tz_word (x a : Nat) (hx : x < 18446744073709551616) (hx0 : x ≠ 0) (hlow : x &&& (18446744073709551616 - x) = a) :
    IntKind.u64.wrap (bits BinOp.and IntKind.u64 (x : Int) (IntKind.u64.wrap (-(x : Int))) * 285870213051353865) / 288230376151711744 = ((a * 285870213051353865 % 18446744073709551616 / 288230376151711744 : Nat) : Int) := by
  have e1 : IntKind.u64.wrap (-(x : Int)) = ((18446744073709551616 - x : Nat) : Int) := by rw [IntKind.wrap_u64]; omega
  rw [e1, bits_and_u64_nat x _ hx (by omega), hlow, IntKind.wrap_u64]
  omega
set_option maxRecDepth 100000 in
set_option maxHeartbeats 1000000 in
theorem tz_core (x t idx : Nat) (w : World) (hx0 : ((x : Int) == 0) = false) (key : IntKind.u64.wrap (bits BinOp.and IntKind.u64 (x : Int) (IntKind.u64.wrap (-(x : Int))) * 285870213051353865) / 288230376151711744 = (idx : Int)) (hi : idx < 64) (hk : t < 64) (hcell : w.cell? ⟨11, idx, none⟩ = some (.int .u8 (t : Int))) :
    Calls Tryz.prog 216 #[.int .u64 (x : Int)] w fun e w' => e = .returned (.int .i64 (t : Int)) ∧ w' = w := by
  go_enter Tryz.func216, Tryz.ntmps216
  go_wp2_with (simp only [key])
  go_ret
  exact ⟨rfl, rfl⟩
theorem tz_any (x : Nat) (w : World) (h0 : x ≠ 0) (hx : x < 18446744073709551616) (hT : TabW w) :
    Calls Tryz.prog 216 #[.int .u64 (x : Int)] w fun e w' => e = .returned (.int .i64 ((Lib.ctz 64 x : Nat) : Int)) ∧ w' = w := by
  obtain ⟨hk, hlow, _⟩ := low_bit x h0 hx
  obtain ⟨hi, htab⟩ := Lib.deBruijn64_at _ hk
  have hcell := hT _ hi
  rw [htab] at hcell
  exact tz_core x _ _ w (by simp; omega) (tz_word x _ hx h0 hlow) hi hk hcell
theorem els_append (b : List Nat) : ∀ (a : List Nat) (i : Nat), els i (a ++ b) = els i a ++ els (i + a.length) b := by
  intro a
  induction a with
  | nil => intro i; simp [els]
  | cons x a ih =>
    intro i
    rw [List.cons_append, els, els, ih, List.append_assoc, List.length_cons]
    congr 3
    omega
theorem els_take (ws : List Nat) (i : Nat) : els 0 (ws.take i) <+: els 0 ws := by
  refine ⟨els (0 + (ws.take i).length) (ws.drop i), ?_⟩
  rw [← els_append, List.take_append_drop]
theorem els_next {ws : List Nat} {i : Nat} (hi : i < ws.length) : els 0 (ws.take (i + 1)) = els 0 (ws.take i) ++ (bl (ws.getD i 0)).map (fun t => i * 64 + t) := by
  rw [List.take_add_one, List.getElem?_eq_getElem hi]
  show els 0 (ws.take i ++ [ws[i]]) = _
  rw [els_snoc, List.length_take, List.getD_eq_getElem?_getD, List.getElem?_eq_getElem hi]
  congr 2
  funext t
  rw [Nat.min_eq_left (by omega)]
  omega
theorem and_word (x : Nat) (h0 : x ≠ 0) (hx : x < 18446744073709551616) : bits .and .u64 (x : Int) ((x : Int) - 1) = ((x &&& (x - 1) : Nat) : Int) := by
  have e1 : (x : Int) - 1 = ((x - 1 : Nat) : Int) := by omega
  rw [e1, bits_and_u64_nat x _ hx (by omega)]
set_option maxRecDepth 100000 in
set_option maxHeartbeats 2000000 in
theorem each_hands (B m : Nat) (hm : 1 ≤ m) (v : Value) (ws : List Nat) (hp : 0 < ws.length) (hb : ws.length ≤ 10000000) : Hands Tryz.prog m 245 #[v] (els 0 ws) (fun A => SetRow B A v ws ∧ TabW A) := by
  intro l J W hRd hY h0
  obtain ⟨g, cap, rfl, _⟩ := (hRd [] W h0).1.form hp
  refine callsIn_of_wp Tryz.func245 rfl trivial ?_ rfl
  simp only [Tryz.ntmps245, List.size_toArray, List.length_cons, List.length_nil, Nat.reduceAdd, Nat.reduceSub, Array.replicate_succ, Array.replicate_zero, List.push_toArray, List.append_toArray, List.nil_append, List.cons_append]
  gi_wp2
  gi_loopw [8] (fun iv wr => ∃ i : Nat, iv = .int .i64 (i : Int) ∧ i ≤ ws.length ∧ J (els 0 (ws.take i)) wr) (fun iv _ => ws.length - (intOf iv).toNat)
  case atStart => exact ⟨0, rfl, Nat.zero_le _, h0⟩
  case round =>
    obtain ⟨i, rfl, hil, hJ⟩ := hrel
    by_cases hi : i < ws.length
    · have hiI : ((i : Int) < (ws.length : Int)) := by omega
      have hc := (hRd _ _ hJ).1.cell hi
      have hxb := getD_lim (hRd _ _ hJ).1.lim i
      obtain ⟨x0, hx0⟩ : ∃ x0, ws.getD i 0 = x0 := ⟨_, rfl⟩
      rw [hx0] at hc hxb
      gi_wp2
      gi_loopw [5] (fun xv wr => ∃ (x : Nat) (pre : List Nat), xv = .int .u64 (x : Int) ∧ x < 18446744073709551616 ∧ J pre wr ∧ pre ++ (bl x).map (fun t => i * 64 + t) = els 0 (ws.take (i + 1))) (fun xv _ => (intOf xv).toNat)
      case atStart => exact ⟨x0, _, rfl, hxb, hJ, by rw [els_next hi, hx0]⟩
      case round =>
        obtain ⟨x, pre, rfl, hx, hJ1, hpre⟩ := hrel
        by_cases hx0 : x = 0
        · subst hx0
          rw [bl_zero, List.map_nil, List.append_nil] at hpre
          gi_wp2
          case roundEnd =>
            refine ⟨⟨i + 1, by simp, by omega, hpre ▸ hJ1⟩, ?_⟩
            simp [intOf]
            omega
        · have hxe : ((x : Int) != 0) = true := by simp; omega
          have hT := (hRd _ _ hJ1).2
          have hct := (low_bit x hx0 hx).1
          have HA := hide (and_word x hx0 hx)
          rw [bl_step hx0, List.map_cons] at hpre
          obtain ⟨t, ht⟩ : ∃ t, Lib.ctz 64 x = t := ⟨_, rfl⟩
          have htz := tz_any x _ hx0 hx hT
          rw [ht] at htz hpre hct
          have hyp : pre ++ [i * 64 + t] <+: els 0 ws := List.IsPrefix.trans ⟨(bl (x &&& (x - 1))).map (fun t => i * 64 + t), by rw [List.append_assoc]; exact hpre⟩ (els_take ws (i + 1))
          obtain ⟨fn, tmps, assign, body, hy, hR⟩ := hY pre (i * 64 + t) _ hyp hJ1
          have ecast : ((i * 64 + t : Nat) : Int) = (i : Int) * 64 + (t : Int) := by omega
          rw [ecast] at hy
          clear ecast
          gi_wp2_with (refine ⟨trivial, ?_⟩; gi_at_call 216; refine (callsIn_wide.2 htz).mono ?_; rintro e w' ⟨rfl, rfl⟩)
          refine hR.mono ?_
          rintro e W3 ⟨rfl, hJ3⟩
          gi_wp2
          case roundEnd =>
            rw [HA.out]
            have hl := low_lt x hx0
            refine ⟨⟨x &&& (x - 1), pre ++ [i * 64 + t], rfl, by omega, hJ3, by rw [List.append_assoc]; exact hpre⟩, ?_⟩
            simp only [intOf, Int.toNat_natCast]
            exact hl
    · have hiI : ¬ ((i : Int) < (ws.length : Int)) := by omega
      have hie : i = ws.length := by omega
      gi_wp2
      go_end0
      refine ⟨⟨_, rfl⟩, ?_⟩
      rw [hie, List.take_length] at hJ
      exact hJ
end Go.Proofs.YtfemboojdablhaaGreatDoor
namespace Go.Proofs.YtfemboojdablhaaGreatDoor
open Go.RowKit Go.Shelf
def noDefer (o : Oper) : Bool := match o.op with
  | .defer _ => false
  | _ => true
theorem op_round {F : Fence} (hro : F.round = none) (l : Nat) {n : Nat} {P : Program} {o : Oper} (hd : noDefer o = true) {a : Act} {w : World} {K : Act → World → Prop} {Q : Exit → Act → World → Prop} (h : o.wpIn F n P a w K Q) : o.wpIn (F.inRound l) n P a w K Q := by
  have hnd : ∀ c, o.op ≠ .defer c := fun c e => by unfold noDefer at hd; rw [e] at hd; cases hd
  unfold Oper.wpIn at h ⊢
  rw [hro, Oper.semAt_none] at h
  rw [Fence.inRound_round, Oper.semAt_some l _ _ hnd]
  refine ⟨h.1, ?_⟩
  have h2 := h.2
  generalize (execOp a.eval o).run P w = r at h2
  match r, h2 with
  | .ok (.value v) w', h2 => exact h2
  | .ok .skip w', h2 => exact h2
  | .ok (.defer d) w', h2 => exact h2
  | .ok (.enter f args) w', h2 => exact h2
  | .ok (.row row args) w', h2 => exact h2
  | .ok (.round l f tmps assign body) w', h2 => exact h2
  | .halt (.panic v) w', h2 => exact h2
theorem any_round {F : Fence} (hro : F.round = none) (l : Nat) {n : Nat} {P : Program} {md : Region.Mode} {ops : Array Oper} (hd : ops.all noDefer = true) {Q : Exit → Act → World → Prop} : ∀ (fuel : Nat) (listed : Array Bool) (a : Act) (w : World), wpAnyIn F n P md ops Q fuel listed a w → wpAnyIn (F.inRound l) n P md ops Q fuel listed a w := by
  intro fuel
  induction fuel with
  | zero => intro listed a w h; exact h
  | succ fuel ih =>
    rintro listed a w ⟨h1, h2⟩
    refine ⟨h1, fun i hi => ?_⟩
    have h3 := h2 i hi
    unfold wpOpIn at h3 ⊢
    cases ho : ops[i]? with
    | none => rw [ho] at h3; exact ih _ _ _ h3
    | some o =>
      rw [ho] at h3
      dsimp only at h3 ⊢
      have hdo : noDefer o = true := by
        rw [Array.all_eq_true] at hd
        obtain ⟨hlt, e⟩ := Array.getElem?_eq_some_iff.1 ho
        rw [← e]; exact hd i hlt
      split at h3
      · rename_i hw
        rw [if_pos hw]
        exact op_round hro l hdo (Oper.wpIn_mono (fun a w h => ih _ a w h) h3)
      · rename_i hw
        rw [if_neg hw]
        exact ⟨h3.1, ih _ _ _ h3.2⟩
theorem region_quiet_round {F : Fence} (hro : F.round = none) (l0 : Nat) {n : Nat} {P : Program} {id : Nat} {Q : Exit → Act → World → Prop} {a : Act} {w : World} {l : List Oper} (hd : l.toArray.all noDefer = true) (hm : P.follows .mixedOrders = true) (hB : Region.lexB .any l.toArray = true)
    (h : wpQuietIn F n P l.toArray (fun w' => ∃ n, w' = w.drewN n) (fun a' => ∀ w', (∃ n, w' = w.drewN n) → Q .normal a' w') l a) : (Code.region id l.toArray true).wpIn (F.inRound l0) n P Q a w := by
  simp only [Region.lexB, Bool.and_eq_true] at hB
  refine wpIn_region_any hm (any_round hro l0 hd _ _ _ _ ?_)
  refine wpAnyIn_of_quiet (C := fun w' => ∃ n, w' = w.drewN n) (Q := fun a' => ∀ w', (∃ n, w' = w.drewN n) → Q .normal a' w') hro (fun _ w' hw' h => h w' hw') _ _ _ _ ⟨1, rfl⟩ ?_
  have := wpAnyQIn_lex (F := F) (n := n) (C := fun w' => ∃ n, w' = w.drewN n) (md := .any) hB.1 l 0 (Array.replicate l.toArray.size false) a (by simp) (by simpa using hB.2) h
  simpa using this
end Go.Proofs.YtfemboojdablhaaGreatDoor
