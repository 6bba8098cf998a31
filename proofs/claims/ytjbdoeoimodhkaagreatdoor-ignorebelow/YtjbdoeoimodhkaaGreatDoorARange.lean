/- A range over a method value: its rounds all go on. -/
import Derived.Test.YtjbdoeoimodhkaaGreatDoorAReach
namespace Go.Proofs.YtjbdoeoimodhkaaGreatDoor
open Go.RowKit Go.Shelf

/-- The iterator hands out xs, whatever the rounds keep. -/
def Hands (P : Program) (m : Nat) (gf : Nat) (ba : Array Value) (xs : List Nat) (Rd : World → Prop) : Prop :=
  ∀ (l : Nat) (J : List Nat → World → Prop) (W : World), (∀ pre A, J pre A → Rd A) →
    (∀ (pre : List Nat) (x : Nat) (A : World), pre ++ [x] <+: xs → J pre A → YieldAt Fence.wide (m - 1) P l #[.int .i64 (x : Int)] A fun e A' => e = .returned (.bool true) ∧ J (pre ++ [x]) A') →
    J [] W → CallsIn Fence.wide m P gf (ba ++ #[.func (.yield l) #[] #[]]) W fun e W' => (∃ v, e = .returned v) ∧ J xs W'
theorem range_hands {P : Program} {n : Nat} {g : Operand} {p : Tmp} {assign body : Code} {Q : Exit → Act → World → Prop} {a : Act} {w : World} {gf : Nat} {ba : Array Value} (hg : a.eval g = .func (.func gf) ba #[])
    (eg : ∀ args w, (callFunc gf args).run P w = .ok (.enter gf args) w) {xs : List Nat} {Rd : World → Prop} (hh : Hands P (n - 1) gf ba xs Rd)
    (I : List Nat → World → Prop) (hI : OwnFrom w.heap.size I) (hRd : ∀ pre A, I pre A → Rd A) (h0 : I [] w) (a₁ : Nat → Act)
    (hassign : ∀ (l x : Nat) (W : World) (K : Act → World → Prop), K (a₁ x) W → assign.wpIn (Fence.wide.inRound l) (n - 1 - 1) P (Exit.then K (fun _ _ _ => False)) { tmps := ((#[p] : Array Tmp).zip (#[.int .i64 (x : Int)] : Array Value)).foldl (fun t (q, v) => t.setIfInBounds q v) a.tmps, defers := [] } W)
    (hbody : ∀ (l : Nat) (pre : List Nat) (x : Nat) (W : World), w.heap.size ≤ l → (∃ r, W.heap[l]? = some (.loop r)) → pre ++ [x] <+: xs → I pre W → body.wpIn (Fence.wide.inRound l) (n - 1 - 1) P (fun e _ W' => e = .normal ∧ KeepsFrom w.heap.size W W' ∧ I (pre ++ [x]) W') (a₁ x) W)
    (hdone : ∀ (D : Nat) (W : World), w.heap.size ≤ D → I xs W → W.heap[D]? = some (.deferred (some [])) → Q .normal { a with defers := { target := .collected D, args := #[] } :: a.defers } W) :
    (Code.rangeFunc g #[p] assign body).wpIn Fence.wide n P Q a w := by
  refine wpIn_rangeFunc fun fn hfn => ?_
  obtain ⟨R, hR⟩ : ∃ R : LoopState → Loop, R = fun st => { state := st, pending := none, fn, tmps := a.tmps, params := #[p], assign, body, defers := w.heap.size } := ⟨_, rfl⟩
  have s1 : ((w.alloc (.deferred (some []))).alloc (.loop (R .ready))).heap[w.heap.size + 1]? = some (.loop (R .ready)) := by
    have := World.alloc_heap_new (w.alloc (.deferred (some []))) (.loop (R .ready))
    rwa [World.size_alloc] at this
  have s2 : ((w.alloc (.deferred (some []))).alloc (.loop (R .ready))).heap[w.heap.size]? = some (.deferred (some [])) := (Below.heap_alloc _ _ _ (by simp)).trans (World.alloc_heap_new w _)
  have s3 : I [] ((w.alloc (.deferred (some []))).alloc (.loop (R .ready))) := hI.alloc _ (hI.alloc _ h0)
  obtain ⟨W1, hW1⟩ : ∃ W1, (w.alloc (.deferred (some []))).alloc (.loop (R .ready)) = W1 := ⟨_, rfl⟩
  rw [hW1] at s1 s2 s3
  refine ⟨w.heap.size + 1, [{ target := .collected w.heap.size, args := #[] }], W1, { target := .fn (.func gf) #[], args := ba ++ #[.func (.yield (w.heap.size + 1)) #[] #[]] }, W1, gf, ba ++ #[.func (.yield (w.heap.size + 1)) #[] #[]], W1, ?_, ?_, fun _ _ => trivial, ?_, fun h => (by cases h), ?_⟩
  · rw [← hW1, hR]; exact run_enterLoop_outer _ _ _ _ _
  · simp only [resolve, hg]
    simp [go_sem]
  · simp [invoke, go_sem, eg]
  · refine (hh (w.heap.size + 1) (fun pre W => I pre W ∧ W.heap[w.heap.size + 1]? = some (.loop (R .ready)) ∧ W.heap[w.heap.size]? = some (.deferred (some []))) _ (fun pre A h => hRd pre A h.1) ?_ ⟨s3, s1, s2⟩).mono ?_
    · rintro pre x A hpre ⟨q1, q2, q3⟩
      have hlt := (Array.getElem?_eq_some_iff.1 q2).1
      have hy := run_yield (P := P) (args := #[.int .i64 (x : Int)]) q2 (by rw [hR]; rfl)
      rw [hR] at hy
      refine ⟨fn, _, assign, body, hy, roundIn_of_wpIn hfn (hassign _ x A _ ?_)⟩
      refine ⟨_, run_beginRound q2 (by rw [hR]), ?_⟩
      have q4 := World.putObj_heap_same (o := .loop { R .ready with state := .busy }) hlt
      refine wpIn_mono (hbody _ pre x _ (by omega) ⟨_, q4⟩ hpre (hI.putObj _ q1 (by omega) q2 rfl)) ?_
      rintro e a3 A3 ⟨rfl, hk, hi⟩
      have q5 := hk.same _ _ (by omega) q4 rfl
      have q6 := hk.same w.heap.size _ (Nat.le_refl _) ((World.putObj_heap_other (by omega)).trans q3) rfl
      have he := run_endRound (P := P) none q5
      rw [hR] at he q5 ⊢
      exact ⟨_, _, he, rfl, hI.putObj _ hi (by omega) q5 rfl, World.putObj_heap_same (Array.getElem?_eq_some_iff.1 q5).1, (World.putObj_heap_other (by omega)).trans q6⟩
    · rintro e W2 ⟨⟨v, rfl⟩, q1, q2, q3⟩
      refine ⟨none, _, by have := run_endLoop (P := P) q2 (by rw [hR]; simp); rw [hR] at this; exact this, hdone _ _ (Nat.le_refl _) (hI.putObj _ q1 (by omega) q2 rfl) ((World.putObj_heap_other (by omega)).trans q3)⟩
end Go.Proofs.YtjbdoeoimodhkaaGreatDoor
