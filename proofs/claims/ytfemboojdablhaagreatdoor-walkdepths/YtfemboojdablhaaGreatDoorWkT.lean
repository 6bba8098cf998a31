/- Walk: its bounds, and what is deferred. -/
import Derived.Test.YtfemboojdablhaaGreatDoorWkS
import Derived.Recover
namespace Go.Proofs.YtfemboojdablhaaGreatDoor.Tre
open Go.RowKit Go.Shelf

set_option maxRecDepth 100000 in
set_option maxHeartbeats 1000000 in
theorem inRange_any (deep : Bool) (mn mx ms : Int) (w : World) (h1 : 0 ≤ mn) (h2 : 0 ≤ mx) (h3 : 0 ≤ ms) (h4 : ms ≤ 100000) :
    Calls Tryz.prog 21 #[optV deep mn mx ms] w fun e w' => e = .returned (.bool true) ∧ Below w.heap.size w w' := by
  have b1 : decide ((0 : Int) ≤ mn) = true := decide_eq_true h1
  have b2 : decide ((0 : Int) ≤ mx) = true := decide_eq_true h2
  have b3 : decide ((0 : Int) ≤ ms) = true := decide_eq_true h3
  have b4 : decide (ms ≤ (100000 : Int)) = true := decide_eq_true h4
  go_enter Tryz.func21, Tryz.ntmps21
  go_wp2
  go_ret
  exact ⟨rfl, (Below.refl _ _).alloc (Nat.le_refl _) _⟩
theorem num_any (x : Int) (w : World) : Calls Tryz.prog 10 #[.int .i64 x] w fun e w' => e = .returned (.int .i64 x) ∧ w' = w := by
  go_enter Tryz.func10, Tryz.ntmps10
  go_wp2
  go_ret
  exact ⟨rfl, rfl⟩
set_option maxRecDepth 100000 in
set_option maxHeartbeats 1000000 in
theorem wcatch_idle (a b d : Nat) (w : World) :
    CallsD Tryz.prog 23 #[.pointer (some ⟨a, 0, none⟩), .pointer (some ⟨b, 0, none⟩), .pointer (some ⟨d, 0, none⟩)] .returning w fun e u' w' => e = .returned (.tuple #[]) ∧ u' = .returning ∧ w' = w := by
  refine callsD_of_wpS Tryz.func23 rfl fun c₀ cs hu => ?_
  apply wpS_seq
  apply wpS_region
  simp [wpOpsS, go_sem, recoverD, hu, Tryz.ntmps23, Exit.thenS]
  refine wpS_of_wp ?_
  change Code.wp Tryz.prog _ _ { tmps := #[.pointer (some ⟨a, 0, none⟩), .pointer (some ⟨b, 0, none⟩), .pointer (some ⟨d, 0, none⟩), .nilIface, .nilIface, undef, undef, undef, undef, undef, undef, undef, undef], defers := [] } w
  go_wp2
  cases c₀
  simp_all [bodyPostS, results, Tryz.results23]
end Go.Proofs.YtfemboojdablhaaGreatDoor.Tre
