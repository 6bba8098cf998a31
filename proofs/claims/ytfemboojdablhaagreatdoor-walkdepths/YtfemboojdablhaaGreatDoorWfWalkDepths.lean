/- The closed facts of a row, one by one. -/
import Derived.Test.YtfemboojdablhaaGreatDoorRows
import Derived.JoinedOf
import Derived.KernelRfl
namespace Go.Proofs.YtfemboojdablhaaGreatDoor.wc
open Go
set_option maxRecDepth 100000
set_option maxHeartbeats 40000000
theorem closedWalkDepths : joinedFacts Tryz.prog 5 Tryz.f5 Rows.walkDepthsSpec Rows.walkDepthsRow = true := by
  unfold joinedFacts
  simp only [Bool.and_eq_true]
  repeat' apply And.intro
  all_goals (as_aux_lemma => kernel_rfl)
end Go.Proofs.YtfemboojdablhaaGreatDoor.wc
