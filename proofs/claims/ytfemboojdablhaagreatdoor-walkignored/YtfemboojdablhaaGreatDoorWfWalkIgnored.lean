/- The closed facts of a row, one by one. -/
import Derived.Test.YtfemboojdablhaaGreatDoorRows
import Derived.JoinedOf
import Derived.KernelRfl
namespace Go.Proofs.YtfemboojdablhaaGreatDoor.wc
open Go
set_option maxRecDepth 100000
set_option maxHeartbeats 40000000
theorem closedWalkIgnored : joinedFacts Tryz.prog 6 Tryz.f6 Rows.walkIgnoredSpec Rows.walkIgnoredRow = true := by
  unfold joinedFacts
  simp only [Bool.and_eq_true]
  repeat' apply And.intro
  all_goals (as_aux_lemma => kernel_rfl)
end Go.Proofs.YtfemboojdablhaaGreatDoor.wc
