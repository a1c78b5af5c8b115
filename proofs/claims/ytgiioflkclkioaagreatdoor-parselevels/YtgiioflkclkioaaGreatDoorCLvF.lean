/- ParseLevels: the closed facts of its row, one by one. -/
import Derived.Test.YtgiioflkclkioaaGreatDoorFr
namespace Go.Proofs.YtgiioflkclkioaaGreatDoor.parseLevels
open Go.ChangeShapes Go.WideShapes Go.ChangeAt Go.RowKit

set_option maxHeartbeats 6400000 in
theorem closed : joinedFacts Tryz.pinned.checked.prog 7 Tryz.f7 (OpenSpec.ofChange Rows.parseLevelsSpec).bare Rows.parseLevelsRow = true := by
  simp only [joinedFacts, Bool.and_eq_true]
  repeat' apply And.intro
  all_goals (as_aux_lemma => kernel_rfl)
end Go.Proofs.YtgiioflkclkioaaGreatDoor.parseLevels
