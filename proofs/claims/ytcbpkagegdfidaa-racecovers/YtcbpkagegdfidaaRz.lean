/- race's own contracts, as the statements ask for them. -/
import Derived.Test.YtcbpkagegdfidaaAq
set_option linter.unusedSimpArgs false
set_option linter.unusedVariables false
namespace Go.Proofs.Ytcbpkagegdfidaa
open Go.RowKit

theorem allC : AllC := fun x v w hs hk => all_o kpO newO befO x v w hs hk
theorem turnC : TurnC := turned_o
end Go.Proofs.Ytcbpkagegdfidaa
