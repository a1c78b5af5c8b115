/- Do the events at two places depend on one another? -/
import Derived.Test.YtcbpkagegdfidaaAe
import Derived.Test.YtcbpkagegdfidaaNb
set_option linter.unusedSimpArgs false
set_option linter.unusedVariables false
namespace Go.Proofs.Ytcbpkagegdfidaa
open Go.RowKit

/-- Do the events at two places depend on one another? -/
def dpi (x : List (Int × List (Int × Bool))) (i j : Nat) : Bool := edep x[i]! x[j]!
theorem dpi_at {x : List (Int × List (Int × Bool))} {i j : Nat} {e f : Int × List (Int × Bool)} (he : x[i]? = some e) (hf : x[j]? = some f) : dpi x i j = edep e f := by
  obtain ⟨h1, h2⟩ := List.getElem?_eq_some_iff.1 he
  obtain ⟨h3, h4⟩ := List.getElem?_eq_some_iff.1 hf
  unfold dpi
  rw [getElem!_pos x i h1, getElem!_pos x j h3, h2, h4]
end Go.Proofs.Ytcbpkagegdfidaa
