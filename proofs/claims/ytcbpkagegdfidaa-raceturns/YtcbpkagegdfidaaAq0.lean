/- Law 13's fixed run: what its races are. -/
import Derived.Test.YtcbpkagegdfidaaTn
import Derived.Test.YtcbpkagegdfidaaRo
import Derived.Test.YtcbpkagegdfidaaZa
set_option linter.unusedSimpArgs false
set_option linter.unusedVariables false
namespace Go.Proofs.Ytcbpkagegdfidaa
open Go.RowKit

def awz : Evl := [(0, [(3, true)]), (1, [(3, true)])]
theorem awz_k : Evk awz := by
  refine ⟨by decide, fun e he => ?_⟩
  simp [awz] at he
  rcases he with rfl | rfl <;> exact ⟨by decide, by decide, by decide⟩
theorem awz_nrm : nrm [(3, true)] = [(3, true)] := by
  simp [nrm]
  rfl
theorem awz_dep : edep (0, [((3 : Int), true)]) (1, [(3, true)]) = true := by decide
theorem awz_rac : racs edep (·.1) awz 2 = [(0, 1)] := by
  have h1 : racd edep (·.1) awz 0 1 = true := by
    have h : Rac edep (·.1) awz 0 1 := ⟨by omega, (0, [(3, true)]), (1, [(3, true)]), rfl, rfl, by decide, awz_dep, fun k h1 h2 => by omega⟩
    simp [racd, h]
  unfold racs racn
  simp [List.range_succ, h1]
theorem awz_rac' : racs edep (·.1) awz awz.length = [(0, 1)] := awz_rac
theorem awz_tr : (trI awz 0 1).length = 1 := by
  have h : trk awz 0 1 = [] := trk_at awz 0
  unfold trI
  rw [if_neg (by simp [awz])]
  show (trk awz 0 1 ++ _).length = 1
  rw [h]
  rfl
end Go.Proofs.Ytcbpkagegdfidaa
