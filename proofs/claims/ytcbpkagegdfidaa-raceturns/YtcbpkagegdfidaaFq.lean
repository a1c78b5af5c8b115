/- What comes in besides: a race by value. -/
import Derived.Test.YtcbpkagegdfidaaFr
import Derived.ProofKit
import Derived.OpenShut
import Derived.Deep.DeepHandedRow
import Derived.Deep.Slices
import Derived.Deep.Fields
import Derived.Lib.LaidTab
import Derived.Lib.SmallJoins
set_option linter.unusedSimpArgs false
set_option linter.unusedVariables false
namespace Go.Proofs.Ytcbpkagegdfidaa
open Go.ChangeShapes Go.WideShapes Go.ChangeAt Go.RowKit Go.Deep

theorem cellsR : Try.prog.cellsOf 30 = 2 := by kernel_rfl
section
variable {H : Type} {enc : TypeId × Value → H} {W : World} {base : Nat} {spare : Nat → Bool} {held : Bool}
set_option maxRecDepth 100000 in
/-- A race by value. -/
theorem open_race {r : Reach} {b0 : Nat} {v : Value} {d : DataW H} {p : List MemPlace} (hv : Value.okWide Try.prog W r b0 30 v) (h : DataW.Trod enc Try.prog W base spare held 30 v d p) :
    ∃ x y : Int, v = .agg #[.int .i64 x, .int .i64 y] ∧ d = .agg [.lit (.int .i64 x), .lit (.int .i64 y)] ∧ p = [] ∧ (Lit.int .i64 x).wf = true ∧ (Lit.int .i64 y).wf = true := by
  obtain ⟨c0, c1, y0, y1, m, rfl, rfl, rfl, hy0, hy1⟩ := Joins.open_agg2 Try.underlying30 (by kernel_rfl) cellsR hv h
  obtain ⟨x, e0, g0, f0⟩ := DataW.trod_int Try.underlying3 hy0
  obtain ⟨y, e1, g1, f1⟩ := DataW.trod_int Try.underlying3 hy1
  simp only [List.cons.injEq, and_true] at e0 e1
  subst e0
  subst e1
  subst g0
  subst g1
  exact ⟨x, y, rfl, rfl, rfl, f0, f1⟩
set_option maxRecDepth 100000 in
theorem shut_race {W' : World} {b' : Nat} {sp : Nat → Bool} {hd : Bool} {x y : Int} (h : (Lit.int .i64 x).wf = true ∧ (Lit.int .i64 y).wf = true) : DataW.Trod enc Try.prog W' b' sp hd 30 (.agg #[.int .i64 x, .int .i64 y]) (.agg [.lit (.int .i64 x), .lit (.int .i64 y)]) [] :=
  Joins.shut_agg2 (y0 := (.lit (.int .i64 x), [])) (y1 := (.lit (.int .i64 y), [])) Try.underlying30 (by kernel_rfl) cellsR (shut_int Try.underlying3 h.1) (shut_int Try.underlying3 h.2)
end
end Go.Proofs.Ytcbpkagegdfidaa
