/- gauss.partFits, Fits, unsignedNought, ifFits: whether a float is a whole number within the limit; a number as an answer. -/
import Derived.Test.YtgiioflkclkioaaGreatDoorFz
import Derived.Test.YtgiioflkclkioaaGreatDoorChecked
import Derived.WalkKit
import Derived.WalkSpells
import Derived.WalkLawsBesides
import Derived.Lib.Hide
set_option linter.unusedSimpArgs false
set_option linter.unusedVariables false
namespace Go.Proofs.YtgiioflkclkioaaGreatDoor
open Go.RowKit Ieee

/-- What cutting towards nought gives. -/
def truncB (x : Nat) : Nat := FloatKind.f64.encode ((FloatKind.f64.decode x).integral .zero)

theorem toIntegral_at (nm : String) (way : Toward) (x : Nat) (h : (FloatKind.f64.decode x).isNaN = false) :
    Extern.MathFloor.toIntegral nm way #[.float .f64 x] = pure (.float .f64 (FloatKind.f64.encode ((FloatKind.f64.decode x).integral way))) := by
  change (match FloatKind.f64.decode x with
    | .nan s t => (_ : Sem Value)
    | d => (pure (Value.float .f64 (FloatKind.f64.encode (d.integral way))) : Sem Value)) = _
  cases hd : FloatKind.f64.decode x with
  | nan s t => rw [hd] at h; simp [Datum.isNaN] at h
  | infinity s => rfl
  | number s m e => rfl

theorem run_archTrunc (x : Nat) (h : (FloatKind.f64.decode x).isNaN = false) (w : World) : (callFunc 188 #[.float .f64 x]).run Tryz.prog w = .ok (.value (.float .f64 (truncB x))) w := by
  rw [run_callFunc_extern Tryz.func188 (by kernel_rfl) (by kernel_rfl) (by kernel_rfl) (e := Extern.MathFloor.toIntegral "math.archTrunc" .zero) (by kernel_rfl), toIntegral_at _ _ _ h]
  rfl

set_option maxRecDepth 100000 in
theorem trunc_any (x : Nat) (h : (FloatKind.f64.decode x).isNaN = false) (w : World) : Calls Tryz.prog 176 #[.float .f64 x] w fun e w' => e = .returned (.float .f64 (truncB x)) ∧ w = w' := by
  have hx := run_archTrunc x h w
  go_enter Tryz.func176, Tryz.ntmps176
  go_wp2
  go_ret
  exact ⟨rfl, rfl⟩

def NM : Nat := 13920626448202203136
def PM : Nat := 4697254411347427328
def geB (x : Nat) : Bool := FloatKind.f64.format.order x 13920626448202203136 == some .gt || FloatKind.f64.format.order x 13920626448202203136 == some .eq
def leB (x : Nat) : Bool := FloatKind.f64.format.order x 4697254411347427328 == some .lt || FloatKind.f64.format.order x 4697254411347427328 == some .eq
def whB (x : Nat) : Bool := FloatKind.f64.format.order x (truncB x) == some .eq
/-- Is it a whole number within the limit? -/
def pf (x : Nat) : Bool := geB x && leB x && whB x

theorem notNaN_of_ge {x : Nat} (h : geB x = true) : (FloatKind.f64.decode x).isNaN = false := by
  unfold geB at h
  unfold FloatKind.decode
  unfold Format.order at h
  cases hd : FloatKind.f64.format.read x with
  | nan s t => rw [hd] at h; simp [Datum.order] at h
  | infinity s => rfl
  | number s m e => rfl

set_option maxRecDepth 100000 in
theorem partFits_any (x : Nat) (w : World) : Calls Tryz.prog 180 #[.float .f64 x] w fun e w' => e = .returned (.bool (pf x)) ∧ w = w' := by
  cases h1 : geB x with
  | false =>
    have e : pf x = false := by simp [pf, h1]
    rw [e]
    unfold geB at h1
    go_enter Tryz.func180, Tryz.ntmps180
    go_wp2
    go_ret
    exact ⟨rfl, rfl⟩
  | true =>
    have hn := notNaN_of_ge h1
    cases h2 : leB x with
    | false =>
      have e : pf x = false := by simp [pf, h2]
      rw [e]
      unfold geB at h1
      unfold leB at h2
      go_enter Tryz.func180, Tryz.ntmps180
      go_wp2
      go_ret
      exact ⟨rfl, rfl⟩
    | true =>
      have e : pf x = whB x := by simp [pf, h1, h2]
      rw [e]
      unfold geB at h1
      unfold leB at h2
      unfold whB
      go_enter Tryz.func180, Tryz.ntmps180
      go_wp2_with (go_at_call 176; refine (trunc_any x hn _).mono ?_; rintro e w' ⟨rfl, rfl⟩)
      go_ret
      exact ⟨rfl, rfl⟩
end Go.Proofs.YtgiioflkclkioaaGreatDoor
