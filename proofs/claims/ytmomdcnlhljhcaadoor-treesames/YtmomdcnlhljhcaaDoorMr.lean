/- The law's statement, whatever was drawn. -/
import Derived.Test.YtmomdcnlhljhcaaDoorMq
import Derived.Test.YtmomdcnlhljhcaaDoorKe
import Derived.Test.YtmomdcnlhljhcaaDoorKf
import Derived.Test.YtmomdcnlhljhcaaDoorKg
import Derived.Test.YtmomdcnlhljhcaaDoorKh
set_option linter.unusedSimpArgs false
set_option linter.unusedVariables false
namespace Go.Proofs.YtmomdcnlhljhcaaDoor
open Go.RowKit Ieee

theorem ix_yes {x : Sml} {s : S5} (hi : aIx x s = true) : (((s.b : Int) % 4 == 3) = true) ∧ 0 < (x.ar : Int) % 4 := by
  have h := of_decide_eq_true (show decide _ = true from hi)
  refine ⟨by simp; omega, by omega⟩
theorem pi_0 (x : Sml) (p : Option Addr) (c : Nat) (s : S5) (hx : Smok x) (hs : S5ok s) (hi : aIx x s = true) (hm : s.d % 19 = 0) (w : World) : Calls Tryd.prog 40 #[smv x p c, s5v s] w (MkA w x s) := by
  have hk : aKd s.d = 2 := by unfold aKd; rw [hm]; rfl
  have h := mk_0i x p c s hx hs (by omega) (ix_yes hi).1 (ix_yes hi).2 w
  unfold MkA aRg aNm aXs aOk
  rw [hi, hk]
  exact h
theorem pi_1 (x : Sml) (p : Option Addr) (c : Nat) (s : S5) (hx : Smok x) (hs : S5ok s) (hi : aIx x s = true) (hm : s.d % 19 = 1) (w : World) : Calls Tryd.prog 40 #[smv x p c, s5v s] w (MkA w x s) := by
  have hk : aKd s.d = 1 := by unfold aKd; rw [hm]; rfl
  have h := mk_1i x p c s hx hs (by omega) (ix_yes hi).1 (ix_yes hi).2 w
  unfold MkA aRg aNm aXs aOk
  rw [hi, hk]
  exact h
theorem pi_2 (x : Sml) (p : Option Addr) (c : Nat) (s : S5) (hx : Smok x) (hs : S5ok s) (hi : aIx x s = true) (hm : s.d % 19 = 2) (w : World) : Calls Tryd.prog 40 #[smv x p c, s5v s] w (MkA w x s) := by
  have hk : aKd s.d = 2 := by unfold aKd; rw [hm]; rfl
  have h := mk_2i x p c s hx hs (by omega) (ix_yes hi).1 (ix_yes hi).2 w
  unfold MkA aRg aNm aXs aOk
  rw [hi, hk]
  exact h
theorem pi_3 (x : Sml) (p : Option Addr) (c : Nat) (s : S5) (hx : Smok x) (hs : S5ok s) (hi : aIx x s = true) (hm : s.d % 19 = 3) (w : World) : Calls Tryd.prog 40 #[smv x p c, s5v s] w (MkA w x s) := by
  have hk : aKd s.d = 1 := by unfold aKd; rw [hm]; rfl
  have h := mk_3i x p c s hx hs (by omega) (ix_yes hi).1 (ix_yes hi).2 w
  unfold MkA aRg aNm aXs aOk
  rw [hi, hk]
  exact h
theorem pi_4 (x : Sml) (p : Option Addr) (c : Nat) (s : S5) (hx : Smok x) (hs : S5ok s) (hi : aIx x s = true) (hm : s.d % 19 = 4) (w : World) : Calls Tryd.prog 40 #[smv x p c, s5v s] w (MkA w x s) := by
  have hk : aKd s.d = 3 := by unfold aKd; rw [hm]; rfl
  have h := mk_4i x p c s hx hs (by omega) (ix_yes hi).1 (ix_yes hi).2 w
  unfold MkA aRg aNm aXs aOk
  rw [hi, hk]
  exact h
theorem pi_5 (x : Sml) (p : Option Addr) (c : Nat) (s : S5) (hx : Smok x) (hs : S5ok s) (hi : aIx x s = true) (hm : s.d % 19 = 5) (w : World) : Calls Tryd.prog 40 #[smv x p c, s5v s] w (MkA w x s) := by
  have hk : aKd s.d = 4 := by unfold aKd; rw [hm]; rfl
  have h := mk_5i x p c s hx hs (by omega) (ix_yes hi).1 (ix_yes hi).2 w
  unfold MkA aRg aNm aXs aOk
  rw [hi, hk]
  exact h
theorem pi_6 (x : Sml) (p : Option Addr) (c : Nat) (s : S5) (hx : Smok x) (hs : S5ok s) (hi : aIx x s = true) (hm : s.d % 19 = 6) (w : World) : Calls Tryd.prog 40 #[smv x p c, s5v s] w (MkA w x s) := by
  have hk : aKd s.d = 5 := by unfold aKd; rw [hm]; rfl
  have h := mk_6i x p c s hx hs (by omega) (ix_yes hi).1 (ix_yes hi).2 w
  unfold MkA aRg aNm aXs aOk
  rw [hi, hk]
  exact h
theorem pl_6 (x : Sml) (p : Option Addr) (c : Nat) (s : S5) (hx : Smok x) (hs : S5ok s) (hi : aIx x s = false) (hm : s.d % 19 = 6) (w : World) : Calls Tryd.prog 40 #[smv x p c, s5v s] w (MkA w x s) := by
  have hk : aKd s.d = 5 := by unfold aKd; rw [hm]; rfl
  have h := mk_6 x p c s hx hs (by omega) (ix_no hi (by rw [hk]; decide)) w
  unfold MkA aRg aNm aXs aOk
  rw [hi, hk]
  exact h
theorem stmt_any (x : Sml) (p : Option Addr) (c : Nat) (s : S5) (hx : Smok x) (hs : S5ok s) (w : World) : Calls Tryd.prog 40 #[smv x p c, s5v s] w (MkA w x s) := by
  cases hi : aIx x s with
  | false =>
    by_cases h5 : aKd s.d = 5
    · refine pl_6 x p c s hx hs hi ?_ w
      have hlt : s.d % 19 < 19 := Nat.mod_lt _ (by decide)
      unfold aKd at h5
      generalize s.d % 19 = m at *
      match m, hlt with
      | 0, _ => exact absurd h5 (by decide)
      | 1, _ => exact absurd h5 (by decide)
      | 2, _ => exact absurd h5 (by decide)
      | 3, _ => exact absurd h5 (by decide)
      | 4, _ => exact absurd h5 (by decide)
      | 5, _ => exact absurd h5 (by decide)
      | 6, _ => exact rfl
      | 7, _ => exact absurd h5 (by decide)
      | 8, _ => exact absurd h5 (by decide)
      | 9, _ => exact absurd h5 (by decide)
      | 10, _ => exact absurd h5 (by decide)
      | 11, _ => exact absurd h5 (by decide)
      | 12, _ => exact absurd h5 (by decide)
      | 13, _ => exact absurd h5 (by decide)
      | 14, _ => exact absurd h5 (by decide)
      | 15, _ => exact absurd h5 (by decide)
      | 16, _ => exact absurd h5 (by decide)
      | 17, _ => exact absurd h5 (by decide)
      | 18, _ => exact absurd h5 (by decide)
      | m + 19, h => exact absurd h (by omega)
    · exact stmt_plain x p c s hx hs hi h5 w
  | true =>
    have hlt : s.d % 19 < 19 := Nat.mod_lt _ (by decide)
    have hk := (of_decide_eq_true (show decide _ = true from hi))
    have hk1 := hk.1
    have hk2 := hk.2.1
    obtain ⟨m, hm⟩ : ∃ m, s.d % 19 = m := ⟨_, rfl⟩
    unfold aKd at hk1 hk2
    rw [hm] at hlt hk1 hk2
    match m, hlt with
    | 0, _ => exact pi_0 x p c s hx hs hi hm w
    | 1, _ => exact pi_1 x p c s hx hs hi hm w
    | 2, _ => exact pi_2 x p c s hx hs hi hm w
    | 3, _ => exact pi_3 x p c s hx hs hi hm w
    | 4, _ => exact pi_4 x p c s hx hs hi hm w
    | 5, _ => exact pi_5 x p c s hx hs hi hm w
    | 6, _ => exact pi_6 x p c s hx hs hi hm w
    | 7, _ => exact absurd hk2 (by decide)
    | 8, _ => exact absurd hk2 (by decide)
    | 9, _ => exact absurd hk2 (by decide)
    | 10, _ => exact absurd hk2 (by decide)
    | 11, _ => exact absurd hk2 (by decide)
    | 12, _ => exact absurd hk2 (by decide)
    | 13, _ => exact absurd hk2 (by decide)
    | 14, _ => exact absurd hk2 (by decide)
    | 15, _ => exact absurd hk2 (by decide)
    | 16, _ => exact absurd hk2 (by decide)
    | 17, _ => exact absurd hk2 (by decide)
    | 18, _ => exact absurd hk1 (by decide)
    | m + 19, h => exact absurd h (by omega)
end Go.Proofs.YtmomdcnlhljhcaaDoor
