/- The law's statement: the kinds without an index, but for Cas, as one. -/
import Derived.Test.YtmomdcnlhljhcaaDoorMp
import Derived.Test.YtmomdcnlhljhcaaDoorKa
import Derived.Test.YtmomdcnlhljhcaaDoorKb
import Derived.Test.YtmomdcnlhljhcaaDoorKc
import Derived.Test.YtmomdcnlhljhcaaDoorKd
set_option linter.unusedSimpArgs false
set_option linter.unusedVariables false
namespace Go.Proofs.YtmomdcnlhljhcaaDoor
open Go.RowKit Ieee

def MkA (w : World) (x : Sml) (s : S5) : Ending → World → Prop := MkS w (aKd s.d) (aRg s) (aNm x s) (aIx x s) (aXs x s) (aOk x s)
theorem ix_no {x : Sml} {s : S5} (hi : aIx x s = false) (hk : 1 ≤ aKd s.d ∧ aKd s.d ≤ 5) : ((s.b : Int) % 4 == 3) = false ∨ (((s.b : Int) % 4 == 3) = true ∧ (x.ar : Int) % 4 = 0) := by
  have h := of_decide_eq_false (show decide _ = false from hi)
  by_cases hb : s.b % 4 = 3
  · right
    refine ⟨by simp; omega, by omega⟩
  · left
    simp; omega
theorem pl_0 (x : Sml) (p : Option Addr) (c : Nat) (s : S5) (hx : Smok x) (hs : S5ok s) (hi : aIx x s = false) (hm : s.d % 19 = 0) (w : World) : Calls Tryd.prog 40 #[smv x p c, s5v s] w (MkA w x s) := by
  have hk : aKd s.d = 2 := by unfold aKd; rw [hm]; rfl
  have h := mk_0 x p c s hx hs (by omega) (ix_no hi (by rw [hk]; decide)) w
  unfold MkA aRg aNm aXs aOk
  rw [hi, hk]
  exact h
theorem pl_1 (x : Sml) (p : Option Addr) (c : Nat) (s : S5) (hx : Smok x) (hs : S5ok s) (hi : aIx x s = false) (hm : s.d % 19 = 1) (w : World) : Calls Tryd.prog 40 #[smv x p c, s5v s] w (MkA w x s) := by
  have hk : aKd s.d = 1 := by unfold aKd; rw [hm]; rfl
  have h := mk_1 x p c s hx hs (by omega) (ix_no hi (by rw [hk]; decide)) w
  unfold MkA aRg aNm aXs aOk
  rw [hi, hk]
  exact h
theorem pl_2 (x : Sml) (p : Option Addr) (c : Nat) (s : S5) (hx : Smok x) (hs : S5ok s) (hi : aIx x s = false) (hm : s.d % 19 = 2) (w : World) : Calls Tryd.prog 40 #[smv x p c, s5v s] w (MkA w x s) := by
  have hk : aKd s.d = 2 := by unfold aKd; rw [hm]; rfl
  have h := mk_2 x p c s hx hs (by omega) (ix_no hi (by rw [hk]; decide)) w
  unfold MkA aRg aNm aXs aOk
  rw [hi, hk]
  exact h
theorem pl_3 (x : Sml) (p : Option Addr) (c : Nat) (s : S5) (hx : Smok x) (hs : S5ok s) (hi : aIx x s = false) (hm : s.d % 19 = 3) (w : World) : Calls Tryd.prog 40 #[smv x p c, s5v s] w (MkA w x s) := by
  have hk : aKd s.d = 1 := by unfold aKd; rw [hm]; rfl
  have h := mk_3 x p c s hx hs (by omega) (ix_no hi (by rw [hk]; decide)) w
  unfold MkA aRg aNm aXs aOk
  rw [hi, hk]
  exact h
theorem pl_4 (x : Sml) (p : Option Addr) (c : Nat) (s : S5) (hx : Smok x) (hs : S5ok s) (hi : aIx x s = false) (hm : s.d % 19 = 4) (w : World) : Calls Tryd.prog 40 #[smv x p c, s5v s] w (MkA w x s) := by
  have hk : aKd s.d = 3 := by unfold aKd; rw [hm]; rfl
  have h := mk_4 x p c s hx hs (by omega) (ix_no hi (by rw [hk]; decide)) w
  unfold MkA aRg aNm aXs aOk
  rw [hi, hk]
  exact h
theorem pl_5 (x : Sml) (p : Option Addr) (c : Nat) (s : S5) (hx : Smok x) (hs : S5ok s) (hi : aIx x s = false) (hm : s.d % 19 = 5) (w : World) : Calls Tryd.prog 40 #[smv x p c, s5v s] w (MkA w x s) := by
  have hk : aKd s.d = 4 := by unfold aKd; rw [hm]; rfl
  have h := mk_5 x p c s hx hs (by omega) (ix_no hi (by rw [hk]; decide)) w
  unfold MkA aRg aNm aXs aOk
  rw [hi, hk]
  exact h
theorem pl_7 (x : Sml) (p : Option Addr) (c : Nat) (s : S5) (hx : Smok x) (hs : S5ok s) (hi : aIx x s = false) (hm : s.d % 19 = 7) (w : World) : Calls Tryd.prog 40 #[smv x p c, s5v s] w (MkA w x s) := by
  have hk : aKd s.d = 6 := by unfold aKd; rw [hm]; rfl
  have h := mk_7 x p c s hx hs (by omega) w
  unfold MkA aRg aNm aXs aOk
  rw [hi, hk]
  exact h
theorem pl_8 (x : Sml) (p : Option Addr) (c : Nat) (s : S5) (hx : Smok x) (hs : S5ok s) (hi : aIx x s = false) (hm : s.d % 19 = 8) (w : World) : Calls Tryd.prog 40 #[smv x p c, s5v s] w (MkA w x s) := by
  have hk : aKd s.d = 7 := by unfold aKd; rw [hm]; rfl
  have h := mk_8 x p c s hx hs (by omega) w
  unfold MkA aRg aNm aXs aOk
  rw [hi, hk]
  exact h
theorem pl_9 (x : Sml) (p : Option Addr) (c : Nat) (s : S5) (hx : Smok x) (hs : S5ok s) (hi : aIx x s = false) (hm : s.d % 19 = 9) (w : World) : Calls Tryd.prog 40 #[smv x p c, s5v s] w (MkA w x s) := by
  have hk : aKd s.d = 8 := by unfold aKd; rw [hm]; rfl
  have h := mk_9 x p c s hx hs (by omega) w
  unfold MkA aRg aNm aXs aOk
  rw [hi, hk]
  exact h
theorem pl_10 (x : Sml) (p : Option Addr) (c : Nat) (s : S5) (hx : Smok x) (hs : S5ok s) (hi : aIx x s = false) (hm : s.d % 19 = 10) (w : World) : Calls Tryd.prog 40 #[smv x p c, s5v s] w (MkA w x s) := by
  have hk : aKd s.d = 9 := by unfold aKd; rw [hm]; rfl
  have h := mk_10 x p c s hx hs (by omega) w
  unfold MkA aRg aNm aXs aOk
  rw [hi, hk]
  exact h
theorem pl_11 (x : Sml) (p : Option Addr) (c : Nat) (s : S5) (hx : Smok x) (hs : S5ok s) (hi : aIx x s = false) (hm : s.d % 19 = 11) (w : World) : Calls Tryd.prog 40 #[smv x p c, s5v s] w (MkA w x s) := by
  have hk : aKd s.d = 10 := by unfold aKd; rw [hm]; rfl
  have h := mk_11 x p c s hx hs (by omega) w
  unfold MkA aRg aNm aXs aOk
  rw [hi, hk]
  exact h
theorem pl_12 (x : Sml) (p : Option Addr) (c : Nat) (s : S5) (hx : Smok x) (hs : S5ok s) (hi : aIx x s = false) (hm : s.d % 19 = 12) (w : World) : Calls Tryd.prog 40 #[smv x p c, s5v s] w (MkA w x s) := by
  have hk : aKd s.d = 11 := by unfold aKd; rw [hm]; rfl
  have h := mk_12 x p c s hx hs (by omega) w
  unfold MkA aRg aNm aXs aOk
  rw [hi, hk]
  exact h
theorem pl_13 (x : Sml) (p : Option Addr) (c : Nat) (s : S5) (hx : Smok x) (hs : S5ok s) (hi : aIx x s = false) (hm : s.d % 19 = 13) (w : World) : Calls Tryd.prog 40 #[smv x p c, s5v s] w (MkA w x s) := by
  have hk : aKd s.d = 12 := by unfold aKd; rw [hm]; rfl
  have h := mk_13 x p c s hx hs (by omega) w
  unfold MkA aRg aNm aXs aOk
  rw [hi, hk]
  exact h
theorem pl_14 (x : Sml) (p : Option Addr) (c : Nat) (s : S5) (hx : Smok x) (hs : S5ok s) (hi : aIx x s = false) (hm : s.d % 19 = 14) (w : World) : Calls Tryd.prog 40 #[smv x p c, s5v s] w (MkA w x s) := by
  have hk : aKd s.d = 13 := by unfold aKd; rw [hm]; rfl
  have h := mk_14 x p c s hx hs (by omega) w
  unfold MkA aRg aNm aXs aOk
  rw [hi, hk]
  exact h
theorem pl_15 (x : Sml) (p : Option Addr) (c : Nat) (s : S5) (hx : Smok x) (hs : S5ok s) (hi : aIx x s = false) (hm : s.d % 19 = 15) (w : World) : Calls Tryd.prog 40 #[smv x p c, s5v s] w (MkA w x s) := by
  have hk : aKd s.d = 14 := by unfold aKd; rw [hm]; rfl
  have h := mk_15 x p c s hx hs (by omega) w
  unfold MkA aRg aNm aXs aOk
  rw [hi, hk]
  exact h
theorem pl_16 (x : Sml) (p : Option Addr) (c : Nat) (s : S5) (hx : Smok x) (hs : S5ok s) (hi : aIx x s = false) (hm : s.d % 19 = 16) (w : World) : Calls Tryd.prog 40 #[smv x p c, s5v s] w (MkA w x s) := by
  have hk : aKd s.d = 15 := by unfold aKd; rw [hm]; rfl
  have h := mk_16 x p c s hx hs (by omega) w
  unfold MkA aRg aNm aXs aOk
  rw [hi, hk]
  exact h
theorem pl_17 (x : Sml) (p : Option Addr) (c : Nat) (s : S5) (hx : Smok x) (hs : S5ok s) (hi : aIx x s = false) (hm : s.d % 19 = 17) (w : World) : Calls Tryd.prog 40 #[smv x p c, s5v s] w (MkA w x s) := by
  have hk : aKd s.d = 16 := by unfold aKd; rw [hm]; rfl
  have h := mk_17 x p c s hx hs (by omega) w
  unfold MkA aRg aNm aXs aOk
  rw [hi, hk]
  exact h
theorem pl_18 (x : Sml) (p : Option Addr) (c : Nat) (s : S5) (hx : Smok x) (hs : S5ok s) (hi : aIx x s = false) (hm : s.d % 19 = 18) (w : World) : Calls Tryd.prog 40 #[smv x p c, s5v s] w (MkA w x s) := by
  have hk : aKd s.d = 0 := by unfold aKd; rw [hm]; rfl
  have h := mk_18 x p c s hx hs (by omega) w
  unfold MkA aRg aNm aXs aOk
  rw [hi, hk]
  exact h
theorem stmt_plain (x : Sml) (p : Option Addr) (c : Nat) (s : S5) (hx : Smok x) (hs : S5ok s) (hi : aIx x s = false) (h5 : aKd s.d ≠ 5) (w : World) : Calls Tryd.prog 40 #[smv x p c, s5v s] w (MkA w x s) := by
  have hlt : s.d % 19 < 19 := Nat.mod_lt _ (by decide)
  have h6 : s.d % 19 ≠ 6 := by intro h; apply h5; unfold aKd; rw [h]; rfl
  obtain ⟨m, hm⟩ : ∃ m, s.d % 19 = m := ⟨_, rfl⟩
  rw [hm] at hlt h6
  match m, hlt, h6 with
  | 0, _, h6 => exact pl_0 x p c s hx hs hi hm w
  | 1, _, h6 => exact pl_1 x p c s hx hs hi hm w
  | 2, _, h6 => exact pl_2 x p c s hx hs hi hm w
  | 3, _, h6 => exact pl_3 x p c s hx hs hi hm w
  | 4, _, h6 => exact pl_4 x p c s hx hs hi hm w
  | 5, _, h6 => exact pl_5 x p c s hx hs hi hm w
  | 6, _, h6 => exact absurd rfl h6
  | 7, _, h6 => exact pl_7 x p c s hx hs hi hm w
  | 8, _, h6 => exact pl_8 x p c s hx hs hi hm w
  | 9, _, h6 => exact pl_9 x p c s hx hs hi hm w
  | 10, _, h6 => exact pl_10 x p c s hx hs hi hm w
  | 11, _, h6 => exact pl_11 x p c s hx hs hi hm w
  | 12, _, h6 => exact pl_12 x p c s hx hs hi hm w
  | 13, _, h6 => exact pl_13 x p c s hx hs hi hm w
  | 14, _, h6 => exact pl_14 x p c s hx hs hi hm w
  | 15, _, h6 => exact pl_15 x p c s hx hs hi hm w
  | 16, _, h6 => exact pl_16 x p c s hx hs hi hm w
  | 17, _, h6 => exact pl_17 x p c s hx hs hi hm w
  | 18, _, h6 => exact pl_18 x p c s hx hs hi hm w
  | m + 19, h, _ => exact absurd h (by omega)
end Go.Proofs.YtmomdcnlhljhcaaDoor
