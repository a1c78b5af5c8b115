/- The law's statement, as a plain function of what was drawn (no bodies yet); it is a right one. -/
import Derived.Test.YtmomdcnlhljhcaaDoorMs
set_option linter.unusedSimpArgs false
set_option linter.unusedVariables false
namespace Go.Proofs.YtmomdcnlhljhcaaDoor
open Go.RowKit Ieee

def aKd (d : Nat) : Nat :=
  match d % 19 with
  | 0 => 2 | 1 => 1 | 2 => 2 | 3 => 1 | 4 => 3 | 5 => 4 | 6 => 5 | 7 => 6 | 8 => 7 | 9 => 8 | 10 => 9 | 11 => 10
  | 12 => 11 | 13 => 12 | 14 => 13 | 15 => 14 | 16 => 15 | 17 => 16 | _ => 0
def aIx (x : Sml) (s : S5) : Bool := decide (1 ≤ aKd s.d ∧ aKd s.d ≤ 5 ∧ s.b % 4 = 3 ∧ 0 < x.ar % 4)
def aNm (x : Sml) (s : S5) : List UInt8 :=
  if aIx x s then [118] else
  if aKd s.d = 0 then [] else
  if aKd s.d ≤ 5 then lett 120 s.b (1 + x.ce % 3) else
  if aKd s.d ≤ 8 then lett 109 s.b (max (x.mu % 3) 1) else
  if aKd s.d ≤ 10 then lett 115 s.b (max (x.se % 3) 1) else
  if aKd s.d ≤ 12 then lett 116 s.b (max x.th.length 1) else []
def aRg (s : S5) : List UInt8 := if gives (aKd s.d) then [aReg s.c] else []
def aXs (x : Sml) (s : S5) : List Ex :=
  (if aIx x s then [aExpr (s.b / 4 % 7) ((s.b / 32 : Nat) : Int)] else []) ++
  ((if 1 ≤ takes (aKd s.d) then [aExpr s.a s.n] else []) ++ (if takes (aKd s.d) = 2 then [aNum (IntKind.i8.wrap (s.n + 1))] else []))
def aOk (x : Sml) (s : S5) : Bool :=
  if 6 ≤ aKd s.d ∧ aKd s.d ≤ 8 then decide (0 < x.mu % 3) else if 9 ≤ aKd s.d ∧ aKd s.d ≤ 10 then decide (0 < x.se % 3) else true
theorem aKd_lt (d : Nat) : aKd d < 17 := by unfold aKd; split <;> decide
theorem wx_num (n : Int) : Wx (aNum n) := by
  unfold aNum
  have h0 := Int.emod_nonneg n (show (16 : Int) ≠ 0 by decide)
  have h1 := Int.emod_lt_of_pos n (show (0 : Int) < 16 by decide)
  split
  · refine ⟨Or.inl rfl, by decide, ?_⟩; omega
  · refine ⟨Or.inr rfl, ?_, by decide⟩; omega
theorem aReg_cases (r : Nat) : aReg r = 97 ∨ aReg r = 98 ∨ aReg r = 99 := by
  unfold aReg
  have h : r % 3 = 0 ∨ r % 3 = 1 ∨ r % 3 = 2 := by omega
  rcases h with h | h | h <;> rw [h]
  · exact Or.inl rfl
  · exact Or.inr (Or.inl rfl)
  · exact Or.inr (Or.inr rfl)
theorem wx_reg (r : Nat) : Wx (.reg (aReg r)) := aReg_cases r
theorem wx_expr (a : Nat) (n : Int) : Wx (aExpr a n) := by
  have h1 := wx_num n
  have h2 := wx_reg (a / 16)
  unfold aExpr
  split
  all_goals first
    | exact h1
    | exact h2
    | exact ⟨by decide, h2, h1⟩
    | exact ⟨by decide, h1, h2⟩
    | exact ⟨by decide, by decide, h2, h1⟩
    | exact ⟨by decide, h2⟩
    | exact ⟨by decide, by decide, h2, h2⟩
/-- What is made is right. -/
theorem aStmt_right (x : Sml) (s : S5) : Wh (aKd s.d) (aRg s) (aNm x s) (aIx x s) (aXs x s) where
  kd := aKd_lt _
  ex := by
    intro y hy
    unfold aXs at hy
    rcases List.mem_append.1 hy with h | h
    · split at h
      · rw [List.mem_singleton.1 h]; exact wx_expr _ _
      · exact absurd h (List.not_mem_nil)
    · rcases List.mem_append.1 h with h | h
      · split at h
        · rw [List.mem_singleton.1 h]; exact wx_expr _ _
        · exact absurd h (List.not_mem_nil)
      · split at h
        · rw [List.mem_singleton.1 h]; exact wx_num _
        · exact absurd h (List.not_mem_nil)
  many := by
    have ht : takes (aKd s.d) ≤ 2 := by unfold takes; split; omega; split <;> omega
    have h0 : takes (aKd s.d) = 0 ∨ takes (aKd s.d) = 1 ∨ takes (aKd s.d) = 2 := by omega
    unfold aXs
    rcases h0 with h | h | h <;> rw [h] <;> cases aIx x s <;> rfl
  cell := by
    intro h
    unfold aIx at h
    have := of_decide_eq_true h
    exact ⟨this.1, this.2.1⟩
  reg := by
    unfold aRg
    cases hg : gives (aKd s.d)
    · rfl
    · simp only [if_true]
      rcases aReg_cases s.c with h | h | h <;> rw [h]
      · exact Or.inl rfl
      · exact Or.inr (Or.inl rfl)
      · exact Or.inr (Or.inr rfl)
  name := by
    have hlt := aKd_lt s.d
    unfold Wnm aNm
    cases hi : aIx x s with
    | true =>
      have hk := of_decide_eq_true (show decide _ = true from hi)
      have : named (aKd s.d) = true := by unfold named; simp; omega
      rw [this]; rfl
    | false =>
      cases hn : named (aKd s.d) with
      | false =>
        have : aKd s.d = 0 ∨ 12 < aKd s.d := by unfold named at hn; simp at hn; omega
        rcases this with h | h
        · simp [h]
        · simp only [Bool.false_eq_true, if_false]
          rw [if_neg (by omega), if_neg (by omega), if_neg (by omega), if_neg (by omega), if_neg (by omega)]
      | true =>
        have : 1 ≤ aKd s.d ∧ aKd s.d ≤ 12 := by unfold named at hn; simp at hn; omega
        simp only [Bool.false_eq_true, if_false, if_true]
        rw [if_neg (by omega)]
        split
        · exact ⟨_, _, rfl, rfl⟩
        · split
          · exact ⟨_, _, rfl, rfl⟩
          · split
            · exact ⟨_, _, rfl, rfl⟩
            · rw [if_pos (by omega)]; exact ⟨_, _, rfl, rfl⟩
end Go.Proofs.YtmomdcnlhljhcaaDoor
