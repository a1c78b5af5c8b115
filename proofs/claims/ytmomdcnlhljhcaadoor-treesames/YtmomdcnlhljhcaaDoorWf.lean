/- What the law's statements are: which kinds, names, registers, expressions they may have. -/
import Derived.Test.YtmomdcnlhljhcaaDoorTm
set_option linter.unusedSimpArgs false
set_option linter.unusedVariables false
namespace Go.Proofs.YtmomdcnlhljhcaaDoor
open Go.RowKit Ieee

/-- A name by the kind of the statement, and whether an index stands behind it. -/
def Wnm (k : Nat) (nm : List UInt8) (ix : Bool) : Prop :=
  if named k then
    (if ix then nm = [118] else
      ∃ f d, nm = [f, d] ∧ f = (if k ≤ 5 then 120 else if k ≤ 8 then 109 else if k ≤ 10 then 115 else 116))
  else nm = []
/-- A statement's head that is right. -/
structure Wh (k : Nat) (rg nm : List UInt8) (ix : Bool) (xs : List Ex) : Prop where
  kd : k < 17
  ex : ∀ x ∈ xs, Wx x
  many : xs.length = takes k + (if ix then 1 else 0)
  cell : ix = true → 1 ≤ k ∧ k ≤ 5
  reg : if gives k then rg = [97] ∨ rg = [98] ∨ rg = [99] else rg = []
  name : Wnm k nm ix
def Ws : Sts → Prop
  | .nil => True
  | .cons k rg nm ix xs b e r => Wh k rg nm ix xs ∧ (k < 15 → b = .nil) ∧ (k ≠ 15 → e = .nil) ∧ Ws b ∧ Ws e ∧ Ws r
theorem Wnm.len {k : Nat} {nm : List UInt8} {ix : Bool} (h : Wnm k nm ix) : nm.length ≤ 2 := by
  unfold Wnm at h
  split at h
  · split at h
    · rw [h]; simp
    · obtain ⟨f, d, rfl, _⟩ := h; simp
  · rw [h]; simp
theorem Wh.rlen {k : Nat} {rg nm : List UInt8} {ix : Bool} {xs : List Ex} (h : Wh k rg nm ix xs) : rg.length ≤ 1 := by
  have := h.reg
  split at this
  · rcases this with rfl | rfl | rfl <;> simp
  · rw [this]; simp
theorem Wh.xlen {k : Nat} {rg nm : List UInt8} {ix : Bool} {xs : List Ex} (h : Wh k rg nm ix xs) : xs.length ≤ 3 := by
  rw [h.many]
  have : takes k ≤ 2 := by unfold takes; split; omega; split <;> omega
  split <;> omega
theorem Ws.app {a b : Sts} (h : Ws a) (k : Ws b) : Ws (a.app b) := by
  induction a with
  | nil => exact k
  | cons k' rg nm ix xs b' e r _ _ ih => exact ⟨h.1, h.2.1, h.2.2.1, h.2.2.2.1, h.2.2.2.2.1, ih h.2.2.2.2.2⟩
/-- A statement's value. -/
def stv (k : Nat) (rg nm : List UInt8) (ix : Bool) (px : Option Addr) (nx cx : Nat) (pb : Option Addr) (nb cb : Nat) (pe : Option Addr) (ne ce : Nat) : Value :=
  .agg #[.int .i64 (k : Int), .string ⟨rg.toArray⟩, .string ⟨nm.toArray⟩, .bool ix, .slice px nx cx, .slice pb nb cb, .slice pe ne ce, .int .i64 0]
theorem word_len (k : Nat) : (word k).length ≤ 6 := by unfold word; split <;> simp
end Go.Proofs.YtmomdcnlhljhcaaDoor
