/- The sum by division of polynomials is the sum by the table. -/
import Derived.Test.YtpjmefbbfgpaiaaDoorCz
namespace Go.Proofs.YtpjmefbbfgpaiaaDoor
open Go.RowKit

/-- The lowest k bits turned round. -/
def rv : Nat → Nat → Nat
  | 0, _ => 0
  | k + 1, x => rv k x * 2 + x / 2 ^ k % 2
theorem bit_of (x k : Nat) : x.testBit k = decide (x / 2 ^ k % 2 = 1) := by
  have := Nat.testBit_div_two_pow (n := k) x 0
  rw [Nat.zero_add] at this
  rw [← this, Nat.testBit_zero]
theorem rv_bit (k x : Nat) : ∀ j, (rv k x).testBit j = (decide (j < k) && x.testBit (k - 1 - j)) := by
  induction k with
  | zero => intro j; simp [rv]
  | succ k ih =>
    intro j
    have hb : x / 2 ^ k % 2 < 2 := Nat.mod_lt _ (by omega)
    cases j with
    | zero =>
      rw [rv, Nat.testBit_zero, show k + 1 - 1 - 0 = k by omega, bit_of]
      simp only [Nat.zero_lt_succ, decide_true, Bool.true_and]
      congr 1
      apply propext
      omega
    | succ j =>
      rw [rv, Nat.testBit_succ, show (rv k x * 2 + x / 2 ^ k % 2) / 2 = rv k x by omega, ih j]
      rw [show k + 1 - 1 - (j + 1) = k - 1 - j by omega]
      by_cases h : j < k <;> simp [h]
theorem rv_lt (k x : Nat) : rv k x < 2 ^ k := by
  induction k with
  | zero => simp [rv]
  | succ k ih =>
    have : x / 2 ^ k % 2 < 2 := Nat.mod_lt _ (by omega)
    rw [rv, Nat.pow_succ]
    omega

/-- One bit's step of the division. -/
def rstep (x b : Nat) : Nat := if x / 2147483648 ≠ b then (x * 2 % 4294967296) ^^^ 79764919 else x * 2 % 4294967296
theorem fits_rstep (x b : Nat) : Fits32 (rstep x b) := by
  unfold Fits32 rstep
  split
  · exact Nat.xor_lt_two_pow (n := 32) (by omega) (by decide)
  · omega

set_option maxRecDepth 10000 in
theorem poly_turn : ∀ j, j < 32 → Nat.testBit 79764919 (31 - j) = Nat.testBit 3988292384 j := by decide

theorem rv_step {x b : Nat} (hx : Fits32 x) (hb : b < 2) : rv 32 (rstep x b) = z (rv 32 x ^^^ b) := by
  unfold Fits32 at hx
  have hlow : (rv 32 x) % 2 = x / 2147483648 := by
    have h := rv_bit 32 x 0
    rw [Nat.testBit_zero, show 32 - 1 - 0 = 31 from rfl, bit_of] at h
    simp only [Nat.zero_lt_succ, decide_true, Bool.true_and, decide_eq_decide] at h
    have e : (2 : Nat) ^ 31 = 2147483648 := by decide
    rw [e] at h
    omega
  have hodd : ((rv 32 x ^^^ b) % 2 = 1) ↔ x / 2147483648 ≠ b := by
    rw [xor_odd, hlow]
    have : x / 2147483648 < 2 := by omega
    omega
  have hhalf : (rv 32 x ^^^ b) / 2 = rv 32 x / 2 := by
    rw [xor_half, show b / 2 = 0 by omega, Nat.xor_zero]
  unfold z
  rw [hhalf]
  apply Nat.eq_of_testBit_eq
  intro j
  rw [rv_bit, Nat.testBit_xor, ← Nat.testBit_succ, rv_bit]
  rcases Nat.lt_or_ge j 32 with hj | hj
  · have e32 : (4294967296 : Nat) = 2 ^ 32 := by decide
    have hsh : (x * 2 % 4294967296).testBit (31 - j) = (decide (j + 1 < 32) && x.testBit (32 - 1 - (j + 1))) := by
      rw [e32, Nat.testBit_mod_two_pow, show x * 2 = x * 2 ^ 1 by rw [Nat.pow_one], Nat.testBit_mul_two_pow]
      by_cases h31 : j + 1 < 32
      · rw [show 31 - j - 1 = 32 - 1 - (j + 1) by omega]
        simp [h31, show 31 - j < 32 by omega, show 1 ≤ 31 - j by omega]
      · simp [h31, show ¬ 1 ≤ 31 - j by omega]
    simp only [hj, decide_true, Bool.true_and, Nat.succ_eq_add_one]
    rw [show 32 - 1 - j = 31 - j by omega]
    unfold rstep
    by_cases hc : x / 2147483648 ≠ b
    · rw [if_pos hc, if_pos (hodd.2 hc), Nat.testBit_xor, hsh, poly_turn j hj]
    · rw [if_neg hc, if_neg (fun h => hc (hodd.1 h)), hsh]
      simp
  · have p : (if (rv 32 x ^^^ b) % 2 = 1 then 3988292384 else 0 : Nat) < 2 ^ 32 := by split <;> decide
    have p' : (if (rv 32 x ^^^ b) % 2 = 1 then 3988292384 else 0 : Nat).testBit j = false := Nat.testBit_lt_two_pow (Nat.lt_of_lt_of_le p (Nat.pow_le_pow_right (by omega) hj))
    rw [p']
    simp [show ¬ j < 32 by omega, show ¬ j + 1 < 32 by omega]

/-- The sum's state behind i bits. -/
def Zb (l : List Nat) : Nat → Nat
  | 0 => 4294967295
  | i + 1 => z (Zb l i ^^^ (l.getD (i / 8) 0 / 2 ^ (i % 8) % 2))
theorem mod_more (c m : Nat) : c % 2 ^ (m + 1) = 2 ^ m * (c / 2 ^ m % 2) + c % 2 ^ m := by
  rw [Nat.pow_succ, Nat.mod_mul]
  omega
theorem Zb_in (l : List Nat) (j : Nat) : ∀ m, m ≤ 8 → Zb l (8 * j + m) = zi m (Zb l (8 * j) ^^^ (l.getD j 0 % 2 ^ m)) := by
  intro m
  induction m with
  | zero => intro _; simp [zi, Nat.mod_one]
  | succ m ih =>
    intro hm
    rw [← Nat.add_assoc, Zb, ih (by omega), show (8 * j + m) / 8 = j by omega, show (8 * j + m) % 8 = m by omega]
    generalize Zb l (8 * j) = s
    generalize l.getD j 0 = c
    rw [mod_more, ← join_xor m _ _ (Nat.mod_lt _ (Nat.two_pow_pos m)), zi]
    congr 1
    rw [Nat.xor_comm (2 ^ m * _), ← Nat.xor_assoc, zi_xor m (s ^^^ c % 2 ^ m), zi_pow]
theorem Zb_crc {l : List Nat} (hb : ∀ b ∈ l, b < 256) : ∀ j, j ≤ l.length → Zb l (8 * j) = crc 4294967295 (l.take j) := by
  intro j
  induction j with
  | zero => intro _; simp [Zb, crc]
  | succ j ih =>
    intro hj
    have hlt : l.getD j 0 < 256 := hb _ (by simp [List.getD, List.getElem?_eq_getElem (show j < l.length by omega)])
    have := Zb_in l j 8 (Nat.le_refl _)
    rw [show 8 * j + 8 = 8 * (j + 1) by omega] at this
    rw [this, ih (by omega), take_more l j (by omega), crc_snoc, byteIn_zi, show (2 : Nat) ^ 8 = 256 from rfl, Nat.mod_eq_of_lt hlt]
theorem Zb_all {l : List Nat} (hb : ∀ b ∈ l, b < 256) : 4294967295 ^^^ Zb l (8 * l.length) = sumOf l := by
  rw [Zb_crc hb _ (Nat.le_refl _), List.take_length]
  rfl
end Go.Proofs.YtpjmefbbfgpaiaaDoor
