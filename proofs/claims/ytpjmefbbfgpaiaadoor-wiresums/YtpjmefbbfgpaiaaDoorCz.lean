/- The sum's mathematics: one bit's step is linear and one to one; four of them are the table's; turned round it is the step of the division of polynomials. -/
import Derived.Test.YtpjmefbbfgpaiaaDoorSm
namespace Go.Proofs.YtpjmefbbfgpaiaaDoor
open Go.RowKit

/-- One bit leaves. -/
def z (t : Nat) : Nat := t / 2 ^^^ (if t % 2 = 1 then 3988292384 else 0)
def zi : Nat → Nat → Nat
  | 0, x => x
  | k + 1, x => z (zi k x)

theorem xor_half (a b : Nat) : (a ^^^ b) / 2 = a / 2 ^^^ b / 2 := by have := @Nat.xor_div_two_pow a b 1; simpa using this
theorem xor_odd (a b : Nat) : ((a ^^^ b) % 2 = 1) ↔ ¬ (a % 2 = 1 ↔ b % 2 = 1) := by
  have h := Nat.testBit_xor a b 0
  rw [Nat.testBit_zero, Nat.testBit_zero, Nat.testBit_zero] at h
  by_cases ha : a % 2 = 1 <;> by_cases hb : b % 2 = 1 <;> simp [ha, hb] at h ⊢ <;> omega
theorem z_xor (a b : Nat) : z (a ^^^ b) = z a ^^^ z b := by
  unfold z
  rw [xor_half]
  have h := xor_odd a b
  by_cases ha : a % 2 = 1 <;> by_cases hb : b % 2 = 1
  · rw [if_neg (by rw [h]; simp [ha, hb]), if_pos ha, if_pos hb, Nat.xor_zero]
    rw [Nat.xor_assoc, ← Nat.xor_assoc 3988292384, Nat.xor_comm 3988292384, Nat.xor_assoc, Nat.xor_self, Nat.xor_zero]
  · rw [if_pos (by rw [h]; simp [ha, hb]), if_pos ha, if_neg hb, Nat.xor_zero]
    rw [Nat.xor_assoc, Nat.xor_comm (b / 2), ← Nat.xor_assoc]
  · rw [if_pos (by rw [h]; simp [ha, hb]), if_neg ha, if_pos hb, Nat.xor_zero, Nat.xor_assoc]
  · rw [if_neg (by rw [h]; simp [ha, hb]), if_neg ha, if_neg hb, Nat.xor_zero, Nat.xor_zero, Nat.xor_zero]
theorem zi_xor (k a b : Nat) : zi k (a ^^^ b) = zi k a ^^^ zi k b := by
  induction k with
  | zero => rfl
  | succ k ih => rw [zi, ih, z_xor]; rfl
theorem z_even (x : Nat) : z (2 * x) = x := by
  unfold z
  rw [if_neg (by omega), Nat.xor_zero]
  omega
theorem zi_back (k x : Nat) : z (zi k x) = zi k (z x) := by
  induction k with
  | zero => rfl
  | succ k ih => rw [zi, ih]; rfl
theorem zi_pow (k x : Nat) : zi k (2 ^ k * x) = x := by
  induction k generalizing x with
  | zero => simp [zi]
  | succ k ih =>
    rw [zi, show 2 ^ (k + 1) * x = 2 ^ k * (2 * x) by rw [Nat.pow_succ, Nat.mul_assoc], ih, z_even]
theorem zi_add (a b x : Nat) : zi a (zi b x) = zi (a + b) x := by
  induction a with
  | zero => simp [zi]
  | succ a ih => rw [zi, ih, Nat.succ_add]; rfl

theorem join_xor (k q r : Nat) (h : r < 2 ^ k) : 2 ^ k * q ^^^ r = 2 ^ k * q + r := by
  apply Nat.eq_of_testBit_eq
  intro i
  rw [Nat.testBit_xor]
  rcases Nat.lt_or_ge i k with hi | hi
  · rw [Nat.testBit_two_pow_mul_add _ h, if_pos hi, Nat.testBit_two_pow_mul]
    simp [show ¬ i ≥ k by omega]
  · rw [Nat.testBit_two_pow_mul_add _ h, if_neg (by omega), Nat.testBit_two_pow_mul]
    have : r.testBit i = false := Nat.testBit_lt_two_pow (Nat.lt_of_lt_of_le h (Nat.pow_le_pow_right (by omega) hi))
    simp [this, hi]

theorem half_zi (t : Nat) : half t = zi 4 t := by
  have hd : ∀ n, n < 16 → tab.getD n 0 = zi 4 n := by decide +kernel
  have e : t = 2 ^ 4 * (t / 16) ^^^ (t % 16) := by rw [join_xor 4 _ _ (by omega)]; omega
  unfold half
  rw [hd _ (by omega)]
  conv => rhs; rw [e]
  rw [zi_xor, zi_pow, Nat.xor_comm]
theorem byteIn_zi (s c : Nat) : byteIn s c = zi 8 (s ^^^ c) := by
  unfold byteIn
  rw [half_zi, half_zi, zi_add]

/-- One to one, on numbers of 32 bits. -/
theorem z_inj {a b : Nat} (ha : Fits32 a) (hb : Fits32 b) (h : z a = z b) : a = b := by
  unfold Fits32 at ha hb
  unfold z at h
  have hp : (3988292384 : Nat) = 2147483648 + 1840808736 := rfl
  have t31 : ∀ x, x < 2147483648 → Nat.testBit x 31 = false := fun x hx => Nat.testBit_lt_two_pow (by simpa using hx)
  have p31 : Nat.testBit 3988292384 31 = true := by decide
  have key : ∀ x y, (x ^^^ 3988292384) = (y ^^^ 3988292384) → x = y := by
    intro x y e
    have := congrArg (· ^^^ 3988292384) e
    simpa [Nat.xor_assoc] using this
  by_cases h1 : a % 2 = 1 <;> by_cases h2 : b % 2 = 1
  · rw [if_pos h1, if_pos h2] at h
    have := key _ _ h
    omega
  · rw [if_pos h1, if_neg h2, Nat.xor_zero] at h
    have e := congrArg (fun x => Nat.testBit x 31) h
    simp only [Nat.testBit_xor, p31, t31 (a / 2) (by omega), t31 (b / 2) (by omega)] at e
    exact absurd e (by decide)
  · rw [if_neg h1, if_pos h2, Nat.xor_zero] at h
    have e := congrArg (fun x => Nat.testBit x 31) h
    simp only [Nat.testBit_xor, p31, t31 (a / 2) (by omega), t31 (b / 2) (by omega)] at e
    exact absurd e (by decide)
  · rw [if_neg h1, if_neg h2, Nat.xor_zero, Nat.xor_zero] at h
    omega
theorem fits_z {a : Nat} (h : Fits32 a) : Fits32 (z a) := by
  unfold Fits32 z at *
  refine Nat.xor_lt_two_pow (n := 32) (by omega) ?_
  split <;> decide
theorem fits_zi {a : Nat} (k : Nat) (h : Fits32 a) : Fits32 (zi k a) := by
  induction k with
  | zero => exact h
  | succ k ih => exact fits_z ih
theorem zi_inj {a b : Nat} (k : Nat) (ha : Fits32 a) (hb : Fits32 b) (h : zi k a = zi k b) : a = b := by
  induction k with
  | zero => exact h
  | succ k ih => exact ih (z_inj (fits_zi k ha) (fits_zi k hb) h)
theorem byteIn_inj {s t c d : Nat} (hs : Fits32 s) (ht : Fits32 t) (hc : c < 256) (hd : d < 256) (h : byteIn s c = byteIn t d) : s ^^^ c = t ^^^ d := by
  rw [byteIn_zi, byteIn_zi] at h
  exact zi_inj 8 (fits_xor hs (by unfold Fits32; omega)) (fits_xor ht (by unfold Fits32; omega)) h
theorem xor_cancel {a b c : Nat} (h : a ^^^ c = b ^^^ c) : a = b := by
  have := congrArg (· ^^^ c) h
  simpa [Nat.xor_assoc] using this
theorem crc_inj (l : List Nat) : ∀ {s t : Nat}, Fits32 s → Fits32 t → (∀ b ∈ l, b < 256) → crc s l = crc t l → s = t := by
  induction l with
  | nil => intro s t _ _ _ h; exact h
  | cons c l ih =>
    intro s t hs ht hb h
    have hc := hb c (by simp)
    have := ih (fits_byteIn hs hc) (fits_byteIn ht hc) (fun b hb' => hb b (by simp [hb'])) h
    exact xor_cancel (byteIn_inj hs ht hc hc this)
/-- One byte another one: another sum. -/
theorem sum_turned {l : List Nat} {k y : Nat} (hb : ∀ b ∈ l, b < 256) (hk : k < l.length) (hy : y < 256) (hne : y ≠ l.getD k 0) : sumOf (l.set k y) ≠ sumOf l := by
  have hx : l.getD k 0 = l[k] := by simp [List.getD, List.getElem?_eq_getElem hk]
  have e1 : l = l.take k ++ l[k] :: l.drop (k + 1) := by rw [← List.drop_eq_getElem_cons hk, List.take_append_drop]
  have e2 : l.set k y = l.take k ++ y :: l.drop (k + 1) := List.set_eq_take_append_cons_drop ▸ (by rw [if_pos hk])
  intro h
  unfold sumOf at h
  have h' : crc 4294967295 (l.set k y) = crc 4294967295 l := by
    have := congrArg (4294967295 ^^^ ·) h
    simpa [← Nat.xor_assoc] using this
  have e1' : crc 4294967295 l = crc 4294967295 (l.take k ++ l[k] :: l.drop (k + 1)) := by rw [← e1]
  rw [e2, e1'] at h'
  unfold crc at h'
  rw [List.foldl_append, List.foldl_append, List.foldl_cons, List.foldl_cons] at h'
  have hs : Fits32 (crc 4294967295 (l.take k)) := fits_crc (by unfold Fits32; omega) (fun b hb' => hb b (List.mem_of_mem_take hb'))
  have hl : l[k] < 256 := hb _ (List.getElem_mem hk)
  have h2 := crc_inj (l.drop (k + 1)) (fits_byteIn hs hy) (fits_byteIn hs hl) (fun b hb' => hb b (List.mem_of_mem_drop hb')) h'
  have h3 := byteIn_inj hs hs hy hl h2
  rw [Nat.xor_comm _ y, Nat.xor_comm _ l[k]] at h3
  exact hne ((xor_cancel h3).trans hx.symm)
end Go.Proofs.YtpjmefbbfgpaiaaDoor
