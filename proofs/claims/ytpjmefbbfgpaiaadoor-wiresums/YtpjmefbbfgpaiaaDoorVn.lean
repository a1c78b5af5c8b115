/- Numbers as bytes, and back: what is taken of what was put; nothing else is a number's bytes. -/
import Derived.Test.YtpjmefbbfgpaiaaDoorFn
namespace Go.Proofs.YtpjmefbbfgpaiaaDoor
open Go.RowKit

/-- What was put is taken back. -/
theorem vgo_vnum (n : Nat) : ∀ (i a : Nat) (r : List Nat), n * 128 ^ i < 18446744073709551616 → i ≤ 9 → (0 < i → n ≠ 0) → vgo i a (vnum n ++ r) = (a + n * 128 ^ i, i + (vnum n).length, 0) := by
  induction n using Nat.strongRecOn with
  | _ n ih =>
    intro i a r hn hi h0
    by_cases h : n < 128
    · rw [vnum_lo h, List.singleton_append, vgo, if_neg, if_pos h, List.length_singleton]
      rintro (⟨rfl, hi0⟩ | ⟨rfl, h1⟩)
      · exact h0 hi0 rfl
      · have : 2 * 128 ^ 9 ≤ n * 128 ^ 9 := Nat.mul_le_mul (by omega) (Nat.le_refl _)
        have e : 2 * 128 ^ 9 = 18446744073709551616 := by decide
        omega
    · have hi9 : i < 9 := by
        rcases Nat.lt_or_ge i 9 with h' | h'
        · exact h'
        · obtain rfl : i = 9 := by omega
          have : 128 * 128 ^ 9 ≤ n * 128 ^ 9 := Nat.mul_le_mul (by omega) (Nat.le_refl _)
          have e : 128 * 128 ^ 9 = 1180591620717411303424 := by decide
          omega
      have e1 : n = n % 128 + 128 * (n / 128) := by omega
      have hs : n / 128 * 128 ^ (i + 1) ≤ n * 128 ^ i := by
        rw [Nat.pow_succ, Nat.mul_comm (128 ^ i) 128, ← Nat.mul_assoc]
        exact Nat.mul_le_mul (by omega) (Nat.le_refl _)
      rw [vnum_hi h, List.cons_append, vgo, if_neg (by omega), if_neg (by omega), ih (n / 128) (by omega) (i + 1) _ r (by omega) (by omega) (by omega), List.length_cons]
      have e2 : (128 + n % 128) % 128 = n % 128 := by omega
      have e3 : a + (128 + n % 128) % 128 * 128 ^ i + n / 128 * 128 ^ (i + 1) = a + n * 128 ^ i := by
        rw [e2, Nat.pow_succ]
        have : n * 128 ^ i = n % 128 * 128 ^ i + n / 128 * (128 ^ i * 128) := by
          conv => lhs; rw [e1]
          rw [Nat.add_mul, Nat.mul_comm (128 ^ i) 128, ← Nat.mul_assoc, Nat.mul_comm (n / 128) 128]
        omega
      rw [e3]
      simp only [Prod.mk.injEq, and_true, true_and]
      omega
theorem vread_vnum (n : Nat) (hn : Fits64 n) (r : List Nat) : vread (vnum n ++ r) = (n, (vnum n).length, 0) := by
  have := vgo_vnum n 0 0 r (by have := hn.lt; simpa using this) (by omega) (by omega)
  simpa [vread] using this

/-- Cut anywhere ahead of its end it is too short. -/
theorem vgo_cut (j : Nat) : ∀ (n i a : Nat), j < (vnum n).length → i + j ≤ 9 → vgo i a ((vnum n).take j) = (0, 0, 3) := by
  induction j with
  | zero => intro n i a _ _; rw [List.take_zero, vgo]
  | succ j ih =>
    intro n i a hj hi
    have h : ¬ n < 128 := by
      intro h
      rw [vnum_lo h] at hj
      simp at hj
    rw [vnum_hi h] at hj ⊢
    rw [List.take_succ_cons, vgo, if_neg (by omega), if_neg (by omega)]
    exact ih _ _ _ (by simpa using hj) (by omega)
theorem vread_cut (n j : Nat) (hn : Fits64 n) (hj : j < (vnum n).length) : vread ((vnum n).take j) = (0, 0, 3) := vgo_cut j n 0 0 hj (by have := vnum_ten hn; omega)

/-- Whatever is taken whole is the number's own bytes. -/
theorem vgo_only (r : List Nat) : ∀ (i a m : Nat), (∀ b ∈ r, b < 256) → vgo i a r = (m, i + r.length, 0) → ∃ q, r = vnum q ∧ m = a + q * 128 ^ i ∧ (0 < i → q ≠ 0) := by
  induction r with
  | nil => intro i a m _ h; simp [vgo] at h
  | cons c r ih =>
    intro i a m hb h
    rw [vgo] at h
    have hc := hb c (by simp)
    by_cases hbad : (c = 0 ∧ 0 < i) ∨ (i = 9 ∧ 1 < c)
    · rw [if_pos hbad] at h; simp at h
    · rw [if_neg hbad] at h
      by_cases hlo : c < 128
      · rw [if_pos hlo] at h
        simp only [Prod.mk.injEq, List.length_cons, and_true] at h
        have hr : r = [] := List.eq_nil_of_length_eq_zero (by omega)
        subst hr
        exact ⟨c, by rw [vnum_lo hlo], h.1.symm, fun hi h0 => hbad (.inl ⟨h0, hi⟩)⟩
      · rw [if_neg hlo] at h
        obtain ⟨q, hq, hm, h0⟩ := ih (i + 1) _ m (fun b hb' => hb b (by simp [hb'])) (by rw [h]; simp; omega)
        have hq0 := h0 (by omega)
        refine ⟨c % 128 + 128 * q, ?_, ?_, by omega⟩
        · rw [vnum_hi (by omega), hq]
          congr 1
          · omega
          · congr 1; omega
        · rw [hm, Nat.pow_succ, Nat.add_mul, Nat.mul_comm (128 ^ i) 128, ← Nat.mul_assoc, Nat.mul_comm q 128]
          omega
theorem vread_only {l : List Nat} {m : Nat} (hb : ∀ b ∈ l, b < 256) (h : vread l = (m, l.length, 0)) : l = vnum m := by
  obtain ⟨q, hq, hm, _⟩ := vgo_only l 0 0 m hb (by simpa [vread] using h)
  have : m = q := by simpa using hm
  rw [this]; exact hq
end Go.Proofs.YtpjmefbbfgpaiaaDoor
