/- gauss.Fits, ifFits, Add, Sub, Mul, Conj, Norm, Less, Truth at whole numbers: what each answers. -/
import Derived.Test.YtgiioflkclkioaaGreatDoorPf
set_option linter.unusedSimpArgs false
set_option linter.unusedVariables false
namespace Go.Proofs.YtgiioflkclkioaaGreatDoor
open Go.RowKit Ieee

theorem fl0 : fl false 0 = 0 := by decide
theorem flNM : fl false (-1048576) = 13920626448202203136 := by decide +kernel
theorem flPM : fl false 1048576 = 4697254411347427328 := by decide +kernel

/-- A number of at most B. -/
def Bd (B : Nat) (n : Int) : Prop := n.natAbs ≤ B
theorem Bd.add {A B : Nat} {a b : Int} (ha : Bd A a) (hb : Bd B b) : Bd (A + B) (a + b) := by unfold Bd at *; omega
theorem Bd.sub {A B : Nat} {a b : Int} (ha : Bd A a) (hb : Bd B b) : Bd (A + B) (a - b) := by unfold Bd at *; omega
theorem Bd.neg {A : Nat} {a : Int} (ha : Bd A a) : Bd A (-a) := by unfold Bd at *; omega
theorem Bd.mul {A B : Nat} {a b : Int} (ha : Bd A a) (hb : Bd B b) : Bd (A * B) (a * b) := by
  unfold Bd at *; rw [Int.natAbs_mul]; exact Nat.mul_le_mul ha hb
theorem Bd.sm {A : Nat} {a : Int} (ha : Bd A a) (h : A < 9007199254740992) : Sm a := Nat.lt_of_le_of_lt ha h
theorem Bd.le {A B : Nat} {a : Int} (ha : Bd A a) (h : A ≤ B) : Bd B a := Nat.le_trans ha h

/-- Is it within the limit? -/
def okI (n : Int) : Bool := decide (-1048576 ≤ n) && decide (n ≤ 1048576)
def ok2 (r i : Int) : Bool := okI r && okI i
theorem okI_bd {n : Int} (h : okI n = true) : Bd 1048576 n := by
  simp only [okI, Bool.and_eq_true, decide_eq_true_eq] at h; unfold Bd; omega
theorem okI_of {n : Int} (h : Bd 1048576 n) : okI n = true := by
  simp only [okI, Bool.and_eq_true, decide_eq_true_eq]; unfold Bd at h; omega
theorem ok2_bd {r i : Int} (h : ok2 r i = true) : Bd 1048576 r ∧ Bd 1048576 i := by
  simp only [ok2, Bool.and_eq_true] at h; exact ⟨okI_bd h.1, okI_bd h.2⟩
theorem ok2_of {r i : Int} (h : Bd 1048576 r) (k : Bd 1048576 i) : ok2 r i = true := by
  simp only [ok2, Bool.and_eq_true]; exact ⟨okI_of h, okI_of k⟩
theorem ok2_sm {r i : Int} (h : ok2 r i = true) : Sm r ∧ Sm i := ⟨(ok2_bd h).1.sm (by decide), (ok2_bd h).2.sm (by decide)⟩

theorem cmp_ge (a b : Int) : (some (compare a b) == some Ordering.gt || some (compare a b) == some Ordering.eq) = decide (b ≤ a) := by
  simp only [compare, compareOfLessAndEq]
  by_cases h1 : a < b
  · rw [if_pos h1]; simp; omega
  · rw [if_neg h1]
    by_cases h2 : a = b
    · rw [if_pos h2]; simp; omega
    · rw [if_neg h2]; simp; omega
theorem cmp_le (a b : Int) : (some (compare a b) == some Ordering.lt || some (compare a b) == some Ordering.eq) = decide (a ≤ b) := by
  simp only [compare, compareOfLessAndEq]
  by_cases h1 : a < b
  · rw [if_pos h1]; simp; omega
  · rw [if_neg h1]
    by_cases h2 : a = b
    · rw [if_pos h2]; simp; omega
    · rw [if_neg h2]; simp; omega
theorem cmp_lt (a b : Int) : (some (compare a b) == some Ordering.lt) = decide (a < b) := by
  simp only [compare, compareOfLessAndEq]
  by_cases h1 : a < b
  · rw [if_pos h1]; simp; omega
  · rw [if_neg h1]
    by_cases h2 : a = b
    · rw [if_pos h2]; simp; omega
    · rw [if_neg h2]; simp; omega
theorem cmp_eq (a b : Int) : (some (compare a b) == some Ordering.eq) = decide (a = b) := by
  simp only [compare, compareOfLessAndEq]
  by_cases h1 : a < b
  · rw [if_pos h1]; simp; omega
  · rw [if_neg h1]
    by_cases h2 : a = b
    · rw [if_pos h2]; simp [h2]
    · rw [if_neg h2]; simp [h2]

theorem sm_lim : Sm (-1048576) ∧ Sm 1048576 ∧ Sm 0 := by unfold Sm; decide
theorem pf_fl (z : Bool) {n : Int} (h : Sm n) : pf (fl z n) = okI n := by
  unfold pf geB leB whB okI
  rw [← flNM, ← flPM, order_fl z false h sm_lim.1, order_fl z false h sm_lim.2.1, cmp_ge, cmp_le]
  have : truncB (fl z n) = fl z n := trunc_fl .zero z h
  rw [this, order_fl z z h h, cmp_eq]
  simp

/-- Is a float the same number as another one? -/
theorem eq_fl (z y : Bool) {a b : Int} (ha : Sm a) (hb : Sm b) : (FloatKind.f64.format.order (fl z a) (fl y b) == some .eq) = decide (a = b) := by rw [order_fl z y ha hb, cmp_eq]
theorem lt_fl (z y : Bool) {a b : Int} (ha : Sm a) (hb : Sm b) : (FloatKind.f64.format.order (fl z a) (fl y b) == some .lt) = decide (a < b) := by rw [order_fl z y ha hb, cmp_lt]
theorem eq_fl0 (z : Bool) {a : Int} (ha : Sm a) : (FloatKind.f64.format.order (fl z a) 0 == some .eq) = decide (a = 0) := by rw [← fl0]; exact eq_fl z false ha sm_lim.2.2
theorem gt_fl0 (z : Bool) {a : Int} (ha : Sm a) : (FloatKind.f64.format.order (fl z a) 0 == some .gt) = decide (0 < a) := by
  rw [← fl0, order_fl z false ha sm_lim.2.2]
  simp only [compare, compareOfLessAndEq]
  by_cases h1 : a < 0
  · rw [if_pos h1]; simp; omega
  · rw [if_neg h1]
    by_cases h2 : a = 0
    · rw [if_pos h2]; simp; omega
    · rw [if_neg h2]; simp; omega

theorem fits_raw (a b : Nat) (w : World) : Calls Tryz.prog 166 #[.complex .f64 a b] w fun e w' => e = .returned (.bool (pf a && pf b)) ∧ w = w' := by
  cases h1 : pf a with
  | false =>
    go_enter Tryz.func166, Tryz.ntmps166
    go_wp2_with (go_at_call 180; refine (partFits_any _ _).mono ?_; rintro e w' ⟨rfl, rfl⟩)
    go_ret
    exact ⟨rfl, rfl⟩
  | true =>
    go_enter Tryz.func166, Tryz.ntmps166
    go_wp2_with (go_at_call 180; refine (partFits_any _ _).mono ?_; rintro e w' ⟨rfl, rfl⟩)
    go_ret
    exact ⟨rfl, rfl⟩

theorem fits_fl (z y : Bool) {r i : Int} (hr : Sm r) (hi : Sm i) (w : World) : Calls Tryz.prog 166 #[.complex .f64 (fl z r) (fl y i)] w fun e w' => e = .returned (.bool (ok2 r i)) ∧ w = w' := by
  have h := fits_raw (fl z r) (fl y i) w
  rw [pf_fl z hr, pf_fl y hi] at h
  exact h
end Go.Proofs.YtgiioflkclkioaaGreatDoor
