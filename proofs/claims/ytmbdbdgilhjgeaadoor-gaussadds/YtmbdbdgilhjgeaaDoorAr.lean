/- gauss.Fits, ifFits, Add, Sub, Mul, Conj, Norm, Less, Truth at whole numbers: what each answers. -/
import Derived.Test.YtmbdbdgilhjgeaaDoorPf
set_option linter.unusedSimpArgs false
set_option linter.unusedVariables false
namespace Go.Proofs.YtmbdbdgilhjgeaaDoor
open Go.RowKit Ieee

theorem fl0 : fl false 0 = 0 := by decide
theorem flNM : fl false (-1048576) = 13920626448202203136 := by decide +kernel
theorem flPM : fl false 1048576 = 4697254411347427328 := by decide +kernel

/-- A number of at most B. -/
def Bd (B : Nat) (n : Int) : Prop := n.natAbs ≤ B
theorem Bd.add {A B : Nat} {a b : Int} (ha : Bd A a) (hb : Bd B b) : Bd (A + B) (a + b) := by unfold Bd at *; omega
theorem Bd.sub {A B : Nat} {a b : Int} (ha : Bd A a) (hb : Bd B b) : Bd (A + B) (a - b) := by unfold Bd at *; omega
theorem Bd.neg {A : Nat} {a : Int} (ha : Bd A a) : Bd A (-a) := by unfold Bd at *; omega
theorem Bd.mul {A B : Nat} {a b : Int} (ha : Bd A a) (hb : Bd B b) : Bd (A * B) (a * b) := by
  unfold Bd at *; rw [Int.natAbs_mul]; exact Nat.mul_le_mul ha hb
theorem Bd.sm {A : Nat} {a : Int} (ha : Bd A a) (h : A < 9007199254740992) : Sm a := Nat.lt_of_le_of_lt ha h
theorem Bd.le {A B : Nat} {a : Int} (ha : Bd A a) (h : A ≤ B) : Bd B a := Nat.le_trans ha h

/-- Is it within the limit? -/
def okI (n : Int) : Bool := decide (-1048576 ≤ n) && decide (n ≤ 1048576)
def ok2 (r i : Int) : Bool := okI r && okI i
theorem okI_bd {n : Int} (h : okI n = true) : Bd 1048576 n := by
  simp only [okI, Bool.and_eq_true, decide_eq_true_eq] at h; unfold Bd; omega
theorem okI_of {n : Int} (h : Bd 1048576 n) : okI n = true := by
  simp only [okI, Bool.and_eq_true, decide_eq_true_eq]; unfold Bd at h; omega
theorem ok2_bd {r i : Int} (h : ok2 r i = true) : Bd 1048576 r ∧ Bd 1048576 i := by
  simp only [ok2, Bool.and_eq_true] at h; exact ⟨okI_bd h.1, okI_bd h.2⟩
theorem ok2_of {r i : Int} (h : Bd 1048576 r) (k : Bd 1048576 i) : ok2 r i = true := by
  simp only [ok2, Bool.and_eq_true]; exact ⟨okI_of h, okI_of k⟩
theorem ok2_sm {r i : Int} (h : ok2 r i = true) : Sm r ∧ Sm i := ⟨(ok2_bd h).1.sm (by decide), (ok2_bd h).2.sm (by decide)⟩

theorem cmp_ge (a b : Int) : (some (compare a b) == some Ordering.gt || some (compare a b) == some Ordering.eq) = decide (b ≤ a) := by
  simp only [compare, compareOfLessAndEq]
  by_cases h1 : a < b
  · rw [if_pos h1]; simp; omega
  · rw [if_neg h1]
    by_cases h2 : a = b
    · rw [if_pos h2]; simp; omega
    · rw [if_neg h2]; simp; omega
theorem cmp_le (a b : Int) : (some (compare a b) == some Ordering.lt || some (compare a b) == some Ordering.eq) = decide (a ≤ b) := by
  simp only [compare, compareOfLessAndEq]
  by_cases h1 : a < b
  · rw [if_pos h1]; simp; omega
  · rw [if_neg h1]
    by_cases h2 : a = b
    · rw [if_pos h2]; simp; omega
    · rw [if_neg h2]; simp; omega
theorem cmp_lt (a b : Int) : (some (compare a b) == some Ordering.lt) = decide (a < b) := by
  simp only [compare, compareOfLessAndEq]
  by_cases h1 : a < b
  · rw [if_pos h1]; simp; omega
  · rw [if_neg h1]
    by_cases h2 : a = b
    · rw [if_pos h2]; simp; omega
    · rw [if_neg h2]; simp; omega
theorem cmp_eq (a b : Int) : (some (compare a b) == some Ordering.eq) = decide (a = b) := by
  simp only [compare, compareOfLessAndEq]
  by_cases h1 : a < b
  · rw [if_pos h1]; simp; omega
  · rw [if_neg h1]
    by_cases h2 : a = b
    · rw [if_pos h2]; simp [h2]
    · rw [if_neg h2]; simp [h2]

theorem sm_lim : Sm (-1048576) ∧ Sm 1048576 ∧ Sm 0 := by unfold Sm; decide
theorem pf_fl (z : Bool) {n : Int} (h : Sm n) : pf (fl z n) = okI n := by
  unfold pf geB leB whB okI
  rw [← flNM, ← flPM, order_fl z false h sm_lim.1, order_fl z false h sm_lim.2.1, cmp_ge, cmp_le]
  have : truncB (fl z n) = fl z n := trunc_fl .zero z h
  rw [this, order_fl z z h h, cmp_eq]
  simp

/-- Is a float the same number as another one? -/
theorem eq_fl (z y : Bool) {a b : Int} (ha : Sm a) (hb : Sm b) : (FloatKind.f64.format.order (fl z a) (fl y b) == some .eq) = decide (a = b) := by rw [order_fl z y ha hb, cmp_eq]
theorem lt_fl (z y : Bool) {a b : Int} (ha : Sm a) (hb : Sm b) : (FloatKind.f64.format.order (fl z a) (fl y b) == some .lt) = decide (a < b) := by rw [order_fl z y ha hb, cmp_lt]
theorem eq_fl0 (z : Bool) {a : Int} (ha : Sm a) : (FloatKind.f64.format.order (fl z a) 0 == some .eq) = decide (a = 0) := by rw [← fl0]; exact eq_fl z false ha sm_lim.2.2
theorem gt_fl0 (z : Bool) {a : Int} (ha : Sm a) : (FloatKind.f64.format.order (fl z a) 0 == some .gt) = decide (0 < a) := by
  rw [← fl0, order_fl z false ha sm_lim.2.2]
  simp only [compare, compareOfLessAndEq]
  by_cases h1 : a < 0
  · rw [if_pos h1]; simp; omega
  · rw [if_neg h1]
    by_cases h2 : a = 0
    · rw [if_pos h2]; simp; omega
    · rw [if_neg h2]; simp; omega

theorem fits_raw (a b : Nat) (w : World) : Calls Tryd.prog 23 #[.complex .f64 a b] w fun e w' => e = .returned (.bool (pf a && pf b)) ∧ w = w' := by
  cases h1 : pf a with
  | false =>
    go_enter Tryd.func23, Tryd.ntmps23
    go_wp2_with (go_at_call 35; refine (partFits_any _ _).mono ?_; rintro e w' ⟨rfl, rfl⟩)
    go_ret
    exact ⟨rfl, rfl⟩
  | true =>
    go_enter Tryd.func23, Tryd.ntmps23
    go_wp2_with (go_at_call 35; refine (partFits_any _ _).mono ?_; rintro e w' ⟨rfl, rfl⟩)
    go_ret
    exact ⟨rfl, rfl⟩

theorem fits_fl (z y : Bool) {r i : Int} (hr : Sm r) (hi : Sm i) (w : World) : Calls Tryd.prog 23 #[.complex .f64 (fl z r) (fl y i)] w fun e w' => e = .returned (.bool (ok2 r i)) ∧ w = w' := by
  have h := fits_raw (fl z r) (fl y i) w
  rw [pf_fl z hr, pf_fl y hi] at h
  exact h

theorem nought_fl (z : Bool) {n : Int} (h : Sm n) (w : World) : Calls Tryd.prog 43 #[.float .f64 (fl z n)] w fun e w' => e = .returned (.float .f64 (fl false n)) ∧ w = w' := by
  have he := eq_fl0 z h
  by_cases h0 : n = 0
  · have h1 : (FloatKind.f64.format.order (fl z n) 0 == some .eq) = true := by rw [he]; simp [h0]
    have h2 : fl false n = 0 := by rw [h0]; exact fl0
    rw [h2]
    clear he h2 h0
    go_enter Tryd.func43, Tryd.ntmps43
    go_wp2
    go_ret
    exact ⟨rfl, rfl⟩
  · have h1 : (FloatKind.f64.format.order (fl z n) 0 == some .eq) = false := by rw [he]; simp [h0]
    have h2 : fl false n = fl z n := by simp [fl, sg, h0]
    rw [h2]
    clear he h2 h0
    go_enter Tryd.func43, Tryd.ntmps43
    go_wp2
    go_ret
    exact ⟨rfl, rfl⟩

/-- A number, if so; else nought. -/
def pk (c : Bool) (n : Int) : Int := if c then n else 0
theorem pk_true (n : Int) : pk true n = n := rfl
theorem pk_false (n : Int) : pk false n = 0 := rfl
theorem Bd.pk {A : Nat} {n : Int} (c : Bool) (h : Bd A n) : Bd A (pk c n) := by
  cases c
  · unfold Bd; simp [pk_false]
  · exact h
/-- What a call answers: the number, if so; else nought, and false. -/
abbrev ans (c : Bool) (r i : Int) : Value := .tuple #[.complex .f64 (fl false (pk c r)) (fl false (pk c i)), .bool c]
theorem ans_true (r i : Int) : ans true r i = .tuple #[.complex .f64 (fl false r) (fl false i), .bool true] := rfl
theorem ans_false (r i : Int) : ans false r i = .tuple #[.complex .f64 0 0, .bool false] := by rw [ans, pk_false, pk_false, fl0]

theorem ifFits_fl (z y : Bool) {r i : Int} (hr : Sm r) (hi : Sm i) (w : World) : Calls Tryd.prog 34 #[.complex .f64 (fl z r) (fl y i)] w fun e w' => e = .returned (ans (ok2 r i) r i) ∧ w = w' := by
  cases h : ok2 r i with
  | false =>
    rw [ans_false]
    go_enter Tryd.func34, Tryd.ntmps34
    go_wp2_with (go_at_call 23; refine (fits_fl z y hr hi _).mono ?_; rintro e w' ⟨rfl, rfl⟩)
    go_ret2
    exact ⟨rfl, rfl⟩
  | true =>
    rw [ans_true]
    go_enter Tryd.func34, Tryd.ntmps34
    go_wp2_with (first
      | (go_at_call 23; refine (fits_fl z y hr hi _).mono ?_; rintro e w' ⟨rfl, rfl⟩)
      | (go_at_call 43; refine (nought_fl _ (by assumption) _).mono ?_; rintro e w' ⟨rfl, rfl⟩))
    go_ret2
    exact ⟨rfl, rfl⟩

/-- Both fit, and so does what comes out. -/
def both (r i s k p q : Int) : Bool := ok2 r i && ok2 s k && ok2 p q
theorem both_of {r i s k p q : Int} (h1 : ok2 r i = true) (h2 : ok2 s k = true) : both r i s k p q = ok2 p q := by simp [both, h1, h2]

theorem add_any (z y x u : Bool) {r i s k : Int} (hr : Sm r) (hi : Sm i) (hs : Sm s) (hk : Sm k) (w : World) :
    Calls Tryd.prog 17 #[.complex .f64 (fl z r) (fl y i), .complex .f64 (fl x s) (fl u k)] w fun e w' => e = .returned (ans (both r i s k (r + s) (i + k)) (r + s) (i + k)) ∧ w = w' := by
  cases h1 : ok2 r i with
  | false =>
    rw [show both r i s k (r + s) (i + k) = false by simp [both, h1], ans_false]
    go_enter Tryd.func17, Tryd.ntmps17
    go_wp2_with (go_at_call 23; refine (fits_fl _ _ (by assumption) (by assumption) _).mono ?_; rintro e w' ⟨rfl, rfl⟩)
    go_ret2
    exact ⟨rfl, rfl⟩
  | true =>
    cases h2 : ok2 s k with
    | false =>
      rw [show both r i s k (r + s) (i + k) = false by simp [both, h2], ans_false]
      go_enter Tryd.func17, Tryd.ntmps17
      go_wp2_with (go_at_call 23; refine (fits_fl _ _ (by assumption) (by assumption) _).mono ?_; rintro e w' ⟨rfl, rfl⟩)
      go_ret2
      exact ⟨rfl, rfl⟩
    | true =>
      rw [both_of h1 h2]
      have b1 := ok2_bd h1
      have b2 := ok2_bd h2
      have s1 : Sm (r + s) := (b1.1.add b2.1).sm (by decide)
      have s2 : Sm (i + k) := (b1.2.add b2.2).sm (by decide)
      have hop := fun t w => run_complex_sum (P := Tryd.prog) w .add (Or.inl rfl) t .f64 (fl z r) (fl y i) (fl x s) (fl u k) _ _ (by
        unfold cSumBits; rw [add_fl z x hr hs s1, add_fl y u hi hk s2]; rfl)
      clear b1 b2
      go_enter Tryd.func17, Tryd.ntmps17
      go_wp2_with (first
        | (go_at_call 23; refine (fits_fl _ _ (by assumption) (by assumption) _).mono ?_; rintro e w' ⟨rfl, rfl⟩)
        | (go_at_call 34; refine (ifFits_fl _ _ (by assumption) (by assumption) _).mono ?_; rintro e w' ⟨rfl, rfl⟩))
      go_ret2
      exact ⟨rfl, rfl⟩
end Go.Proofs.YtmbdbdgilhjgeaaDoor
