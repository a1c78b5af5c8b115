/- gauss.Sub, Mul, Conj, Norm, Less, Truth at whole numbers: what each answers. -/
import Derived.Test.YtmbdbdgilhjgeaaDoorAr
set_option linter.unusedSimpArgs false
set_option linter.unusedVariables false
namespace Go.Proofs.YtmbdbdgilhjgeaaDoor
open Go.RowKit Ieee

theorem sub_any (z y x u : Bool) {r i s k : Int} (hr : Sm r) (hi : Sm i) (hs : Sm s) (hk : Sm k) (w : World) :
    Calls Tryd.prog 18 #[.complex .f64 (fl z r) (fl y i), .complex .f64 (fl x s) (fl u k)] w fun e w' => e = .returned (ans (both r i s k (r - s) (i - k)) (r - s) (i - k)) ∧ w = w' := by
  cases h1 : ok2 r i with
  | false =>
    rw [show both r i s k (r - s) (i - k) = false by simp [both, h1], ans_false]
    go_enter Tryd.func18, Tryd.ntmps18
    go_wp2_with (go_at_call 23; refine (fits_fl _ _ (by assumption) (by assumption) _).mono ?_; rintro e w' ⟨rfl, rfl⟩)
    go_ret2
    exact ⟨rfl, rfl⟩
  | true =>
    cases h2 : ok2 s k with
    | false =>
      rw [show both r i s k (r - s) (i - k) = false by simp [both, h2], ans_false]
      go_enter Tryd.func18, Tryd.ntmps18
      go_wp2_with (go_at_call 23; refine (fits_fl _ _ (by assumption) (by assumption) _).mono ?_; rintro e w' ⟨rfl, rfl⟩)
      go_ret2
      exact ⟨rfl, rfl⟩
    | true =>
      rw [both_of h1 h2]
      have b1 := ok2_bd h1
      have b2 := ok2_bd h2
      have s1 : Sm (r - s) := (b1.1.sub b2.1).sm (by decide)
      have s2 : Sm (i - k) := (b1.2.sub b2.2).sm (by decide)
      have hop := fun t w => run_complex_sum (P := Tryd.prog) w .sub (Or.inr rfl) t .f64 (fl z r) (fl y i) (fl x s) (fl u k) _ _ (by
        unfold cSumBits; rw [sub_fl z x hr hs s1, sub_fl y u hi hk s2]; rfl)
      clear b1 b2
      go_enter Tryd.func18, Tryd.ntmps18
      go_wp2_with (first
        | (go_at_call 23; refine (fits_fl _ _ (by assumption) (by assumption) _).mono ?_; rintro e w' ⟨rfl, rfl⟩)
        | (go_at_call 34; refine (ifFits_fl _ _ (by assumption) (by assumption) _).mono ?_; rintro e w' ⟨rfl, rfl⟩))
      go_ret2
      exact ⟨rfl, rfl⟩

theorem mul_any (z y x u : Bool) {r i s k : Int} (hr : Sm r) (hi : Sm i) (hs : Sm s) (hk : Sm k) (w : World) :
    Calls Tryd.prog 19 #[.complex .f64 (fl z r) (fl y i), .complex .f64 (fl x s) (fl u k)] w fun e w' => e = .returned (ans (both r i s k (r * s - i * k) (r * k + i * s)) (r * s - i * k) (r * k + i * s)) ∧ w = w' := by
  cases h1 : ok2 r i with
  | false =>
    rw [show both r i s k (r * s - i * k) (r * k + i * s) = false by simp [both, h1], ans_false]
    go_enter Tryd.func19, Tryd.ntmps19
    go_wp2_with (go_at_call 23; refine (fits_fl _ _ (by assumption) (by assumption) _).mono ?_; rintro e w' ⟨rfl, rfl⟩)
    go_ret2
    exact ⟨rfl, rfl⟩
  | true =>
    cases h2 : ok2 s k with
    | false =>
      rw [show both r i s k (r * s - i * k) (r * k + i * s) = false by simp [both, h2], ans_false]
      go_enter Tryd.func19, Tryd.ntmps19
      go_wp2_with (go_at_call 23; refine (fits_fl _ _ (by assumption) (by assumption) _).mono ?_; rintro e w' ⟨rfl, rfl⟩)
      go_ret2
      exact ⟨rfl, rfl⟩
    | true =>
      rw [both_of h1 h2]
      have b1 := ok2_bd h1
      have b2 := ok2_bd h2
      have m1 : Sm (r * s) := (b1.1.mul b2.1).sm (by decide)
      have m2 : Sm (i * k) := (b1.2.mul b2.2).sm (by decide)
      have m3 : Sm (r * k) := (b1.1.mul b2.2).sm (by decide)
      have m4 : Sm (i * s) := (b1.2.mul b2.1).sm (by decide)
      have s1 : Sm (r * s - i * k) := ((b1.1.mul b2.1).sub (b1.2.mul b2.2)).sm (by decide)
      have s2 : Sm (r * k + i * s) := ((b1.1.mul b2.2).add (b1.2.mul b2.1)).sm (by decide)
      have hop := fun t w => run_complex_mul (P := Tryd.prog) w t (fl z r) (fl y i) (fl x s) (fl u k) _ _ (by
        unfold cMulBits
        rw [mul_fl z x hr hs m1, mul_fl y u hi hk m2, mul_fl z u hr hk m3, mul_fl y x hi hs m4, Option.bind_some, Option.bind_some, sub_fl _ _ m1 m2 s1, Option.bind_some, Option.bind_some, Option.bind_some, add_fl _ _ m3 m4 s2]; rfl)
      clear b1 b2 m1 m2 m3 m4
      go_enter Tryd.func19, Tryd.ntmps19
      go_wp2_with (first
        | (go_at_call 23; refine (fits_fl _ _ (by assumption) (by assumption) _).mono ?_; rintro e w' ⟨rfl, rfl⟩)
        | (go_at_call 34; refine (ifFits_fl _ _ (by assumption) (by assumption) _).mono ?_; rintro e w' ⟨rfl, rfl⟩))
      go_ret2
      exact ⟨rfl, rfl⟩

theorem word_neg (s : Bool) {r : Nat} (h : r < 9223372036854775808) : Op.negFloat .f64 (double.word s r) = double.word (!s) r := by
  have e6 : double.signWeight = 2 ^ 63 := by decide
  have e7 : (FloatKind.f64.format.exponentBits + FloatKind.f64.format.fractionBits) = 63 := by decide
  unfold Op.negFloat Format.word
  rw [e7, e6]
  have hb : r < 2 ^ 63 := h
  have t1 : ∀ j, (2 ^ 63 + r).testBit j = if j = 63 then true else r.testBit j := by
    intro j
    have : 2 ^ 63 + r = 2 ^ 63 * 1 + r := by omega
    rw [this, Nat.testBit_two_pow_mul_add _ hb]
    by_cases hj : j < 63
    · simp [hj, show j ≠ 63 by omega]
    · by_cases hj2 : j = 63
      · subst hj2; simp
      · have hr0 : r.testBit j = false := Nat.testBit_lt_two_pow (Nat.lt_of_lt_of_le hb (Nat.pow_le_pow_right (by omega) (by omega)))
        simp only [hj, hj2, if_false, hr0]
        have : j - 63 ≠ 0 := by omega
        cases hq : j - 63 with
        | zero => omega
        | succ q => simp [Nat.testBit_succ]
  cases s
  · simp only [Bool.false_eq_true, if_false, Bool.not_false, if_true]
    apply Nat.eq_of_testBit_eq
    intro j
    rw [Nat.testBit_xor, Nat.testBit_two_pow, t1]
    by_cases hj : j = 63
    · subst hj
      have hr0 : r.testBit 63 = false := Nat.testBit_lt_two_pow hb
      simp [hr0]
    · have : ¬ 63 = j := by omega
      simp [hj, this]
  · simp only [Bool.not_true, Bool.false_eq_true, if_false, if_true]
    apply Nat.eq_of_testBit_eq
    intro j
    rw [Nat.testBit_xor, Nat.testBit_two_pow, t1]
    by_cases hj : j = 63
    · subst hj
      have hr0 : r.testBit 63 = false := Nat.testBit_lt_two_pow hb
      simp [hr0]
    · have : ¬ 63 = j := by omega
      simp [hj, this]

theorem fl_word (z : Bool) {n : Int} (h : Sm n) : ∃ r, r < 9223372036854775808 ∧ fl z n = double.word (sg z n) r ∧ ∀ s, double.nearest s n.natAbs 0 = double.word s r := by
  by_cases h0 : n = 0
  · subst h0
    exact ⟨0, by omega, by simp [fl, Format.nearest], fun s => by simp [Format.nearest]⟩
  · have hn : n.natAbs ≠ 0 := by omega
    have e : ∀ s, double.nearest s n.natAbs 0 = double.word s (rung n.natAbs) := fun s => by
      have := nearest_pos s hn h 0
      simpa using this
    refine ⟨rung n.natAbs, ?_, e _, e⟩
    have hk := kept_bounds hn h
    have hl := log_lt h
    unfold rung
    omega
theorem sg_neg (z : Bool) (n : Int) : sg (!z) (-n) = !(sg z n) := by
  unfold sg
  by_cases ha : n = 0
  · subst ha; simp
  · simp only [ha, if_false, show -n ≠ 0 by omega]
    by_cases h1 : n < 0
    · simp [h1]; omega
    · simp [h1]; omega
theorem neg_fl (z : Bool) {n : Int} (h : Sm n) : Op.negFloat .f64 (fl z n) = fl (!z) (-n) := by
  obtain ⟨r, hr, e1, e2⟩ := fl_word z h
  rw [e1, word_neg _ hr]
  unfold fl
  rw [Int.natAbs_neg, e2, sg_neg]

theorem conj_any (z y : Bool) {r i : Int} (hr : Sm r) (hi : Sm i) (w : World) :
    Calls Tryd.prog 21 #[.complex .f64 (fl z r) (fl y i)] w fun e w' => e = .returned (ans (ok2 r (-i)) r (-i)) ∧ w = w' := by
  have hm : Sm (-i) := by unfold Sm at *; omega
  have hn : Op.unary .neg (.float .f64 (fl y i)) = pure (.float .f64 (fl (!y) (-i))) := by rw [← neg_fl y hi]; rfl
  go_enter Tryd.func21, Tryd.ntmps21
  go_wp2_with (go_at_call 34; refine (ifFits_fl _ _ (by assumption) (by assumption) _).mono ?_; rintro e w' ⟨rfl, rfl⟩)
  go_ret2
  exact ⟨rfl, rfl⟩

theorem ifFits_nought (z : Bool) {r : Int} (hr : Sm r) (w : World) : Calls Tryd.prog 34 #[.complex .f64 (fl z r) 0] w fun e w' => e = .returned (ans (ok2 r 0) r 0) ∧ w = w' := by
  have h := ifFits_fl z false hr sm_lim.2.2 w
  rw [fl0] at h
  exact h
theorem norm_any (z y : Bool) {r i : Int} (hr : Sm r) (hi : Sm i) (w : World) :
    Calls Tryd.prog 22 #[.complex .f64 (fl z r) (fl y i)] w fun e w' => e = .returned (ans (ok2 r i && ok2 (r * r + i * i) 0) (r * r + i * i) 0) ∧ w = w' := by
  cases h1 : ok2 r i with
  | false =>
    rw [Bool.false_and, ans_false]
    go_enter Tryd.func22, Tryd.ntmps22
    go_wp2_with (go_at_call 23; refine (fits_fl _ _ (by assumption) (by assumption) _).mono ?_; rintro e w' ⟨rfl, rfl⟩)
    go_ret2
    exact ⟨rfl, rfl⟩
  | true =>
    rw [Bool.true_and]
    have b1 := ok2_bd h1
    have m1 : Sm (r * r) := (b1.1.mul b1.1).sm (by decide)
    have m2 : Sm (i * i) := (b1.2.mul b1.2).sm (by decide)
    have s1 : Sm (r * r + i * i) := ((b1.1.mul b1.1).add (b1.2.mul b1.2)).sm (by decide)
    have s0 : Sm 0 := sm_lim.2.2
    have h2 := fun t w => run_float_arith (P := Tryd.prog) w .mul t .f64 _ _ _ (by rw [mul_fl z z hr hr m1, Bool.xor_self])
    have h3 := fun t w => run_float_arith (P := Tryd.prog) w .mul t .f64 _ _ _ (by rw [mul_fl y y hi hi m2, Bool.xor_self])
    have h4 := fun t w => run_float_arith (P := Tryd.prog) w .add t .f64 _ _ _ (add_fl false false m1 m2 s1)
    clear b1 m1 m2
    go_enter Tryd.func22, Tryd.ntmps22
    go_wp2_with (first
      | (go_at_call 23; refine (fits_fl _ _ (by assumption) (by assumption) _).mono ?_; rintro e w' ⟨rfl, rfl⟩)
      | (go_at_call 34; refine (ifFits_nought _ (by assumption) _).mono ?_; rintro e w' ⟨rfl, rfl⟩))
    go_ret2
    exact ⟨rfl, rfl⟩

/-- By the real parts, then by the imaginary ones. -/
def lessB (r i s k : Int) : Bool := if r = s then decide (i < k) else decide (r < s)
theorem less_any (z y x u : Bool) {r i s k : Int} (hr : Sm r) (hi : Sm i) (hs : Sm s) (hk : Sm k) (w : World) :
    Calls Tryd.prog 28 #[.complex .f64 (fl z r) (fl y i), .complex .f64 (fl x s) (fl u k)] w fun e w' => e = .returned (.bool (lessB r i s k)) ∧ w = w' := by
  have l1 := lt_fl z x hr hs
  have l2 := lt_fl y u hi hk
  by_cases h : r = s
  · have e1 : (FloatKind.f64.format.order (fl z r) (fl x s) != some .eq) = false := by
      have := eq_fl z x hr hs
      rw [bne, this, h]; simp
    rw [show lessB r i s k = decide (i < k) by simp [lessB, h], ← l2]
    clear l1 l2 h
    go_enter Tryd.func28, Tryd.ntmps28
    go_wp2
    go_ret
    exact ⟨rfl, rfl⟩
  · have e1 : (FloatKind.f64.format.order (fl z r) (fl x s) != some .eq) = true := by
      have := eq_fl z x hr hs
      rw [bne, this]; simp [h]
    rw [show lessB r i s k = decide (r < s) by simp [lessB, h], ← l1]
    clear l1 l2 h
    go_enter Tryd.func28, Tryd.ntmps28
    go_wp2
    go_ret
    exact ⟨rfl, rfl⟩

theorem fl1 : fl false 1 = 4607182418800017408 := by decide +kernel
theorem truth_any (b : Bool) (w : World) : Calls Tryd.prog 29 #[.bool b] w fun e w' => e = .returned (.complex .f64 (fl false (if b then 1 else 0)) (fl false 0)) ∧ w = w' := by
  cases b
  · rw [show (if false = true then (1 : Int) else 0) = 0 from rfl, fl0]
    go_enter Tryd.func29, Tryd.ntmps29
    go_wp2
    go_ret
    exact ⟨rfl, rfl⟩
  · rw [show (if true = true then (1 : Int) else 0) = 1 from rfl, fl1, fl0]
    go_enter Tryd.func29, Tryd.ntmps29
    go_wp2
    go_ret
    exact ⟨rfl, rfl⟩
end Go.Proofs.YtmbdbdgilhjgeaaDoor
