/- A number's text, parted and read back: the plain mathematics of parts; great whole numbers don't fit. -/
import Derived.Test.YtgiioflkclkioaaGreatDoorTx
import Derived.Test.YtgiioflkclkioaaGreatDoorRw
import Derived.Test.YtgiioflkclkioaaGreatDoorPs
set_option linter.unusedSimpArgs false
set_option linter.unusedVariables false
namespace Go.Proofs.YtgiioflkclkioaaGreatDoor
open Go.Lib Ieee

theorem itoa_neg' {n : Int} (h : n < 0) : itoa n = 45 :: decDigits n.natAbs := by rw [itoa, if_pos h]
theorem itoa_pos' {n : Int} (h : ¬ n < 0) : itoa n = decDigits n.toNat := by rw [itoa, if_neg h]
theorem atoi_itoa {n : Int} (h : Bd 1048576 n) : atoiAll (itoa n) = .ok n := by
  unfold Bd at h
  by_cases hn : n < 0
  · rw [itoa_neg' hn, atoi_neg (by omega)]; congr 1; omega
  · rw [itoa_pos' hn, atoi_dec (by omega)]; congr 1; omega
theorem asc_cons {b : UInt8} {l : List UInt8} (hb : b.toNat < 128) (h : Asc l) : Asc (b :: l) := by
  intro c hc
  rcases List.mem_cons.1 hc with rfl | hc
  · exact hb
  · exact h c hc
theorem asc_app {l m : List UInt8} (h : Asc l) (k : Asc m) : Asc (l ++ m) := by
  intro c hc
  rcases List.mem_append.1 hc with hc | hc
  · exact h c hc
  · exact k c hc
theorem itoa_asc (n : Int) : Asc (itoa n) := by
  by_cases hn : n < 0
  · rw [itoa_neg' hn]; exact asc_cons (by decide) (dec_asc _)
  · rw [itoa_pos' hn]; exact dec_asc _
theorem dg_not_i {b : UInt8} (h : isDg b) : b ≠ 105 := by rintro rfl; revert h; unfold isDg; decide
theorem itoa_not_i (n : Int) : ∀ b ∈ itoa n, b ≠ 105 := by
  by_cases hn : n < 0
  · rw [itoa_neg' hn]
    intro b hb
    rcases List.mem_cons.1 hb with rfl | hb
    · decide
    · exact dg_not_i (dec_digits _ b hb)
  · rw [itoa_pos' hn]; exact fun b hb => dg_not_i (dec_digits _ b hb)
theorem itoa_ne (n : Int) : itoa n ≠ [] := by
  by_cases hn : n < 0
  · rw [itoa_neg' hn]; simp
  · rw [itoa_pos' hn]; exact dec_ne _
theorem itoa_zero : itoa 0 = [48] := by rw [itoa_pos' (by omega)]; rw [decDigits]; rfl

theorem txt_real (r : Int) : txt r 0 = itoa r := by simp [txt]
theorem txt_imag {i : Int} (h : i ≠ 0) : txt 0 i = itoa i ++ [105] := by simp [txt, h]
/-- The imaginary part behind a real one: its sign, and its digits. -/
theorem txt_both {r i : Int} (hr : r ≠ 0) (hi : i ≠ 0) (hb : Bd 1048576 i) : ∃ s : UInt8, ∃ u : Nat, isSg s = true ∧ s.toNat < 128 ∧ txt r i = (itoa r ++ s :: decDigits u) ++ [105] ∧ atoiAll (s :: decDigits u) = .ok i := by
  unfold Bd at hb
  by_cases h : 0 < i
  · refine ⟨43, i.toNat, by decide, by decide, ?_, ?_⟩
    · simp only [txt, if_neg hi, if_neg hr, if_pos h, itoa_pos' (show ¬ i < 0 by omega)]
      simp
    · rw [atoi_plus (by omega)]; congr 1; omega
  · refine ⟨45, i.natAbs, by decide, by decide, ?_, ?_⟩
    · simp only [txt, if_neg hi, if_neg hr, if_neg h, itoa_neg' (show i < 0 by omega)]
      simp
    · rw [atoi_neg (by omega)]; congr 1; omega

theorem part_none {l : List UInt8} (h : hasSuffix l [105] = false) {r i : Int} (hr : Bd 1048576 r) (hi : Bd 1048576 i) (e : l = txt r i) : atoiAll l = .ok r ∧ atoiAll [48] = .ok i := by
  by_cases h0 : i = 0
  · subst h0
    rw [txt_real] at e
    subst e
    refine ⟨atoi_itoa hr, ?_⟩
    rw [← itoa_zero]; exact atoi_itoa hi
  · by_cases h1 : r = 0
    · subst h1
      rw [txt_imag h0] at e
      subst e
      rw [(suffix_yes _).1] at h; cases h
    · obtain ⟨s, u, _, _, e1, _⟩ := txt_both h1 h0 hi
      rw [e1] at e
      subst e
      rw [(suffix_yes _).1] at h; cases h
theorem part_zero {l : List UInt8} (h : hasSuffix l [105] = true) {k : Int} (hk : SgPost (trimSuffix l [105]) k) (hk0 : k ≤ 0) {r i : Int} (hr : Bd 1048576 r) (hi : Bd 1048576 i) (e : l = txt r i) :
    atoiAll [48] = .ok r ∧ atoiAll (trimSuffix l [105]) = .ok i := by
  by_cases h0 : i = 0
  · subst h0
    rw [txt_real] at e
    subst e
    rw [suffix_no (itoa_not_i r)] at h; cases h
  · by_cases h1 : r = 0
    · subst h1
      rw [txt_imag h0] at e
      subst e
      rw [(suffix_yes _).2, ← itoa_zero]
      exact ⟨atoi_itoa hr, atoi_itoa hi⟩
    · obtain ⟨s, u, hs, ha, e1, _⟩ := txt_both h1 h0 hi
      rw [e1] at e
      subst e
      rw [(suffix_yes _).2] at hk
      have := sg_at hk (asc_app (itoa_asc r) (asc_cons ha (dec_asc u))) hs (dec_nosg u)
      have hp : 0 < (itoa r).length := List.length_pos_iff.2 (itoa_ne r)
      omega
theorem part_two {l : List UInt8} (h : hasSuffix l [105] = true) {k : Nat} (hk : SgPost (trimSuffix l [105]) (k : Int)) (hk0 : 0 < k) {r i : Int} (hr : Bd 1048576 r) (hi : Bd 1048576 i) (e : l = txt r i) :
    atoiAll ((trimSuffix l [105]).take k) = .ok r ∧ atoiAll ((trimSuffix l [105]).drop k) = .ok i := by
  by_cases h0 : i = 0
  · subst h0
    rw [txt_real] at e
    subst e
    rw [suffix_no (itoa_not_i r)] at h; cases h
  · by_cases h1 : r = 0
    · subst h1
      rw [txt_imag h0] at e
      subst e
      rw [(suffix_yes _).2] at hk
      exfalso
      by_cases hn : i < 0
      · rw [itoa_neg' hn] at hk
        have := sg_at (A := []) hk (asc_cons (by decide) (dec_asc _)) (by decide) (dec_nosg _)
        simp at this
        omega
      · rw [itoa_pos' hn] at hk
        have := sg_none hk (dec_asc _) (dec_nosg _)
        omega
    · obtain ⟨s, u, hs, ha, e1, e2⟩ := txt_both h1 h0 hi
      rw [e1] at e
      subst e
      rw [(suffix_yes _).2] at hk ⊢
      have := sg_at hk (asc_app (itoa_asc r) (asc_cons ha (dec_asc u))) hs (dec_nosg u)
      obtain rfl : k = (itoa r).length := by omega
      rw [List.take_left', List.drop_left'] <;> try rfl
      exact ⟨atoi_itoa hr, e2⟩

theorem cut_even_bounds (s : Bool) {m d : Nat} (hd : d ≤ m.log2 + 2) : m / 2 ^ d ≤ Toward.even.cut s m d ∧ Toward.even.cut s m d ≤ m / 2 ^ d + 1 := by
  unfold Toward.cut
  simp only [Nat.min_eq_left hd, Nat.one_shiftLeft]
  generalize (decide (2 ^ d < 2 * (m % 2 ^ d)) || (2 ^ d == 2 * (m % 2 ^ d) && m / 2 ^ d % 2 == 1)) = b
  cases b <;> simp
/-- A great whole number's float: far beyond the limit. -/
theorem read_big (s : Bool) {m : Nat} (h0 : 9007199254740992 ≤ m) (h1 : m ≤ 9223372036854775808) : ∃ q : Nat, ∃ e : Nat, double.read (double.nearest s m 0) = .number s q (e : Int) ∧ 4503599627370496 ≤ q := by
  have hne : m ≠ 0 := by omega
  have hL1 : 53 ≤ m.log2 := (Nat.le_log2 hne).2 (by simpa using h0)
  have hL2 : m.log2 ≤ 63 := by
    have : m.log2 < 64 := (Nat.log2_lt hne).2 (Nat.lt_of_le_of_lt h1 (by decide))
    omega
  have e4 : double.binade = 4503599627370496 := by decide
  have e5 : double.infRung = 9218868437227405312 := by decide
  have e6 : double.signWeight = 9223372036854775808 := by decide
  have e7 : double.leastPlace = -1074 := by decide
  have hk : 4503599627370496 ≤ m / 2 ^ (m.log2 - 52) ∧ m / 2 ^ (m.log2 - 52) < 9007199254740992 := by
    have a1 := Nat.log2_self_le hne
    have a2 : m < 2 ^ (m.log2 + 1) := Nat.lt_log2_self
    have hp : 0 < 2 ^ (m.log2 - 52) := Nat.pow_pos (by omega)
    constructor
    · rw [Nat.le_div_iff_mul_le hp]
      have : 4503599627370496 * 2 ^ (m.log2 - 52) = 2 ^ m.log2 := by
        rw [show (4503599627370496 : Nat) = 2 ^ 52 by decide, ← Nat.pow_add, show 52 + (m.log2 - 52) = m.log2 by omega]
      omega
    · rw [Nat.div_lt_iff_lt_mul hp]
      have : 9007199254740992 * 2 ^ (m.log2 - 52) = 2 ^ (m.log2 + 1) := by
        rw [show (9007199254740992 : Nat) = 2 ^ 53 by decide, ← Nat.pow_add, show 53 + (m.log2 - 52) = m.log2 + 1 by omega]
      omega
  obtain ⟨c1, c2⟩ := cut_even_bounds s (m := m) (d := m.log2 - 52) (by omega)
  have hn : double.nearest s m 0 = double.word s ((m.log2 + 1022) * 4503599627370496 + Toward.even.cut s m (m.log2 - 52)) := by
    unfold Format.nearest
    rw [if_neg hne]
    have m1 : max ((0 : Int) + (m.log2 : Nat) - (double.fractionBits : Nat)) double.leastPlace = (m.log2 : Int) - 52 := by
      rw [e7]; simp [double]; omega
    simp only [m1]
    rw [show ((0 : Int) - ((m.log2 : Int) - 52)).toNat = 0 by omega, show ((m.log2 : Int) - 52 - 0).toNat = m.log2 - 52 by omega, Nat.shiftLeft_zero, e4, e5, e7]
    rw [show ((m.log2 : Int) - 52 - -1074).toNat = m.log2 + 1022 by omega, Nat.min_eq_left (by omega)]
  rw [hn]
  generalize Toward.even.cut s m (m.log2 - 52) = c at *
  have hr : ∃ R, R = (m.log2 + 1022) * 4503599627370496 + c ∧ R < 9218868437227405312 ∧ 4503599627370496 ≤ R ∧ m.log2 + 1023 ≤ R / 4503599627370496 := ⟨_, rfl, by omega, by omega, by omega⟩
  obtain ⟨R, eR, r1, r2, r3⟩ := hr
  rw [← eR]
  clear eR hn c1 c2 hk
  have w1 : double.word s R / 9223372036854775808 % 2 = s.toNat ∧ double.word s R % 9223372036854775808 = R := by
    unfold Format.word
    rw [e6]
    cases s <;> simp <;> omega
  refine ⟨4503599627370496 + R % 4503599627370496, R / 4503599627370496 - 1 - 1074, ?_, by omega⟩
  unfold Format.read
  simp only [e4, e5, e6, e7, w1.1, w1.2]
  rw [if_neg (by omega), if_pos r1]
  have g1 : (s.toNat == 1) = s := by cases s <;> rfl
  rw [g1, show (-1074 : Int) + ((R / 4503599627370496 - 1 : Nat) : Int) = ((R / 4503599627370496 - 1 - 1074 : Nat) : Int) by omega]
theorem pf_int {v : Int} (h0 : -9223372036854775808 ≤ v) (h1 : v ≤ 9223372036854775807) (h : pf (fl false v) = true) : Bd 1048576 v := by
  by_cases hs : Sm v
  · rw [pf_fl false hs] at h
    exact okI_bd h
  · exfalso
    unfold Sm at hs
    obtain ⟨q, e, e1, hq⟩ := read_big (sg false v) (m := v.natAbs) (by omega) (by omega)
    rw [pf_read] at h
    unfold fl at h
    rw [e1] at h
    unfold pfD at h
    simp only [Bool.and_eq_true, decide_eq_true_eq] at h
    have hp : 1 ≤ 2 ^ (e : Int).toNat := Nat.one_le_two_pow
    have : q * 1 ≤ q * 2 ^ (e : Int).toNat := Nat.mul_le_mul_left _ hp
    have z : (-(e : Int)).toNat = 0 := by omega
    rw [z] at h
    omega
end Go.Proofs.YtgiioflkclkioaaGreatDoor
