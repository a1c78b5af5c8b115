/- Floats that hold whole numbers below 2^53: how they read, add, multiply, compare, are cut. No program is named here. -/
import Derived.Laws.ComplexArith
set_option linter.unusedSimpArgs false
set_option linter.unusedVariables false
namespace Go.Proofs.YtgiioflkclkioaaGreatDoor
open Ieee

theorem cut_exact (way : Toward) (s : Bool) (q d : Nat) : way.cut s (q * 2 ^ d) d = q := by
  have hg : ∃ g, 0 < g ∧ 1 <<< min d ((q * 2 ^ d).log2 + 2) = g ∧ q * 2 ^ d / g = q ∧ q * 2 ^ d % g = 0 := by
    by_cases hq : q = 0
    · subst hq
      refine ⟨_, ?_, rfl, by simp, by simp⟩
      rw [Nat.one_shiftLeft]; exact Nat.pow_pos (by omega)
    · have hpos : 0 < 2 ^ d := Nat.pow_pos (by omega)
      have hl : d ≤ (q * 2 ^ d).log2 := by
        rw [Nat.le_log2 (by intro h; rcases Nat.mul_eq_zero.1 h with h | h <;> omega)]
        exact Nat.le_mul_of_pos_left _ (by omega)
      refine ⟨2 ^ d, hpos, ?_, ?_, ?_⟩
      · rw [Nat.min_eq_left (by omega), Nat.one_shiftLeft]
      · exact Nat.mul_div_cancel _ hpos
      · exact Nat.mul_mod_left _ _
  obtain ⟨g, hpos, e, e1, e2⟩ := hg
  unfold Toward.cut
  simp only [e, e1, e2]
  cases way <;> simp <;> omega

/-- A float's rung, of a number of L + 1 binary digits. -/
def rung (m : Nat) : Nat := (m.log2 + 1022) * 4503599627370496 + m * 2 ^ (52 - m.log2)

theorem log_lt {m : Nat} (h : m < 9007199254740992) : m.log2 ≤ 52 := by
  by_cases h0 : m = 0
  · subst h0; decide
  · have : m.log2 < 53 := (Nat.log2_lt h0).2 (by simpa using h)
    omega
theorem kept_bounds {m : Nat} (h0 : m ≠ 0) (h : m < 9007199254740992) : 4503599627370496 ≤ m * 2 ^ (52 - m.log2) ∧ m * 2 ^ (52 - m.log2) < 9007199254740992 := by
  have hl := log_lt h
  have h1 := Nat.log2_self_le h0
  have h2 : m < 2 ^ (m.log2 + 1) := Nat.lt_log2_self
  have hp : 0 < 2 ^ (52 - m.log2) := Nat.pow_pos (by omega)
  constructor
  · have := Nat.mul_le_mul_right (2 ^ (52 - m.log2)) h1
    rw [← Nat.pow_add, show m.log2 + (52 - m.log2) = 52 by omega] at this
    simpa using this
  · have := Nat.mul_lt_mul_of_pos_right h2 hp
    rw [← Nat.pow_add, show m.log2 + 1 + (52 - m.log2) = 53 by omega] at this
    simpa using this

theorem log_mul {m : Nat} (h0 : m ≠ 0) (k : Nat) : (m * 2 ^ k).log2 = m.log2 + k := by
  have hp : 0 < 2 ^ k := Nat.pow_pos (by omega)
  rw [Nat.log2_eq_iff (by intro h; rcases Nat.mul_eq_zero.1 h with h | h <;> omega)]
  have h1 := Nat.log2_self_le h0
  have h2 : m < 2 ^ (m.log2 + 1) := Nat.lt_log2_self
  constructor
  · rw [Nat.pow_add]; exact Nat.mul_le_mul_right _ h1
  · rw [show m.log2 + k + 1 = m.log2 + 1 + k by omega, Nat.pow_add]; exact Nat.mul_lt_mul_of_pos_right h2 hp

theorem nearest_pos (s : Bool) {m : Nat} (h0 : m ≠ 0) (h : m < 9007199254740992) (k : Nat) : double.nearest s (m * 2 ^ k) (-(k : Int)) = double.word s (rung m) := by
  have hl := log_lt h
  have hk := kept_bounds h0 h
  have hne : m * 2 ^ k ≠ 0 := by
    intro e; rcases Nat.mul_eq_zero.1 e with e | e
    · exact h0 e
    · have : 0 < 2 ^ k := Nat.pow_pos (by omega)
      omega
  unfold Format.nearest
  rw [if_neg hne]
  have e1 : max (-(k : Int) + ((m * 2 ^ k).log2 : Nat) - (double.fractionBits : Nat)) double.leastPlace = (m.log2 : Int) - 52 := by
    rw [log_mul h0]; simp [double, Format.leastPlace]; omega
  simp only [e1]
  have e2 : Toward.even.cut s ((m * 2 ^ k) <<< (-(k : Int) - ((m.log2 : Int) - 52)).toNat) (((m.log2 : Int) - 52) - -(k : Int)).toNat = m * 2 ^ (52 - m.log2) := by
    by_cases hc : 52 ≤ m.log2 + k
    · rw [show (-(k : Int) - ((m.log2 : Int) - 52)).toNat = 0 by omega, show (((m.log2 : Int) - 52) - -(k : Int)).toNat = m.log2 + k - 52 by omega, Nat.shiftLeft_zero]
      have : m * 2 ^ k = m * 2 ^ (52 - m.log2) * 2 ^ (m.log2 + k - 52) := by
        rw [Nat.mul_assoc, ← Nat.pow_add, show 52 - m.log2 + (m.log2 + k - 52) = k by omega]
      rw [this, cut_exact]
    · rw [show (((m.log2 : Int) - 52) - -(k : Int)).toNat = 0 by omega, show (-(k : Int) - ((m.log2 : Int) - 52)).toNat = 52 - m.log2 - k by omega, Nat.shiftLeft_eq]
      rw [Nat.mul_assoc, ← Nat.pow_add, show k + (52 - m.log2 - k) = 52 - m.log2 by omega]
      have := cut_exact .even s (m * 2 ^ (52 - m.log2)) 0
      simpa using this
  rw [e2]
  congr 1
  have e3 : ((m.log2 : Int) - 52 - double.leastPlace).toNat = m.log2 + 1022 := by simp [double, Format.leastPlace]; omega
  rw [e3]
  have e4 : double.binade = 4503599627370496 := by decide
  have e5 : double.infRung = 9218868437227405312 := by decide
  rw [e4, e5]
  unfold rung
  omega

theorem read_word (s : Bool) {m : Nat} (h0 : m ≠ 0) (h : m < 9007199254740992) : double.read (double.word s (rung m)) = .number s (m * 2 ^ (52 - m.log2)) (-((52 - m.log2 : Nat) : Int)) := by
  have hl := log_lt h
  have hk := kept_bounds h0 h
  have e4 : double.binade = 4503599627370496 := by decide
  have e5 : double.infRung = 9218868437227405312 := by decide
  have e6 : double.signWeight = 9223372036854775808 := by decide
  have hr : rung m < 9218868437227405312 ∧ 4503599627370496 ≤ rung m ∧ rung m / 4503599627370496 = m.log2 + 1023 ∧ 4503599627370496 + rung m % 4503599627370496 = m * 2 ^ (52 - m.log2) := by
    unfold rung; omega
  generalize rung m = r at *
  obtain ⟨r1, r2, r3, r4⟩ := hr
  have w1 : double.word s r / 9223372036854775808 % 2 = s.toNat ∧ double.word s r % 9223372036854775808 = r := by
    unfold Format.word
    rw [e6]
    cases s <;> simp <;> omega
  unfold Format.read
  simp only [e4, e5, e6, w1.1, w1.2]
  rw [if_neg (by omega), if_pos r1, r4, r3]
  have g1 : (s.toNat == 1) = s := by cases s <;> rfl
  have g2 : double.leastPlace + ((m.log2 + 1023 - 1 : Nat) : Int) = -((52 - m.log2 : Nat) : Int) := by
    have : double.leastPlace = -1074 := by decide
    rw [this]; omega
  rw [g1, g2]

theorem read_nought (s : Bool) : double.read (double.word s 0) = .number s 0 (-(1074 : Nat) : Int) := by cases s <;> decide

/-- The sign bit of a number's float: a nought's is handed in. -/
def sg (z : Bool) (n : Int) : Bool := if n = 0 then z else decide (n < 0)
/-- The float that is n; z: the sign of a nought. -/
def fl (z : Bool) (n : Int) : Nat := double.nearest (sg z n) n.natAbs 0
/-- A whole number that a float holds. -/
def Sm (n : Int) : Prop := n.natAbs < 9007199254740992

theorem read_fl (z : Bool) {n : Int} (h : Sm n) : ∃ k : Nat, double.read (fl z n) = .number (sg z n) (n.natAbs * 2 ^ k) (-(k : Int)) := by
  by_cases h0 : n = 0
  · subst h0
    refine ⟨1074, ?_⟩
    have : fl z 0 = double.word z 0 := by simp [fl, sg, Format.nearest]
    rw [this, read_nought]
    simp only [sg, if_true, Int.natAbs_zero, Nat.zero_mul]
  · have hn : n.natAbs ≠ 0 := by omega
    refine ⟨52 - n.natAbs.log2, ?_⟩
    have := nearest_pos (sg z n) hn h 0
    simp at this
    unfold fl
    rw [this, read_word _ hn h]

theorem write_fl (z : Bool) {n : Int} (h : Sm n) (k : Nat) : double.write (.number (sg z n) (n.natAbs * 2 ^ k) (-(k : Int))) = fl z n := by
  unfold Format.write fl
  by_cases h0 : n = 0
  · subst h0; simp [sg, Format.nearest]
  · have hn : n.natAbs ≠ 0 := by omega
    have e := nearest_pos (sg z n) hn h 0
    simp at e
    simp only [nearest_pos (sg z n) hn h k, e]

theorem signed_sg (z : Bool) (n : Int) (k u : Nat) : signed (sg z n) (n.natAbs * 2 ^ k) u = n * (2 ^ (k + u) : Nat) := by
  unfold signed sg
  rw [Nat.shiftLeft_eq, Nat.mul_assoc, ← Nat.pow_add]
  generalize 2 ^ (k + u) = p
  by_cases h0 : n = 0
  · subst h0; cases z <;> simp
  · rw [if_neg h0]
    by_cases hn : n < 0
    · simp only [hn, decide_true, if_true, Int.natCast_mul]
      have : (n.natAbs : Int) = -n := by omega
      rw [this, Int.neg_mul, Int.neg_neg]
    · simp only [hn, decide_false, Bool.false_eq_true, if_false, Int.natCast_mul]
      have : (n.natAbs : Int) = n := by omega
      rw [this]

theorem sg_pow (s : Bool) (n : Int) (M : Nat) : (if n * (2 ^ M : Nat) = 0 then s else decide (n * ((2 ^ M : Nat) : Int) < 0)) = sg s n := by
  have hp : 0 < 2 ^ M := Nat.pow_pos (by omega)
  generalize 2 ^ M = p at *
  have hp' : (0 : Int) < p := by omega
  unfold sg
  by_cases h0 : n = 0
  · subst h0; simp
  · have hne : n * (p : Int) ≠ 0 := by
      intro e; rcases Int.mul_eq_zero.1 e with e | e <;> omega
    rw [if_neg h0, if_neg hne]
    by_cases hn : n < 0
    · simp [hn, Int.mul_neg_of_neg_of_pos hn hp']
    · have : ¬ n * (p : Int) < 0 := by
        have := Int.mul_nonneg (show 0 ≤ n by omega) (Int.le_of_lt hp')
        omega
      simp [hn, this]

theorem sum_data (z y : Bool) (a b : Int) (k l : Nat) :
    Datum.sum (.number (sg z a) (a.natAbs * 2 ^ k) (-(k : Int))) (.number (sg y b) (b.natAbs * 2 ^ l) (-(l : Int)))
      = some (.number (sg (sg z a && sg y b) (a + b)) ((a + b).natAbs * 2 ^ (max k l)) (-((max k l : Nat) : Int))) := by
  have e0 : min (-(k : Int)) (-(l : Int)) = -((max k l : Nat) : Int) := by omega
  simp only [Datum.sum, e0]
  have e1 : (-(k : Int) - -((max k l : Nat) : Int)).toNat = max k l - k := by omega
  have e2 : (-(l : Int) - -((max k l : Nat) : Int)).toNat = max k l - l := by omega
  simp only [e1, e2, signed_sg]
  rw [show k + (max k l - k) = max k l by omega, show l + (max k l - l) = max k l by omega, ← Int.add_mul, sg_pow, Int.natAbs_mul, Int.natAbs_natCast]

theorem product_data (z y : Bool) (a b : Int) (k l : Nat) :
    Datum.product (.number (sg z a) (a.natAbs * 2 ^ k) (-(k : Int))) (.number (sg y b) (b.natAbs * 2 ^ l) (-(l : Int)))
      = some (.number (sg (sg z a ^^ sg y b) (a * b)) ((a * b).natAbs * 2 ^ (k + l)) (-((k + l : Nat) : Int))) := by
  simp only [Datum.product, Option.some.injEq, Datum.number.injEq]
  refine ⟨?_, ?_, by omega⟩
  · unfold sg
    by_cases ha : a = 0
    · subst ha; simp
    · by_cases hb : b = 0
      · subst hb; simp
      · have hne : a * b ≠ 0 := by intro e; rcases Int.mul_eq_zero.1 e with e | e <;> omega
        simp only [ha, hb, hne, if_false]
        by_cases h1 : a < 0 <;> by_cases h2 : b < 0
        · have := Int.mul_pos_of_neg_of_neg h1 h2
          simp [h1, h2]; omega
        · have := Int.mul_neg_of_neg_of_pos h1 (show 0 < b by omega)
          simp [h1, h2, this]
        · have := Int.mul_neg_of_pos_of_neg (show 0 < a by omega) h2
          simp [h1, h2, this]
        · have := Int.mul_pos (show 0 < a by omega) (show 0 < b by omega)
          simp [h1, h2]; omega
  · rw [Int.natAbs_mul, Nat.pow_add]
    generalize 2 ^ k = p; generalize 2 ^ l = q
    simp only [Nat.mul_assoc, Nat.mul_left_comm]

theorem compare_mul (a b : Int) (M : Nat) : compare (a * ((2 ^ M : Nat) : Int)) (b * ((2 ^ M : Nat) : Int)) = compare a b := by
  have hp : 0 < 2 ^ M := Nat.pow_pos (by omega)
  generalize 2 ^ M = p at *
  have hp' : (0 : Int) < p := by omega
  simp only [compare, compareOfLessAndEq]
  have h1 : a * (p : Int) < b * (p : Int) ↔ a < b := ⟨fun h => Int.lt_of_mul_lt_mul_right h (Int.le_of_lt hp'), fun h => Int.mul_lt_mul_of_pos_right h hp'⟩
  have h2 : a * (p : Int) = b * (p : Int) ↔ a = b := ⟨fun h => Int.eq_of_mul_eq_mul_right (by omega) h, fun h => by rw [h]⟩
  simp only [h1, h2]

theorem order_data (z y : Bool) (a b : Int) (k l : Nat) :
    Datum.order (.number (sg z a) (a.natAbs * 2 ^ k) (-(k : Int))) (.number (sg y b) (b.natAbs * 2 ^ l) (-(l : Int))) = some (compare a b) := by
  have e0 : min (-(k : Int)) (-(l : Int)) = -((max k l : Nat) : Int) := by omega
  simp only [Datum.order, e0]
  have e1 : (-(k : Int) - -((max k l : Nat) : Int)).toNat = max k l - k := by omega
  have e2 : (-(l : Int) - -((max k l : Nat) : Int)).toNat = max k l - l := by omega
  simp only [e1, e2, signed_sg]
  rw [show k + (max k l - k) = max k l by omega, show l + (max k l - l) = max k l by omega, compare_mul]

theorem opposite_data (z : Bool) (a : Int) (k : Nat) : Datum.opposite (.number (sg z a) (a.natAbs * 2 ^ k) (-(k : Int))) = .number (sg (!z) (-a)) ((-a).natAbs * 2 ^ k) (-(k : Int)) := by
  simp only [Datum.opposite, Int.natAbs_neg, Datum.number.injEq, and_true]
  unfold sg
  by_cases ha : a = 0
  · subst ha; simp
  · simp only [ha, if_false, show -a ≠ 0 by omega]
    by_cases h1 : a < 0
    · simp [h1]; omega
    · simp [h1]; omega

theorem integral_data (way : Toward) (z : Bool) (a : Int) (k : Nat) : Datum.integral way (.number (sg z a) (a.natAbs * 2 ^ k) (-(k : Int))) = .number (sg z a) (a.natAbs * 2 ^ 0) (-((0 : Nat) : Int)) := by
  simp only [Datum.integral]
  rw [show (-(k : Int)).toNat = 0 by omega, show (- -(k : Int)).toNat = k by omega, Nat.shiftLeft_zero, cut_exact]
  simp

theorem fmt64 : FloatKind.f64.format = double := rfl
theorem floatOfInt_fl (n : Int) : floatOfInt .f64 n = fl false n := by
  unfold floatOfInt FloatKind.nearest FloatKind.encode fl sg
  rw [fmt64]
  unfold Format.write
  by_cases h : n = 0
  · subst h; rfl
  · simp [h]

theorem add_fl (z y : Bool) {a b : Int} (ha : Sm a) (hb : Sm b) (hc : Sm (a + b)) : floatBits .add .f64 (fl z a) (fl y b) = some (fl (sg z a && sg y b) (a + b)) := by
  obtain ⟨k, ek⟩ := read_fl z ha
  obtain ⟨l, el⟩ := read_fl y hb
  simp only [floatBits, fmt64, Format.add, ek, el, sum_data, Option.map_some, write_fl _ hc]
theorem sub_fl (z y : Bool) {a b : Int} (ha : Sm a) (hb : Sm b) (hc : Sm (a - b)) : floatBits .sub .f64 (fl z a) (fl y b) = some (fl (sg z a && sg (!y) (-b)) (a - b)) := by
  obtain ⟨k, ek⟩ := read_fl z ha
  obtain ⟨l, el⟩ := read_fl y hb
  have hc' : Sm (a + -b) := by rw [← Int.sub_eq_add_neg]; exact hc
  simp only [floatBits, fmt64, Format.sub, ek, el, opposite_data, sum_data, Option.map_some, write_fl _ hc', Int.sub_eq_add_neg]
theorem mul_fl (z y : Bool) {a b : Int} (ha : Sm a) (hb : Sm b) (hc : Sm (a * b)) : floatBits .mul .f64 (fl z a) (fl y b) = some (fl (sg z a ^^ sg y b) (a * b)) := by
  obtain ⟨k, ek⟩ := read_fl z ha
  obtain ⟨l, el⟩ := read_fl y hb
  simp only [floatBits, fmt64, Format.mul, ek, el, product_data, Option.map_some, write_fl _ hc]
theorem order_fl (z y : Bool) {a b : Int} (ha : Sm a) (hb : Sm b) : FloatKind.f64.format.order (fl z a) (fl y b) = some (compare a b) := by
  obtain ⟨k, ek⟩ := read_fl z ha
  obtain ⟨l, el⟩ := read_fl y hb
  simp only [fmt64, Format.order, ek, el, order_data]
theorem trunc_fl (way : Toward) (z : Bool) {a : Int} (ha : Sm a) : FloatKind.f64.encode ((FloatKind.f64.decode (fl z a)).integral way) = fl z a := by
  obtain ⟨k, ek⟩ := read_fl z ha
  simp only [FloatKind.encode, FloatKind.decode, fmt64, ek, integral_data, write_fl _ ha]
theorem neg_read_fl (z : Bool) {a : Int} (ha : Sm a) : FloatKind.f64.encode ((FloatKind.f64.decode (fl z a)).opposite) = fl (!z) (-a) := by
  obtain ⟨k, ek⟩ := read_fl z ha
  have hm : Sm (-a) := by unfold Sm at *; omega
  simp only [FloatKind.encode, FloatKind.decode, fmt64, ek, opposite_data, write_fl _ hm]
theorem toInt_fl (z : Bool) {a : Int} (ha : Sm a) : (FloatKind.f64.decode (fl z a)).toInt .zero = some a := by
  obtain ⟨k, ek⟩ := read_fl z ha
  simp only [FloatKind.decode, fmt64, ek, Datum.toInt, integral_data]
  have := signed_sg z a 0 0
  simp at this
  simp [this]
end Go.Proofs.YtgiioflkclkioaaGreatDoor
