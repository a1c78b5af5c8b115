/- Any float: whether it is a whole number within the limit, by its datum; cut towards nought or down is all one; with the other sign, too. -/
import Derived.Test.YtgiioflkclkioaaGreatDoorAr
set_option linter.unusedSimpArgs false
set_option linter.unusedVariables false
namespace Go.Proofs.YtgiioflkclkioaaGreatDoor
open Go.RowKit Ieee

theorem cut_parts (N d : Nat) : ∃ g, 1 <<< min d (N.log2 + 2) = g ∧ N / g = N / 2 ^ d ∧ N % g = N % 2 ^ d := by
  by_cases h : d ≤ N.log2 + 2
  · exact ⟨2 ^ d, by rw [Nat.min_eq_left h, Nat.one_shiftLeft], rfl, rfl⟩
  · have h2 : N < 2 ^ (N.log2 + 1) := Nat.lt_log2_self
    have h3 : N < 2 ^ (N.log2 + 2) := Nat.lt_of_lt_of_le h2 (Nat.pow_le_pow_right (by omega) (by omega))
    have h4 : N < 2 ^ d := Nat.lt_of_lt_of_le h2 (Nat.pow_le_pow_right (by omega) (by omega))
    exact ⟨2 ^ (N.log2 + 2), by rw [Nat.min_eq_right (by omega), Nat.one_shiftLeft], by rw [Nat.div_eq_of_lt h3, Nat.div_eq_of_lt h4], by rw [Nat.mod_eq_of_lt h3, Nat.mod_eq_of_lt h4]⟩
theorem cut_zero (s : Bool) (N d : Nat) : Toward.zero.cut s N d = N / 2 ^ d := by
  obtain ⟨g, e, e1, e2⟩ := cut_parts N d
  unfold Toward.cut
  simp only [e, e1, e2]
  simp
theorem cut_down (s : Bool) (N d : Nat) : Toward.down.cut s N d = N / 2 ^ d + (s && N % 2 ^ d != 0).toNat := by
  obtain ⟨g, e, e1, e2⟩ := cut_parts N d
  unfold Toward.cut
  simp only [e, e1, e2]

/-- A number with its sign. -/
def sv (s : Bool) (n : Nat) : Int := if s then -(n : Int) else n
theorem signed_sv (s : Bool) (m u : Nat) : signed s m u = sv s (m * 2 ^ u) := by unfold signed sv; rw [Nat.shiftLeft_eq]

theorem order_gen (s t : Bool) (m q k : Nat) (e : Int) : ∃ u : Nat, Datum.order (.number s m e) (.number t (q * 2 ^ k) (-(k : Int))) = some (compare (sv s (m * 2 ^ e.toNat * 2 ^ u)) (sv t (q * 2 ^ (-e).toNat * 2 ^ u))) := by
  refine ⟨(-(min e (-(k : Int)))).toNat - (-e).toNat, ?_⟩
  simp only [Datum.order, signed_sv]
  rw [Nat.mul_assoc m, ← Nat.pow_add, Nat.mul_assoc q (2 ^ k), ← Nat.pow_add, Nat.mul_assoc q (2 ^ (-e).toNat), ← Nat.pow_add]
  rw [show (e - min e (-(k : Int))).toNat = e.toNat + ((-(min e (-(k : Int)))).toNat - (-e).toNat) by omega]
  rw [show k + (-(k : Int) - min e (-(k : Int))).toNat = (-e).toNat + ((-(min e (-(k : Int)))).toNat - (-e).toNat) by omega]

theorem mul_le_iff (a b u : Nat) : a * 2 ^ u ≤ b * 2 ^ u ↔ a ≤ b :=
  ⟨fun h => Nat.le_of_mul_le_mul_right h (Nat.pow_pos (by omega)), fun h => Nat.mul_le_mul_right _ h⟩
theorem mul_eq_iff (a b u : Nat) : a * 2 ^ u = b * 2 ^ u ↔ a = b :=
  ⟨fun h => Nat.eq_of_mul_eq_mul_right (Nat.pow_pos (by omega)) h, fun h => by rw [h]⟩

theorem lim_num {x : Nat} {s : Bool} {m : Nat} {e : Int} (hx : double.read x = .number s m e) : (geB x && leB x) = decide (m * 2 ^ e.toNat ≤ 1048576 * 2 ^ (-e).toNat) := by
  obtain ⟨k, ek⟩ := read_fl false sm_lim.1
  obtain ⟨l, el⟩ := read_fl false sm_lim.2.1
  unfold geB leB
  rw [← flNM, ← flPM, fmt64]
  simp only [Format.order, hx, ek, el]
  have n1 : (-1048576 : Int).natAbs = 1048576 := rfl
  have n2 : (1048576 : Int).natAbs = 1048576 := rfl
  rw [n1, n2, show sg false (-1048576) = true by decide, show sg false 1048576 = false by decide]
  obtain ⟨u, eu⟩ := order_gen s true m 1048576 k e
  obtain ⟨v, ev⟩ := order_gen s false m 1048576 l e
  rw [eu, ev, cmp_ge, cmp_le, Bool.eq_iff_iff, Bool.and_eq_true, decide_eq_true_eq, decide_eq_true_eq, decide_eq_true_eq]
  have hu := mul_le_iff (m * 2 ^ e.toNat) (1048576 * 2 ^ (-e).toNat) u
  have hv := mul_le_iff (m * 2 ^ e.toNat) (1048576 * 2 ^ (-e).toNat) v
  generalize m * 2 ^ e.toNat * 2 ^ u = A at *
  generalize 1048576 * 2 ^ (-e).toNat * 2 ^ u = B at *
  generalize m * 2 ^ e.toNat * 2 ^ v = C at *
  generalize 1048576 * 2 ^ (-e).toNat * 2 ^ v = D at *
  rw [← hu]
  rw [← hu] at hv
  cases s <;> simp only [sv, Bool.false_eq_true, if_false, if_true] <;> omega
theorem lim_other {x : Nat} (hx : (∃ s, double.read x = .infinity s) ∨ ∃ s t, double.read x = .nan s t) : (geB x && leB x) = false := by
  obtain ⟨k, ek⟩ := read_fl false sm_lim.1
  obtain ⟨l, el⟩ := read_fl false sm_lim.2.1
  unfold geB leB
  rw [← flNM, ← flPM, fmt64]
  rcases hx with ⟨s, hx⟩ | ⟨s, t, hx⟩
  · simp only [Format.order, hx, ek, el, Datum.order]
    cases s <;> simp
  · simp only [Format.order, hx, ek, el, Datum.order]
    simp

/-- Behind a cut: the same number just if nothing was cut off. -/
theorem cut_same {x q : Nat} {s : Bool} {m : Nat} {e : Int} (hx : double.read x = .number s m e) (hq : q < 9007199254740992) (w : Nat) (hw : w = double.write (.number s q 0)) :
    (FloatKind.f64.format.order x w == some .eq) = decide (m * 2 ^ e.toNat = q * 2 ^ (-e).toNat) := by
  have ha : ∃ a : Int, a.natAbs = q ∧ sg s a = s := by
    cases s
    · exact ⟨q, by simp, by unfold sg; split <;> simp⟩
    · by_cases h0 : q = 0
      · exact ⟨0, by simp [h0], by simp [sg]⟩
      · refine ⟨-(q : Int), by simp, ?_⟩
        unfold sg
        rw [if_neg (by omega)]
        simp; omega
  obtain ⟨a, rfl, hs⟩ := ha
  have hsm : Sm a := hq
  have e1 := write_fl s hsm 0
  rw [hs] at e1
  simp only [Nat.pow_zero, Nat.mul_one, Int.natCast_zero, Int.neg_zero] at e1
  obtain ⟨k, ek⟩ := read_fl s hsm
  rw [hs] at ek
  rw [hw, e1, fmt64, Format.order, hx, ek]
  obtain ⟨u, eu⟩ := order_gen s s m a.natAbs k e
  rw [eu, cmp_eq, Bool.eq_iff_iff, decide_eq_true_eq, decide_eq_true_eq, ← mul_eq_iff (m * 2 ^ e.toNat) (a.natAbs * 2 ^ (-e).toNat) u]
  generalize m * 2 ^ e.toNat * 2 ^ u = A at *
  generalize a.natAbs * 2 ^ (-e).toNat * 2 ^ u = B at *
  cases s <;> simp only [sv, Bool.false_eq_true, if_false, if_true] <;> omega

/-- What cutting downwards gives. -/
def floorB (x : Nat) : Nat := FloatKind.f64.encode ((FloatKind.f64.decode x).integral .down)
def dnB (x : Nat) : Bool := FloatKind.f64.format.order x (floorB x) == some .eq

theorem same_iff (N D : Nat) (s : Bool) (hD : 0 < D) : (N = (N / D + (s && N % D != 0).toNat) * D) ↔ N % D = 0 := by
  have h := Nat.div_add_mod N D
  have hl := Nat.mod_lt N hD
  rw [Nat.add_mul, Nat.mul_comm (N / D) D]
  generalize D * (N / D) = X at *
  by_cases h0 : N % D = 0
  · have hz : (s && N % D != 0).toNat = 0 := by rw [h0]; cases s <;> rfl
    rw [hz, Nat.zero_mul]
    omega
  · cases s
    · have hz : (false && N % D != 0).toNat = 0 := rfl
      rw [hz, Nat.zero_mul]; omega
    · have hz : (true && N % D != 0).toNat = 1 := by simp [h0]
      rw [hz, Nat.one_mul]; omega

theorem whole_num {x : Nat} {s : Bool} {m : Nat} {e : Int} (hx : double.read x = .number s m e) (hl : m * 2 ^ e.toNat ≤ 1048576 * 2 ^ (-e).toNat) :
    whB x = decide (m * 2 ^ e.toNat % 2 ^ (-e).toNat = 0) ∧ dnB x = decide (m * 2 ^ e.toNat % 2 ^ (-e).toNat = 0) := by
  have hD : 0 < 2 ^ (-e).toNat := Nat.pow_pos (by omega)
  have hq : m * 2 ^ e.toNat / 2 ^ (-e).toNat ≤ 1048576 := Nat.div_le_of_le_mul (by rw [Nat.mul_comm (2 ^ (-e).toNat)]; exact hl)
  have ht : ∀ b : Bool, b.toNat ≤ 1 := fun b => by cases b <;> decide
  constructor
  · unfold whB
    have e1 : truncB x = double.write (.number s (m * 2 ^ e.toNat / 2 ^ (-e).toNat) 0) := by
      unfold truncB FloatKind.encode FloatKind.decode
      rw [fmt64, hx, Datum.integral, cut_zero, Nat.shiftLeft_eq]
    rw [cut_same hx (by omega) _ e1, Bool.eq_iff_iff, decide_eq_true_eq, decide_eq_true_eq]
    have := same_iff (m * 2 ^ e.toNat) (2 ^ (-e).toNat) false hD
    simpa using this
  · unfold dnB
    have e1 : floorB x = double.write (.number s (m * 2 ^ e.toNat / 2 ^ (-e).toNat + (s && m * 2 ^ e.toNat % 2 ^ (-e).toNat != 0).toNat) 0) := by
      unfold floorB FloatKind.encode FloatKind.decode
      rw [fmt64, hx, Datum.integral, cut_down, Nat.shiftLeft_eq]
    have := ht (s && m * 2 ^ e.toNat % 2 ^ (-e).toNat != 0)
    rw [cut_same hx (by omega) _ e1, Bool.eq_iff_iff, decide_eq_true_eq, decide_eq_true_eq]
    exact same_iff (m * 2 ^ e.toNat) (2 ^ (-e).toNat) s hD

/-- By the datum, whatever its sign. -/
def pfD : Datum → Bool
  | .number _ m e => decide (m * 2 ^ e.toNat ≤ 1048576 * 2 ^ (-e).toNat) && decide (m * 2 ^ e.toNat % 2 ^ (-e).toNat = 0)
  | _ => false
theorem pf_read (x : Nat) : pf x = pfD (double.read x) := by
  unfold pf
  cases hx : double.read x with
  | number s m e =>
    rw [lim_num hx]
    unfold pfD
    by_cases h : m * 2 ^ e.toNat ≤ 1048576 * 2 ^ (-e).toNat
    · rw [(whole_num hx h).1]
    · simp [h]
  | infinity s => rw [lim_other (.inl ⟨s, hx⟩)]; rfl
  | nan s t => rw [lim_other (.inr ⟨s, t, hx⟩)]; rfl
theorem down_eq {x : Nat} (h : (geB x && leB x) = true) : dnB x = whB x := by
  cases hx : double.read x with
  | number s m e =>
    rw [lim_num hx, decide_eq_true_eq] at h
    rw [(whole_num hx h).1, (whole_num hx h).2]
  | infinity s => rw [lim_other (.inl ⟨s, hx⟩)] at h; cases h
  | nan s t => rw [lim_other (.inr ⟨s, t, hx⟩)] at h; cases h

end Go.Proofs.YtgiioflkclkioaaGreatDoor
