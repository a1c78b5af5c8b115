/- Pure: what happens ahead of one, as clock tells it: from the last of the earlier ones down. -/
import Derived.Test.YtcbpkagegdfidaaAh
set_option linter.unusedSimpArgs false
set_option linter.unusedVariables false
namespace Go.Proofs.Ytcbpkagegdfidaa
open Classical

section
variable {α : Type} (dep : α → α → Bool) (x : List α)
/-- Is the one at k told to happen ahead of that at J, by those from m on? -/
noncomputable def gah (J m k : Nat) : Bool := decide (∃ p a b, m ≤ p ∧ p < J ∧ x[p]? = some a ∧ x[J]? = some b ∧ dep a b = true ∧ (k = p ∨ Hb dep x k p))
end
section
variable {α : Type} {dep : α → α → Bool} {x : List α}
theorem gah_iff {J m k : Nat} : gah dep x J m k = true ↔ ∃ p a b, m ≤ p ∧ p < J ∧ x[p]? = some a ∧ x[J]? = some b ∧ dep a b = true ∧ (k = p ∨ Hb dep x k p) := by simp [gah]
theorem gah_start (J k : Nat) : gah dep x J J k = false := by
  unfold gah
  refine decide_eq_false ?_
  rintro ⟨p, _, _, h1, h2, _⟩
  omega
theorem gah_skip {J m : Nat} {a b : α} (ha : x[m]? = some a) (hb : x[J]? = some b) (hd : dep a b = false) (k : Nat) : gah dep x J m k = gah dep x J (m + 1) k := by
  rw [Bool.eq_iff_iff, gah_iff, gah_iff]
  constructor
  · rintro ⟨p, a', b', h1, h2, h3, h4, h5, h6⟩
    refine ⟨p, a', b', ?_, h2, h3, h4, h5, h6⟩
    rcases Nat.lt_or_ge m p with h | h
    · exact h
    · obtain rfl : p = m := by omega
      rw [ha] at h3; rw [hb] at h4
      obtain rfl := Option.some.inj h3
      obtain rfl := Option.some.inj h4
      rw [hd] at h5; cases h5
  · rintro ⟨p, a', b', h1, h⟩
    exact ⟨p, a', b', by omega, h⟩
theorem gah_has {J m : Nat} (h : gah dep x J (m + 1) m = true) (k : Nat) : gah dep x J m k = gah dep x J (m + 1) k := by
  rw [Bool.eq_iff_iff, gah_iff, gah_iff]
  constructor
  · rintro ⟨p, a', b', h1, h2, h3, h4, h5, h6⟩
    rcases Nat.lt_or_ge m p with hm | hm
    · exact ⟨p, a', b', hm, h2, h3, h4, h5, h6⟩
    · obtain rfl : p = m := by omega
      obtain ⟨q, c, d, g1, g2, g3, g4, g5, g6⟩ := gah_iff.1 h
      refine ⟨q, c, d, g1, g2, g3, g4, g5, .inr ?_⟩
      rcases g6 with g6 | g6
      · omega
      · rcases h6 with rfl | h6
        · exact g6
        · exact h6.trans g6
  · rintro ⟨p, a', b', h1, h⟩
    exact ⟨p, a', b', by omega, h⟩
theorem gah_add {J m : Nat} {a b : α} (hmJ : m < J) (ha : x[m]? = some a) (hb : x[J]? = some b) (hd : dep a b = true) (k : Nat) : gah dep x J m k = (gah dep x J (m + 1) k || decide (m = k) || hbd dep x k m) := by
  rw [Bool.eq_iff_iff, Bool.or_eq_true, Bool.or_eq_true, gah_iff, gah_iff, decide_eq_true_eq, hbd_iff]
  constructor
  · rintro ⟨p, a', b', h1, h2, h3, h4, h5, h6⟩
    rcases Nat.lt_or_ge m p with h | h
    · exact .inl (.inl ⟨p, a', b', h, h2, h3, h4, h5, h6⟩)
    · obtain rfl : p = m := by omega
      rcases h6 with rfl | h6
      · exact .inl (.inr rfl)
      · exact .inr h6
  · rintro ((⟨p, a', b', h1, h⟩ | rfl) | h)
    · exact ⟨p, a', b', by omega, h⟩
    · exact ⟨m, a, b, Nat.le_refl _, hmJ, ha, hb, hd, .inl rfl⟩
    · exact ⟨m, a, b, Nat.le_refl _, hmJ, ha, hb, hd, .inr h⟩
theorem gah_end (J k : Nat) : gah dep x J 0 k = hbd dep x k J := by
  rw [Bool.eq_iff_iff, gah_iff, hbd_iff, hb_iff]
  constructor
  · rintro ⟨p, a, b, h1, h2, h3, h4, h5, h6⟩
    refine ⟨b, h4, ?_⟩
    rcases h6 with rfl | h6
    · exact .inl ⟨h2, a, h3, h5⟩
    · exact .inr ⟨p, a, h2, h3, h5, h6⟩
  · rintro ⟨b, hb, ⟨hkJ, a, ha, hd⟩ | ⟨p, a, hpJ, ha, hd, h⟩⟩
    · exact ⟨k, a, b, Nat.zero_le _, hkJ, ha, hb, hd, .inl rfl⟩
    · exact ⟨p, a, b, Nat.zero_le _, hpJ, ha, hb, hd, .inr h⟩
theorem gah_lt {J m k : Nat} (h : gah dep x J m k = true) : k < J := by
  obtain ⟨p, _, _, _, h2, _, _, _, h6⟩ := gah_iff.1 h
  rcases h6 with rfl | h6
  · exact h2
  · exact Nat.lt_trans h6.lt h2
theorem hbd_zero (k : Nat) : hbd dep x k 0 = false := by
  rw [← Bool.not_eq_true, hbd_iff]
  intro h
  have := h.lt
  omega
end
end Go.Proofs.Ytcbpkagegdfidaa
