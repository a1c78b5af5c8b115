/- Numerals read back; signs in a text: the plain mathematics of Parse. No program is named here. -/
import Derived.Lib.AtoiAll
import Derived.Lib.ItoaNum
import Derived.Lib.Strings
import Derived.Lib.SpaceU
set_option linter.unusedSimpArgs false
set_option linter.unusedVariables false
namespace Go.Proofs.YtgiioflkclkioaaGreatDoor
open Go.Lib

theorem parse_snoc (c : UInt8) (hc : 48 ≤ c.toNat ∧ c.toNat ≤ 57) : ∀ (l : List UInt8) (acc v : Nat), parseUint10 acc l = .ok v → v < 1844674407370955161 → parseUint10 acc (l ++ [c]) = .ok (v * 10 + (c.toNat - 48))
  | [], acc, v, h, hv => by
    simp only [parseUint10] at h
    injection h with h
    subst h
    simp only [List.nil_append, parseUint10, hc, and_self, if_true]
    rw [if_neg (by omega), if_neg (by omega)]
  | a :: l, acc, v, h, hv => by
    simp only [List.cons_append, parseUint10] at h ⊢
    split at h
    · rename_i h1
      rw [if_pos h1]
      split at h
      · cases h
      · rename_i h2
        rw [if_neg h2]
        split at h
        · cases h
        · rename_i h3
          rw [if_neg h3]
          exact parse_snoc c hc l _ v h hv
    · cases h

theorem dig_nat (u : Nat) (h : u < 10) : (UInt8.ofNat (48 + u)).toNat = 48 + u := by
  rw [UInt8.toNat_ofNat']; omega

/-- Digits, read back. -/
theorem parse_dec (u : Nat) (h : u < 1000000000000000000) : parseUint10 0 (decDigits u) = .ok u := by
  induction u using Nat.strongRecOn with
  | _ u ih =>
    by_cases h1 : u < 10
    · rw [decDigits, dif_pos h1]
      simp only [parseUint10, dig_nat u h1]
      rw [if_pos (by omega), if_neg (by omega), if_neg (by omega)]
      congr 1
      omega
    · rw [decDigits, dif_neg h1]
      have hd := dig_nat (u % 10) (by omega)
      rw [parse_snoc _ (by rw [hd]; omega) _ _ _ (ih (u / 10) (by omega) (by omega)) (by omega), hd]
      congr 1
      omega
def isDg (b : UInt8) : Prop := 48 ≤ b.toNat ∧ b.toNat ≤ 57
theorem dec_digits (u : Nat) : ∀ b ∈ decDigits u, isDg b := by
  induction u using Nat.strongRecOn with
  | _ u ih =>
    intro b hb
    by_cases h1 : u < 10
    · rw [decDigits, dif_pos h1] at hb
      simp only [List.mem_cons, List.not_mem_nil, or_false] at hb
      subst hb
      unfold isDg
      rw [dig_nat u h1]; omega
    · rw [decDigits, dif_neg h1] at hb
      rcases List.mem_append.1 hb with hb | hb
      · exact ih (u / 10) (by omega) b hb
      · simp only [List.mem_cons, List.not_mem_nil, or_false] at hb
        subst hb
        unfold isDg
        rw [dig_nat (u % 10) (by omega)]; omega
theorem dec_ne (u : Nat) : decDigits u ≠ [] := by
  rw [decDigits]
  split <;> simp

theorem mag_dec {u : Nat} (h : u < 1000000000000000000) : parseMag (decDigits u) = .ok u := by
  unfold parseMag
  rw [if_neg (dec_ne u), parse_dec u h]
theorem atoi_dec {u : Nat} (h : u < 1000000000000000000) : atoiAll (decDigits u) = .ok (u : Int) := by
  have hm := mag_dec h
  have hd := dec_digits u
  cases hl : decDigits u with
  | nil => exact absurd hl (dec_ne u)
  | cons c r =>
    rw [hl] at hm hd
    have hc : isDg c := hd c (by simp)
    unfold isDg at hc
    unfold atoiAll
    simp only
    rw [if_neg (by omega), hm]
    simp only
    rw [if_neg (by omega), if_neg (by omega), if_neg (by omega)]
theorem atoi_neg {u : Nat} (h : u < 1000000000000000000) : atoiAll (45 :: decDigits u) = .ok (-(u : Int)) := by
  have hm := mag_dec h
  have e : (45 : UInt8).toNat = 45 := rfl
  unfold atoiAll
  simp only [e]
  rw [if_pos (by simp), hm]
  simp only
  rw [if_neg (by simp), if_neg (by omega), if_pos trivial]
theorem atoi_plus {u : Nat} (h : u < 1000000000000000000) : atoiAll (43 :: decDigits u) = .ok (u : Int) := by
  have hm := mag_dec h
  have e : (43 : UInt8).toNat = 43 := rfl
  unfold atoiAll
  simp only [e]
  rw [if_pos (by simp), hm]
  simp only
  rw [if_neg (by omega), if_neg (by simp), if_neg (by simp)]

/-- A sign. -/
def isSg (b : UInt8) : Bool := b == 43 || b == 45
def NoSg (l : List UInt8) : Prop := ∀ b ∈ l, isSg b = false
def Asc (l : List UInt8) : Prop := ∀ b ∈ l, b.toNat < 128
theorem dg_nosg {b : UInt8} (h : isDg b) : isSg b = false := by
  unfold isDg at h
  unfold isSg
  rw [Bool.or_eq_false_iff, beq_eq_false_iff_ne, beq_eq_false_iff_ne]
  constructor
  · rintro rfl; revert h; decide
  · rintro rfl; revert h; decide
theorem dec_nosg (u : Nat) : NoSg (decDigits u) := fun b hb => dg_nosg (dec_digits u b hb)
theorem dec_asc (u : Nat) : Asc (decDigits u) := fun b hb => by have := dec_digits u b hb; unfold isDg at this; omega

/-- What looking for the last sign tells. -/
def SgPost (l : List UInt8) (k : Int) : Prop :=
  -1 ≤ k ∧ (0 ≤ k → k < l.length) ∧ (Asc l → (k = -1 ∧ NoSg l) ∨ ∃ j : Nat, k = (j : Int) ∧ (∃ b, l[j]? = some b ∧ isSg b = true) ∧ NoSg (l.drop (j + 1)))
theorem sg_none {l : List UInt8} {k : Int} (h : SgPost l k) (ha : Asc l) (hn : NoSg l) : k = -1 := by
  rcases h.2.2 ha with h | ⟨j, _, ⟨b, hb, hs⟩, _⟩
  · exact h.1
  · have := hn b (List.mem_of_getElem? hb)
    rw [this] at hs; cases hs
theorem sg_at {A B : List UInt8} {b : UInt8} {k : Int} (h : SgPost (A ++ b :: B) k) (ha : Asc (A ++ b :: B)) (hb : isSg b = true) (hB : NoSg B) : k = A.length := by
  rcases h.2.2 ha with h | ⟨j, hj, ⟨c, hc, hs⟩, hn⟩
  · have := h.2 b (by simp)
    rw [this] at hb; cases hb
  · rcases Nat.lt_trichotomy j A.length with h1 | h1 | h1
    · have hm : b ∈ (A ++ b :: B).drop (j + 1) := by
        rw [List.drop_append_of_le_length (by omega)]
        simp
      have := hn b hm
      rw [this] at hb; cases hb
    · omega
    · have hm : c ∈ B := by
        rw [List.getElem?_append_right (by omega)] at hc
        obtain ⟨m, hm⟩ : ∃ m, j - A.length = m + 1 := ⟨j - A.length - 1, by omega⟩
        rw [hm, List.getElem?_cons_succ] at hc
        exact List.mem_of_getElem? hc
      have := hB c hm
      rw [this] at hs; cases hs

theorem suffix_yes (X : List UInt8) : hasSuffix (X ++ [105]) [105] = true ∧ trimSuffix (X ++ [105]) [105] = X := by
  have h : hasSuffix (X ++ [105]) [105] = true := by
    unfold hasSuffix; rw [List.isSuffixOf_iff_suffix]; exact List.suffix_append _ _
  refine ⟨h, ?_⟩
  unfold trimSuffix
  rw [if_pos h]
  simp
theorem suffix_no {l : List UInt8} (hl : ∀ b ∈ l, b ≠ 105) : hasSuffix l [105] = false := by
  rw [Bool.eq_false_iff]
  intro h
  unfold hasSuffix at h
  rw [List.isSuffixOf_iff_suffix] at h
  exact hl 105 (h.subset (by simp)) rfl

/-- The last rune: one byte at least, no more than there are; of ASCII the last byte. -/
theorem last_size {l : List UInt8} (h : l ≠ []) : 1 ≤ (decodeLastL l).2 ∧ (decodeLastL l).2 ≤ l.length := by
  have hp : 0 < l.length := List.length_pos_iff.2 h
  unfold decodeLastL
  rw [if_neg h]
  split
  · exact ⟨Nat.le_refl 1, hp⟩
  · simp only
    split
    · rename_i h1 h2
      have hs : lastStart l < l.length := by
        unfold lastStart
        simp only
        repeat' split
        all_goals omega
      omega
    · exact ⟨Nat.le_refl 1, hp⟩
theorem last_asc {l : List UInt8} (h : l ≠ []) (ha : Asc l) : decodeLastL l = ((l.getD (l.length - 1) 0).toNat, 1) := by
  have hp : 0 < l.length := List.length_pos_iff.2 h
  unfold decodeLastL
  rw [if_neg h, if_pos]
  have : l.getD (l.length - 1) 0 ∈ l := by
    rw [List.getD_eq_getElem?_getD, List.getElem?_eq_getElem (by omega)]
    simp
  exact ha _ this
end Go.Proofs.YtgiioflkclkioaaGreatDoor
