/- Pure: the threads that can come first, as bits. -/
import Derived.Test.YtcbpkagegdfidaaCn
import Derived.Test.YtcbpkagegdfidaaFd
set_option linter.unusedSimpArgs false
set_option linter.unusedVariables false
namespace Go.Proofs.Ytcbpkagegdfidaa
open Go.RowKit

theorem or_u64 (a b : Nat) (ha : a < 18446744073709551616) (hb : b < 18446744073709551616) : IntKind.u64.wrap ((BitVec.ofInt 64 (a : Int) ||| BitVec.ofInt 64 (b : Int)).toNat : Int) = ((a ||| b : Nat) : Int) := by
  have h1 : BitVec.ofInt 64 (a : Int) = BitVec.ofNat 64 a := BitVec.ofInt_natCast 64 a
  have h2 : BitVec.ofInt 64 (b : Int) = BitVec.ofNat 64 b := BitVec.ofInt_natCast 64 b
  have h3 : a ||| b < 2 ^ 64 := Nat.or_lt_two_pow (by omega) (by omega)
  rw [h1, h2, BitVec.toNat_or, BitVec.toNat_ofNat, BitVec.toNat_ofNat, Nat.mod_eq_of_lt (by omega), Nat.mod_eq_of_lt (by omega), IntKind.wrap_u64]
  omega
theorem or_bits (a b : Nat) (ha : a < 32) (hb : b < 32) : bits .or .u64 (a : Int) (b : Int) = ((a ||| b : Nat) : Int) := or_u64 a b (by omega) (by omega)
theorem bits_snoc (l : List Int) (t : Int) : bitsI (l ++ [t]) = bitsI l ||| (1 <<< t.toNat) := by
  apply Nat.eq_of_testBit_eq
  intro k
  rw [bits_mem, Nat.testBit_or, bits_mem, List.any_append, Nat.one_shiftLeft, Nat.testBit_two_pow]
  simp
theorem frs_first (x : Evl) : (frs (dpi x) [] (List.range x.length)).map (thi x) = ((picks edep x).map (·.1)).map (·.1) := by
  rw [frs_all]
  have h := picks_map (fun i => x[i]!) (dep := edep) (List.range x.length)
  rw [range_get] at h
  rw [h]
  simp only [List.map_map]
  congr 1
theorem ini_frs (x : Evl) : ini x = bitsI ((frs (dpi x) [] (List.range x.length)).map (thi x)) := by rw [frs_first]; rfl
/-- The first events' threads. -/
def fsts (L : List Evl) : List Int := L.filterMap fun y => (y[0]?).map (·.1)
theorem fsts_snoc (L : List Evl) (y : Evl) : fsts (L ++ [y]) = fsts L ++ ((y[0]?).map (·.1)).toList := by
  unfold fsts
  rw [List.filterMap_append]
  congr 1
/-- Just those whose first event is the first of something that is the same but for swaps. -/
theorem ini_fsts {x : Evl} {L : List Evl} (h : ∀ y, y ∈ L ↔ Tr edep x y) : bitsI (fsts L) = ini x := by
  unfold ini
  refine bits_ext fun t => ?_
  unfold fsts
  simp only [List.mem_filterMap, List.mem_map]
  constructor
  · rintro ⟨y, hy, ht⟩
    match y, hy, ht with
    | [], _, ht => simp at ht
    | a :: m, hy, ht =>
      simp at ht
      obtain ⟨r, hr, _⟩ := Tr.head edep_refl edep_symm (((h _).1 hy).symm edep_symm)
      exact ⟨a, ⟨(a, r), hr, rfl⟩, ht⟩
  · rintro ⟨a, ⟨⟨b, r⟩, hp, rfl⟩, ht⟩
    exact ⟨b :: r, (h _).2 (picks_tr hp), by simpa using ht⟩
theorem bits_lt : ∀ (l : List Int), (∀ t ∈ l, 0 ≤ t ∧ t < 5) → bitsI l < 32
  | [], _ => by simp [bitsI]
  | t :: l, h => by
    have h1 := bits_lt l fun s hs => h s (by simp [hs])
    obtain ⟨h2, h3⟩ := h t (by simp)
    rw [bitsI]
    refine Nat.or_lt_two_pow (n := 5) ?_ h1
    rw [Nat.one_shiftLeft]
    exact Nat.pow_lt_pow_right (by omega) (by omega)
end Go.Proofs.Ytcbpkagegdfidaa
