/- Places as bits of one word: has, add. -/
import Derived.Lib.Hide
import Derived.WalkLawsBesides
import Derived.Laws.StructEq
import Derived.Laws.OwnMore
import Derived.Shelf.SlSortCmp.QuietGrown
import Derived.Sort.LotA
import Derived.Deep.RegionHeld3
import Derived.Deep.DeepCutAuto
import Derived.Deep.CutBlock
import Derived.BigRegion
import Derived.Test.YtcbpkagegdfidaaChecked
set_option linter.unusedSimpArgs false
set_option linter.unusedVariables false
namespace Go.Proofs.Ytcbpkagegdfidaa
open Go.RowKit

theorem wr_u64 (n : Int) : IntKind.u64.wrap n = n % 18446744073709551616 := by simp [IntKind.wrap, IntKind.bits, IntKind.signed]
theorem or_wd (a b : Nat) (ha : a < 18446744073709551616) (hb : b < 18446744073709551616) : IntKind.u64.wrap ((BitVec.ofInt 64 (a : Int) ||| BitVec.ofInt 64 (b : Int)).toNat : Int) = ((a ||| b : Nat) : Int) := by
  have h1 : BitVec.ofInt 64 (a : Int) = BitVec.ofNat 64 a := BitVec.ofInt_natCast 64 a
  have h2 : BitVec.ofInt 64 (b : Int) = BitVec.ofNat 64 b := BitVec.ofInt_natCast 64 b
  have h3 : a ||| b < 2 ^ 64 := Nat.or_lt_two_pow (by omega) (by omega)
  rw [h1, h2, BitVec.toNat_or, BitVec.toNat_ofNat, BitVec.toNat_ofNat, Nat.mod_eq_of_lt (by omega), Nat.mod_eq_of_lt (by omega), wr_u64]
  omega

theorem or_bit (a b : Nat) (ha : a < 18446744073709551616) (hb : b < 18446744073709551616) : bits .or .u64 (a : Int) (b : Int) = ((a ||| b : Nat) : Int) := or_wd a b ha hb
theorem and_bit (m : Nat) (hm : m < 18446744073709551616) : bits .and .u64 (m : Int) 1 = ((m % 2 : Nat) : Int) := by
  show IntKind.u64.wrap ((BitVec.ofInt 64 (m : Int) &&& BitVec.ofInt 64 ((1 : Nat) : Int)).toNat : Int) = ((m % 2 : Nat) : Int)
  have h1 : BitVec.ofInt 64 (m : Int) = BitVec.ofNat 64 m := BitVec.ofInt_natCast 64 m
  have h2 : BitVec.ofInt 64 ((1 : Nat) : Int) = BitVec.ofNat 64 1 := BitVec.ofInt_natCast 64 1
  rw [h1, h2, BitVec.toNat_and, BitVec.toNat_ofNat, BitVec.toNat_ofNat, Nat.mod_eq_of_lt (by omega), Nat.mod_eq_of_lt (by omega), Nat.and_one_is_mod, wr_u64]
  omega
theorem shr_bit (n i : Nat) : (n : Int) / 2 ^ i = ((n / 2 ^ i : Nat) : Int) := by simp
theorem has_bit (n i : Nat) (hn : n < 18446744073709551616) : (bits .and .u64 ((n : Int) / 2 ^ i) 1 == 1) = n.testBit i := by
  rw [shr_bit, and_bit _ (Nat.lt_of_le_of_lt (Nat.div_le_self _ _) hn), Nat.testBit_eq_decide_div_mod_eq]
  by_cases h : n / 2 ^ i % 2 = 1
  · rw [h]; rfl
  · rw [decide_eq_false h, show n / 2 ^ i % 2 = 0 by omega]; rfl
theorem shl_bit (i : Nat) (hi : i < 64) : IntKind.u64.wrap (2 ^ i) = ((1 <<< i : Nat) : Int) := by
  rw [wr_u64, Nat.one_shiftLeft, Int.natCast_pow]
  have h : (2 : Nat) ^ i < 2 ^ 64 := Nat.pow_lt_pow_right (by omega) hi
  have h2 : ((2 : Int) ^ i) < 18446744073709551616 := by
    have := Int.ofNat_lt.2 h
    rw [Int.natCast_pow, Int.natCast_pow] at this
    exact this
  have h3 : (0 : Int) ≤ (2 : Int) ^ i := by
    have := Int.natCast_nonneg (2 ^ i)
    rw [Int.natCast_pow] at this
    exact this
  exact Int.emod_eq_of_lt h3 h2

set_option maxHeartbeats 2000000 in
theorem has_any (n i : Nat) (b o c : Nat) (w : World) (hi : i < 64) (hn : n < 18446744073709551616) (h0 : w.cell? ⟨b, o, Option.none⟩ = some (.int .u64 (n : Int))) :
    Calls Try.prog 40 #[.slice (some ⟨b, o, Option.none⟩) 1 c, .int .i64 (i : Int)] w fun e w' => e = .returned (.bool (n.testBit i)) ∧ w = w' := by
  have hq : (i : Int).tdiv 64 = 0 := by rw [Int.tdiv_eq_ediv_of_nonneg (by omega)]; omega
  have hr : (i : Int).tmod 64 = (i : Int) := by rw [Int.tmod_eq_emod_of_nonneg (by omega)]; omega
  have hi0 : (0 : Int) ≤ (i : Int) := by omega
  have hi1 : (i : Int) < 64 := by omega
  go_enter Try.func40, Try.ntmps40
  go_wp2
  go_ret
  exact ⟨by rw [has_bit n i hn]; rfl, rfl⟩

set_option maxHeartbeats 2000000 in
theorem add_any (n i : Nat) (b o c : Nat) (w : World) (hi : i < 64) (hn : n < 18446744073709551616) (h0 : w.cell? ⟨b, o, Option.none⟩ = some (.int .u64 (n : Int))) (hf : w.frozen? ⟨b, o, Option.none⟩ = false) :
    Calls Try.prog 52 #[.slice (some ⟨b, o, Option.none⟩) 1 c, .int .i64 (i : Int)] w fun e w' => e = .returned (.tuple #[]) ∧ w' = (w.setCell ⟨b, o, Option.none⟩ (.int .u64 ((n ||| 1 <<< i : Nat) : Int))).drew := by
  have hq : (i : Int).tdiv 64 = 0 := by rw [Int.tdiv_eq_ediv_of_nonneg (by omega)]; omega
  have hr : (i : Int).tmod 64 = (i : Int) := by rw [Int.tmod_eq_emod_of_nonneg (by omega)]; omega
  have hi0 : (0 : Int) ≤ (i : Int) := by omega
  have hi1 : (i : Int) < 64 := by omega
  have h2 : (1 : Nat) <<< i < 18446744073709551616 := by
    rw [Nat.one_shiftLeft]
    exact Nat.lt_of_lt_of_le (Nat.pow_lt_pow_right (by omega) hi) (by decide)
  have HS : Hid (bits BinOp.or IntKind.u64 (n : Int) (IntKind.u64.wrap (2 ^ i)) = ((n ||| 1 <<< i : Nat) : Int)) := Lib.hid (by rw [shl_bit i hi]; exact or_bit _ _ hn h2)
  clear h2
  go_enter Try.func52, Try.ntmps52
  go_wp2_with fail
  go_region
  rw [HS.out]
  exact bodyPost_end (results_none rfl _ _ _) rfl ⟨rfl, rfl⟩
/-- The words of a list: none, or one. -/
def rwl (j : Nat) : Nat := if j = 0 then 0 else 1
theorem rwl_zero : rwl 0 = 0 := rfl
theorem rwl_pos {j : Nat} (h : 0 < j) : rwl j = 1 := if_neg (by omega)

set_option maxHeartbeats 2000000 in
theorem join_any (n m j : Nat) (b o c B O : Nat) (w : World) (hn : n < 18446744073709551616) (hm : m < 18446744073709551616) (h0 : w.cell? ⟨b, o, Option.none⟩ = some (.int .u64 (n : Int))) (hf : w.frozen? ⟨b, o, Option.none⟩ = false)
    (h1 : j ≠ 0 → w.cell? ⟨B, O, Option.none⟩ = some (.int .u64 (m : Int))) (h2 : j = 0 → m = 0) (C : Nat) :
    Calls Try.prog 53 #[.slice (some ⟨b, o, Option.none⟩) 1 c, .slice (some ⟨B, O, Option.none⟩) (rwl j) C] w fun e w' => e = .returned (.tuple #[]) ∧ (w' = w ∧ n ||| m = n ∨ w' = w.setCell ⟨b, o, Option.none⟩ (.int .u64 ((n ||| m : Nat) : Int))) := by
  by_cases hj : j = 0
  · subst hj
    obtain rfl := h2 rfl
    rw [rwl_zero]
    clear h1 h2
    go_enter Try.func53, Try.ntmps53
    go_wp2
    go_loopw [8] (fun s wr => s = .int .i64 0 ∧ wr = w) (fun s _ => 0)
    case atStart => exact ⟨rfl, rfl⟩
    case round =>
      obtain ⟨rfl, rfl⟩ := hrel
      go_wp2
      exact bodyPost_end (results_none rfl _ _ _) rfl ⟨rfl, .inl ⟨rfl, by simp⟩⟩
  · rw [rwl_pos (by omega)]
    have h1' := h1 hj
    clear h1 h2
    have HS : Hid (bits BinOp.or IntKind.u64 (n : Int) (m : Int) = ((n ||| m : Nat) : Int)) := Lib.hid (or_bit _ _ hn hm)
    go_enter Try.func53, Try.ntmps53
    go_wp2
    go_loopw [8] (fun s wr => (s = .int .i64 0 ∧ wr = w) ∨ (s = .int .i64 1 ∧ wr = w.setCell ⟨b, o, Option.none⟩ (.int .u64 ((n ||| m : Nat) : Int)))) (fun s _ => 1 - (intOf s).toNat)
    case atStart => exact .inl ⟨rfl, rfl⟩
    case round =>
      rcases hrel with ⟨rfl, rfl⟩ | ⟨rfl, rfl⟩
      · go_wp2
        go_roundw
        case rel => exact .inr ⟨by go_num, by rw [HS.out]⟩
        case measure => simp [intOf]
      · clear h0 h1' hf
        go_wp2
        exact bodyPost_end (results_none rfl _ _ _) rfl ⟨rfl, .inr rfl⟩
end Go.Proofs.Ytcbpkagegdfidaa
