/- wire.Sum: what it reckons, and its walk. -/
import Derived.Test.YtpjmefbbfgpaiaaDoorEq
import Derived.Laws.BitsAllLaws
namespace Go.Proofs.YtpjmefbbfgpaiaaDoor
open Go.RowKit

/-- The table of the sum, four bits at once. -/
def tab : List Nat := [0, 498536548, 997073096, 651767980, 1994146192, 1802195444, 1303535960, 1342533948, 3988292384, 4027552580, 3604390888, 3412177804, 2607071920, 2262029012, 2685067896, 3183342108]
theorem tab_lt : ∀ i, i < 16 → tab.getD i 0 < 4294967296 := by decide
def half (s : Nat) : Nat := tab.getD (s % 16) 0 ^^^ (s / 16)
def byteIn (s c : Nat) : Nat := half (half (s ^^^ c))
def crc (s : Nat) (l : List Nat) : Nat := l.foldl byteIn s
/-- A number of 32 bits (behind a name). -/
def Fits32 (n : Nat) : Prop := n < 4294967296
theorem fits_half {s : Nat} (h : Fits32 s) : Fits32 (half s) := by
  unfold Fits32 half at *
  exact Nat.xor_lt_two_pow (n := 32) (tab_lt _ (by omega)) (by omega)
theorem fits_xor {s c : Nat} (h : Fits32 s) (k : Fits32 c) : Fits32 (s ^^^ c) := by
  unfold Fits32 at *
  exact Nat.xor_lt_two_pow (n := 32) h k
theorem fits_byteIn {s c : Nat} (h : Fits32 s) (k : c < 256) : Fits32 (byteIn s c) := fits_half (fits_half (fits_xor h (by unfold Fits32; omega)))
theorem xor32 {a b : Nat} (ha : Fits32 a) (hb : Fits32 b) : bits .xor .u32 (a : Int) (b : Int) = ((a ^^^ b : Nat) : Int) := u32_xor_nat a b ha hb
theorem and15 {a : Nat} (ha : Fits32 a) : bits .and .u32 (a : Int) 15 = ((a % 16 : Nat) : Int) := by
  rw [show (15 : Int) = ((15 : Nat) : Int) from rfl, u32_and_nat a 15 ha (by omega), nat_mask4]
/-- The program's table lies where it is laid. -/
def Tab (w : World) : Prop := 0 < w.heap.size ∧ ∀ i, i < 16 → w.cell? ⟨0, i, none⟩ = some (.int .u32 ((tab.getD i 0 : Nat) : Int))
theorem Tab.kept {S : Nat → Prop} {w w' : World} (h : Tab w) (k : Kept S w w') (hn : ¬ S 0) : Tab w' := ⟨Nat.lt_of_lt_of_le h.1 k.size, fun i hi => (k.cell (p := ⟨0, i, none⟩) h.1 hn).trans (h.2 i hi)⟩

/-- One half step, as the walk meets it: the index, the cell, the new number. -/
theorem half_step {y : Nat} (h : Fits32 y) {w : World} (ht : Tab w) : ∃ i t z : Nat, i < 16 ∧ bits .and .u32 (y : Int) 15 = (i : Int) ∧ w.cell? ⟨0, i, none⟩ = some (.int .u32 (t : Int)) ∧ bits .xor .u32 (t : Int) ((y : Int) / 16) = (z : Int) ∧ Fits32 z ∧ half y = z := by
  refine ⟨y % 16, tab.getD (y % 16) 0, half y, by omega, and15 h, ht.2 _ (by omega), ?_, fits_half h, rfl⟩
  rw [show ((y : Int) / 16) = ((y / 16 : Nat) : Int) by omega, xor32 (tab_lt _ (by omega)) (by unfold Fits32 at *; omega)]
  rfl
theorem crc_snoc (s : Nat) (l : List Nat) (c : Nat) : crc s (l ++ [c]) = byteIn (crc s l) c := by simp [crc]
theorem take_more (l : List Nat) (j : Nat) (h : j < l.length) : l.take (j + 1) = l.take j ++ [l.getD j 0] := by
  rw [List.take_succ_eq_append_getElem h]
  simp [List.getD, List.getElem?_eq_getElem h]
theorem fits_crc {s : Nat} (h : Fits32 s) {l : List Nat} (hl : ∀ b ∈ l, b < 256) : Fits32 (crc s l) := by
  unfold crc
  induction l generalizing s with
  | nil => exact h
  | cons b l ih => exact ih (fits_byteIn h (hl b (by simp))) fun x hx => hl x (by simp [hx])

theorem rint {k : IntKind} {a b : Int} (h : a = b) : Ending.returned (.int k a) = .returned (.int k b) := by rw [h]
/-- The sum of bytes: all bits turned at last. -/
def sumOf (l : List Nat) : Nat := 4294967295 ^^^ crc 4294967295 l
theorem not32 {x : Nat} (h : Fits32 x) : bits .xor .u32 IntKind.u32.max (x : Int) = ((4294967295 ^^^ x : Nat) : Int) := by
  rw [show IntKind.u32.max = ((4294967295 : Nat) : Int) by decide, xor32 (by unfold Fits32; omega) h]

set_option maxRecDepth 100000 in
set_option maxHeartbeats 1600000 in
theorem sum_any (A : Option Addr) (c : Nat) (l : List Nat) (w : World) (hr : Rd w A l) (ht : Tab w) (hl : l.length ≤ 1000000) (hby : ∀ b ∈ l, b < 256) :
    Calls Tryd.prog 23 #[.slice A l.length c] w fun e w' => e = .returned (.int .u32 (sumOf l : Nat)) ∧ w = w' := by
  have Hb := Lib.hid hby
  clear hby
  have Ht := Lib.hid ht
  clear ht
  go_enter Tryd.func23, Tryd.ntmps23
  go_wp2
  go_loop [3, 8] (fun s i => ∃ j x : Nat, j ≤ l.length ∧ i = .int .i64 (j : Int) ∧ s = .int .u32 (x : Int) ∧ Hid (x = crc 4294967295 (l.take j)) ∧ Fits32 x) (fun _ i => l.length - (intOf i).toNat)
  case atStart => exact ⟨0, 4294967295, Nat.zero_le _, rfl, rfl, by simp [Hid, crc], by unfold Fits32; omega⟩
  case round =>
    obtain ⟨j, x, hj, rfl, rfl, hx, hfx⟩ := hrel
    by_cases hlt : j < l.length
    · obtain ⟨ad, rfl, hb, hc⟩ := hr.at_ hlt
      have hcb : l.getD j 0 < 256 := Hb.out _ (by simp [List.getD, List.getElem?_eq_getElem hlt])
      generalize hc0 : l.getD j 0 = c0 at *
      have Hc0 := Lib.hid hc0
      clear hc0
      have hx1 := xor32 hfx (show Fits32 c0 by unfold Fits32; omega)
      have f1 := fits_xor hfx (show Fits32 c0 by unfold Fits32; omega)
      generalize hy1 : x ^^^ c0 = y1 at *
      obtain ⟨i1, t1, y2, hi1, a1, k1, e1, f2, hh1⟩ := half_step f1 Ht.out
      obtain ⟨i2, t2, y3, hi2, a2, k2, e2, f3, hh2⟩ := half_step f2 Ht.out
      have HY : Hid (byteIn x c0 = y3) := by unfold Hid byteIn; rw [hy1, hh1, hh2]
      clear hy1 hh1 hh2 f1 f2
      go_wp2
      go_round
      case rel => exact ⟨j + 1, y3, by omega, by go_num, rfl, by rw [Hid, take_more l j hlt, crc_snoc, ← hx.out, Hc0.out, HY.out], f3⟩
      case measure => simp [intOf]; omega
    · have hn := not32 hfx
      have HN : Hid (sumOf l = 4294967295 ^^^ x) := by
        obtain rfl : j = l.length := by omega
        rw [Hid, sumOf, hx.out, List.take_length]
      generalize 4294967295 ^^^ x = z at *
      go_wp2
      go_ret
      exact ⟨rint (by rw [HN.out]), rfl⟩
end Go.Proofs.YtpjmefbbfgpaiaaDoor
