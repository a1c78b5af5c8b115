/- braidworkref01.Sum: the sum by division of polynomials. -/
import Derived.Test.YtpjmefbbfgpaiaaDoorCr
namespace Go.Proofs.YtpjmefbbfgpaiaaDoor
open Go.RowKit

theorem cast_bit (c m : Nat) : (c : Int) / 2 ^ m % 2 = ((c / 2 ^ m % 2 : Nat) : Int) := by push_cast; rfl
theorem rs_yes {x c m : Nat} (h : ((x : Int) / 2147483648 != (c : Int) / 2 ^ m % 2) = true) : bits .xor .u32 ((x : Int) * 2 % 4294967296) 79764919 = ((rstep x (c / 2 ^ m % 2) : Nat) : Int) := by
  rw [cast_bit, bne_iff_ne] at h
  have hne : x / 2147483648 ≠ c / 2 ^ m % 2 := by
    intro e
    apply h
    omega
  unfold rstep
  rw [if_pos hne, show ((x : Int) * 2 % 4294967296) = ((x * 2 % 4294967296 : Nat) : Int) by omega, show (79764919 : Int) = ((79764919 : Nat) : Int) from rfl, xor32 (by unfold Fits32; omega) (by unfold Fits32; omega)]
theorem rs_no {x c m : Nat} (h : ((x : Int) / 2147483648 != (c : Int) / 2 ^ m % 2) = false) : ((x : Int) * 2 % 4294967296) = ((rstep x (c / 2 ^ m % 2) : Nat) : Int) := by
  rw [cast_bit] at h
  have he : x / 2147483648 = c / 2 ^ m % 2 := by
    have : ((x : Int) / 2147483648) = ((c / 2 ^ m % 2 : Nat) : Int) := by simpa using h
    omega
  unfold rstep
  rw [if_neg (fun hn => hn he)]
  omega
theorem rs_next {l : List Nat} {j x c : Nat} (hf : Fits32 x) (h : rv 32 x = Zb l j) (hc : l.getD (j / 8) 0 = c) : rv 32 (rstep x (c / 2 ^ (j % 8) % 2)) = Zb l (j + 1) := by
  rw [rv_step hf (Nat.mod_lt _ (by omega)), Zb, hc, h]
theorem vint {k : IntKind} {a b : Int} (h : a = b) : Value.int k a = Value.int k b := by rw [h]
theorem tmod_bit (x k : Nat) : ((x : Int) / 2 ^ k).tmod 2 = (x : Int) / 2 ^ k % 2 := by
  rw [Int.tmod_eq_emod_of_nonneg (by
    have : ((x : Int) / 2 ^ k) = ((x / 2 ^ k : Nat) : Int) := by push_cast; rfl
    rw [this]
    exact Int.natCast_nonneg _)]
/-- A bit laid behind. -/
theorem or_bit {o b : Nat} (ho : o < 2147483648) (hb : b < 2) : bits .or .u32 ((o : Int) * 2 % 4294967296) (b : Int) = ((o * 2 + b : Nat) : Int) := by
  rw [show ((o : Int) * 2 % 4294967296) = ((o * 2 : Nat) : Int) by omega, u32_or_nat _ _ (by omega) (by omega), nat_join 1 _ _ (by omega) (by omega)]

set_option maxRecDepth 100000 in
set_option maxHeartbeats 1600000 in
theorem rsum_any (A : Option Addr) (c : Nat) (l : List Nat) (w : World) (hr : Rd w A l) (hl : l.length ≤ 1000000) (hby : ∀ b ∈ l, b < 256) :
    Calls Tryd.prog 24 #[.slice A l.length c] w fun e w' => e = .returned (.int .u32 (sumOf l : Nat)) ∧ w = w' := by
  have HB := Lib.hid hby
  have HR := Lib.hid hr
  have HS := Lib.hid (Zb_all hby)
  clear hby hr
  go_enter Tryd.func24, Tryd.ntmps24
  go_wp2
  go_loop [3, 4] (fun s i => ∃ j x : Nat, j ≤ 8 * l.length ∧ i = .int .i64 (j : Int) ∧ s = .int .u32 (x : Int) ∧ Hid (rv 32 x = Zb l j) ∧ Fits32 x) (fun _ i => 8 * l.length - (intOf i).toNat)
  case atStart => exact ⟨0, 4294967295, Nat.zero_le _, rfl, rfl, by rw [Hid]; show rv 32 4294967295 = 4294967295; decide +kernel, by unfold Fits32; omega⟩
  case round =>
    obtain ⟨j, x, hj, rfl, rfl, hx, hfx⟩ := hrel
    by_cases hlt : j < 8 * l.length
    · have hq : j / 8 < l.length := by omega
      obtain ⟨ad, rfl, hb, hc⟩ := HR.out.at_ hq
      have hcb : l.getD (j / 8) 0 < 256 := HB.out _ (by simp [List.getD, List.getElem?_eq_getElem hq])
      obtain ⟨c1, hc1⟩ : ∃ c1, l.getD (j / 8) 0 = c1 := ⟨_, rfl⟩
      rw [hc1] at hc hcb
      have HC := Lib.hid hc1
      clear hc1
      go_wp2
      · have ht : ((x : Int) / 2147483648 != (c1 : Int) / 2 ^ (j % 8) % 2) = true := by assumption
        have R := rs_next hfx hx.out HC.out
        go_round
        case rel => exact ⟨j + 1, _, by omega, by go_num, vint (rs_yes ht), R, fits_rstep _ _⟩
        case measure => simp [intOf]; omega
      · have ht : ((x : Int) / 2147483648 != (c1 : Int) / 2 ^ (j % 8) % 2) = false := by assumption
        have R := rs_next hfx hx.out HC.out
        go_round
        case rel => exact ⟨j + 1, _, by omega, by go_num, vint (rs_no ht), R, fits_rstep _ _⟩
        case measure => simp [intOf]; omega
    · have hd : decide ((j : Int) < (l.length : Int) * 8) = false := by simp; omega
      have HE : Hid (4294967295 ^^^ rv 32 x = sumOf l) := by
        obtain rfl : j = 8 * l.length := by omega
        rw [Hid, hx.out, HS.out]
      go_wp2
      go_loop [7, 8] (fun s i => ∃ k : Nat, k ≤ 32 ∧ i = .int .i64 (k : Int) ∧ s = .int .u32 ((rv k x : Nat) : Int)) (fun _ i => 32 - (intOf i).toNat)
      case atStart => exact ⟨0, by omega, rfl, rfl⟩
      case round =>
        obtain ⟨k, hk, rfl, rfl⟩ := hrel
        by_cases hk32 : k < 32
        · have hrl := rv_lt k x
          have hp : (2 : Nat) ^ k ≤ 2147483648 := by
            have : (2 : Nat) ^ k ≤ 2 ^ 31 := Nat.pow_le_pow_right (by omega) (by omega)
            simpa using this
          have hor := or_bit (o := rv k x) (b := x / 2 ^ k % 2) (by omega) (Nat.mod_lt _ (by omega))
          rw [← cast_bit] at hor
          have HN : Hid (rv (k + 1) x = rv k x * 2 + x / 2 ^ k % 2) := rfl
          generalize rv k x * 2 + x / 2 ^ k % 2 = o' at *
          generalize rv k x = o at *
          clear hp hrl
          go_wp2
          go_round
          case rel => exact ⟨k + 1, by omega, by go_num, vint (by rw [tmod_bit, hor, HN.out])⟩
          case measure => simp [intOf]; omega
        · obtain rfl : k = 32 := by omega
          have hxr := xor32 (a := rv 32 x) (b := 4294967295) (rv_lt 32 x) (by unfold Fits32; omega)
          rw [Nat.xor_comm, HE.out] at hxr
          generalize rv 32 x = o at *
          have hxr' : bits .xor .u32 (o : Int) 4294967295 = ((sumOf l : Nat) : Int) := hxr
          clear hxr
          go_wp2
          go_ret
          exact ⟨rint (by simp), rfl⟩
end Go.Proofs.YtpjmefbbfgpaiaaDoor
