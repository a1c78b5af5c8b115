/- The law WireLong, walked: true at any number. -/
import Derived.Test.YtpjmefbbfgpaiaaDoorAp
import Derived.Test.YtpjmefbbfgpaiaaDoorLn
namespace Go.Proofs.YtpjmefbbfgpaiaaDoor
open Go.RowKit

theorem vnum_bits (n : Nat) : n < 18446744073709551616 → (vnum n).length = max 1 ((Lib.bitLen n + 6) / 7) := by
  induction n using Nat.strongRecOn with
  | _ n ih =>
    intro hn
    by_cases h : n < 128
    · have := Lib.bitLen_le n 7 (by omega) (by omega)
      rw [vnum_lo h, List.length_singleton]
      omega
    · have e := Lib.bitLen_shift 7 n (by omega) (by omega)
      have b := Lib.bitLen_half (n / 128) (by omega) (by omega)
      have i := ih (n / 128) (by omega) (by omega)
      rw [vnum_hi h, List.length_cons, i, e]
      rw [show n / 2 ^ 7 = n / 128 by omega]
      omega
theorem vnum_last (n : Nat) : (vnum n).getD ((vnum n).length - 1) 0 < 128 := by
  induction n using Nat.strongRecOn with
  | _ n ih =>
    by_cases h : n < 128
    · rw [vnum_lo h]; simpa using h
    · have i := ih (n / 128) (by omega)
      have p := vnum_pos (n / 128)
      rw [vnum_hi h, List.length_cons, Nat.add_sub_cancel]
      obtain ⟨k, hk⟩ : ∃ k, (vnum (n / 128)).length = k + 1 := ⟨_, (Nat.succ_pred_eq_of_pos p).symm⟩
      rw [hk] at i ⊢
      simpa using i

set_option maxRecDepth 100000 in
set_option maxHeartbeats 1600000 in
theorem long_any (n : Nat) (hn : Fits64 n) (w : World) (ht : Tab w) : Calls Tryd.prog 8 #[.int .u64 n] w (Yes w) := by
  go_enter Tryd.func8, Tryd.ntmps8
  go_wp2_with fail
  refine (awake_any w ht).mono ?_
  rintro e w1 ⟨rfl, k1⟩
  have K1 := Lib.hid k1
  clear k1
  go_wp2_with fail
  refine (num_any w1.heap.size _ _ n _ (put_new w1) hn (by simp)).mono ?_
  rintro e w2 ⟨rfl, v2, hw2, hm2, hk2⟩
  have K2 := Lib.hid (put_kept (K1.out.alloc _) hk2 K1.out.size (by simp [Value.ownBlock]))
  have H2 := Lib.hid hw2
  clear hw2 hm2 hk2 K1
  rw [List.nil_append] at H2
  have L : (vnum n).length ≤ 10 := vnum_ten hn
  have P := vnum_pos n
  have hlast := vnum_last n
  have hbits := vnum_bits n hn
  generalize vnum n = l at *
  have B := Lib.hid hbits
  clear hbits
  go_wp2_with fail
  refine (bytes_any _ _ _ _ H2.out (by omega)).mono ?_
  rintro e w3 ⟨A3, c3, rfl, ho3, hg3, hc3, hk3⟩
  have K3 := Lib.hid (K2.out.trans hk3 (fun _ _ h => h))
  obtain ⟨ad, rfl, hb, hc⟩ := (Rd.of_owns ho3).at_ (k := l.length - 1) (by omega)
  clear ho3 hg3 hc3 hk3 K2 H2
  go_wp2_with fail
  refine (len_int n _ (by omega) (by unfold Fits64 at hn; omega)).mono ?_
  rintro e w4 ⟨rfl, rfl⟩
  rw [Int.toNat_natCast]
  have hb64 : Lib.bitLen n ≤ 64 := Lib.bitLen_le n 64 (by omega) (by unfold Fits64 at hn; omega)
  generalize Lib.bitLen n = b at *
  have hmax : max (1 : Int) (((b : Int) + 6) / 7) = (l.length : Int) := by have := B.out; omega
  have hin : (((l.length : Int) - 1).toNat) = l.length - 1 := by omega
  generalize l.getD (l.length - 1) 0 = y at *
  clear B
  have hy : decide ((y : Int) < 128) = true := by simp; omega
  go_wp2
  go_ret
  exact ⟨rfl, K3.out⟩
end Go.Proofs.YtpjmefbbfgpaiaaDoor
