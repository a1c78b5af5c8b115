/- math/bits.Len64: as many bits as a number needs. -/
import Derived.Test.YtpjmefbbfgpaiaaDoorProg
import Derived.Lib.Strings
import Derived.Lib.Slices
import Derived.Lib.Small
import Derived.Lib.Walk
import Derived.Lib.BitFns
namespace Go.Proofs.YtpjmefbbfgpaiaaDoor

/-- One way's end: k bits were taken off, the table tells the rest. -/
theorem len_sum (k L B : Nat) (h56 : k ≤ 56) (l : L ≤ 8) (s : B = k + L) :
    ((k : Int) + (((L : Int) + 9223372036854775808) % 18446744073709551616 - 9223372036854775808) + 9223372036854775808) % 18446744073709551616 - 9223372036854775808 = (B : Int) := by
  omega
theorem len_close (x y : Int) (k : Nat) (h1 : x.toNat < 2 ^ 64) (hk : 2 ^ k ≤ x.toNat) (h56 : k ≤ 56) (hy0 : 0 ≤ y) (hy : y.toNat = x.toNat / 2 ^ k) (hy8 : y ≤ 255) :
    ((k : Int) + ((Lib.len8 y + 9223372036854775808) % 18446744073709551616 - 9223372036854775808) + 9223372036854775808) % 18446744073709551616 - 9223372036854775808 = (Lib.bitLen x.toNat : Int) := by
  have l := Lib.bitLen_le8' y hy0 hy8
  have s := Lib.bitLen_shift k x.toNat hk h1
  rw [← hy] at s
  rw [Lib.len8_of y hy0 hy8]
  exact len_sum k _ _ h56 l s

set_option maxHeartbeats 4000000 in
set_option maxRecDepth 100000 in
theorem len_int (x : Int) (w : World) (h0 : 0 ≤ x) (h1 : x ≤ 18446744073709551615) : Calls Tryd.prog 26 #[.int .u64 x] w fun e w' => e = .returned (.int .i64 (Lib.bitLen x.toNat : Nat)) ∧ w = w' := by
  go_enter Tryd.func26, Tryd.ntmps26
  go_wp2
  all_goals go_ret
  all_goals refine ⟨congrArg Ending.returned (congrArg (Value.int IntKind.i64) ?_), rfl⟩
  · exact len_close x _ 56 (by omega) (by omega) (by omega) (by omega) (by omega) (by omega)
  · exact len_close x _ 48 (by omega) (by omega) (by omega) (by omega) (by omega) (by omega)
  · exact len_close x _ 40 (by omega) (by omega) (by omega) (by omega) (by omega) (by omega)
  · exact len_close x _ 32 (by omega) (by omega) (by omega) (by omega) (by omega) (by omega)
  · exact len_close x _ 24 (by omega) (by omega) (by omega) (by omega) (by omega) (by omega)
  · exact len_close x _ 16 (by omega) (by omega) (by omega) (by omega) (by omega) (by omega)
  · exact len_close x _ 8 (by omega) (by omega) (by omega) (by omega) (by omega) (by omega)
  · have l := Lib.bitLen_le8' (x % 256) (by omega) (by omega)
    rw [Lib.len8_of (x % 256) (by omega) (by omega)]
    have e : (x % 256).toNat = x.toNat := by omega
    rw [e] at l ⊢
    omega
end Go.Proofs.YtpjmefbbfgpaiaaDoor
