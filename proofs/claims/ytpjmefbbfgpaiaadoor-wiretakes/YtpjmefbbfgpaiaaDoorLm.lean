/- braidworklaw01.num: a number at the beginning of bytes, by definition. -/
import Derived.Test.YtpjmefbbfgpaiaaDoorFn
namespace Go.Proofs.YtpjmefbbfgpaiaaDoor
open Go.RowKit

/-- The digit c at place i added to the number n. -/
theorem digit_add {n c i : Nat} (hn : n < 128 ^ i) (hi : i ≤ 9) (hc : i = 9 → c ≤ 1) :
    IntKind.u64.wrap ((n : Int) + IntKind.u64.wrap ((c : Int) % 128 * 2 ^ (7 * i))) = ((n + c % 128 * 128 ^ i : Nat) : Int) := by
  have e1 : ((c : Int) % 128 * 2 ^ (7 * i)) = ((c % 128 * 128 ^ i : Nat) : Int) := by
    rw [← pow128]
    push_cast
    rfl
  have hs : n + c % 128 * 128 ^ i < 18446744073709551616 := by
    have hp : (128 : Nat) ^ i ≤ 128 ^ 9 := Nat.pow_le_pow_right (by omega) hi
    have h9 : (128 : Nat) ^ 9 = 9223372036854775808 := by decide
    rcases Nat.lt_or_ge i 9 with h | h
    · have h8 : (128 : Nat) ^ i ≤ 128 ^ 8 := Nat.pow_le_pow_right (by omega) (by omega)
      have e8 : (128 : Nat) ^ 8 = 72057594037927936 := by decide
      have : c % 128 * 128 ^ i ≤ 127 * 72057594037927936 := Nat.mul_le_mul (by omega) (by omega)
      omega
    · obtain rfl : i = 9 := by omega
      have := hc rfl
      have : c % 128 * 128 ^ 9 ≤ 1 * 9223372036854775808 := Nat.mul_le_mul (by omega) (by omega)
      omega
  rw [e1, IntKind.wrap_u64, IntKind.wrap_u64]
  generalize c % 128 * 128 ^ i = d at *
  omega

set_option maxRecDepth 100000 in
set_option maxHeartbeats 3200000 in
theorem lnum_any (A : Option Addr) (c0 : Nat) (l : List Nat) (w : World) (hr : Rd w A l) (hl : l.length ≤ 1000100) (hby : ∀ b ∈ l, b < 256) :
    Calls Tryd.prog 22 #[.slice A l.length c0] w (Three w (vread l)) := by
  have HR := Lib.hid hr
  have HB := Lib.hid hby
  clear hr hby
  go_enter Tryd.func22, Tryd.ntmps22
  go_wp2
  go_loop [5, 10] (fun x y => ∃ (i n : Nat), y = .int .i64 (i : Int) ∧ x = .int .u64 (n : Int) ∧ i ≤ 9 ∧ i ≤ l.length ∧ Hid (n < 128 ^ i ∧ vgo i n (l.drop i) = vread l)) (fun _ y => l.length - (intOf y).toNat)
  case atStart => exact ⟨0, 0, rfl, rfl, by omega, by omega, by simp [Hid, vread]⟩
  case round =>
    obtain ⟨i, n, rfl, rfl, hi9, hil, hh⟩ := hrel
    by_cases hlt : i < l.length
    · obtain ⟨ad, rfl, hb, hc⟩ := HR.out.at_ hlt
      have hcb : l.getD i 0 < 256 := HB.out _ (by simp [List.getD, List.getElem?_eq_getElem hlt])
      generalize hcd : l.getD i 0 = c at *
      have HC := Lib.hid hcd
      clear hcd
      have hva := vgo_at (n := n) hlt HC.out
      rw [hh.out.2] at hva
      have HVA := Lib.hid hva
      clear hva
      by_cases hbad : (c = 0 ∧ 0 < i) ∨ (i = 9 ∧ 1 < c)
      · have HV : Hid (vread l = (0, 0, 1)) := HVA.out.trans (if_pos hbad)
        clear HVA
        by_cases hc0 : c = 0 ∧ 0 < i
        · obtain ⟨hcz, hi0⟩ := hc0
          have hcn : ((c : Int) == 0) = true := by rw [beq_iff_eq]; omega
          have HZ := Lib.hid hcz
          clear hcz hbad
          go_wp2
          go_ret3
          exact Three.of HV.out rfl rfl rfl
        · have h9n : ((i : Int) == 9) = true := by rw [beq_iff_eq]; omega
          have hcn : ((c : Int) == 0) = false := by rw [beq_eq_false_iff_ne]; omega
          have hc1 : 1 < c := by omega
          have hi0 : 0 < i := by omega
          clear hc0 hbad
          go_wp2
          go_ret3
          exact Three.of HV.out rfl rfl rfl
      · have HV0 := Lib.hid (HVA.out.trans (if_neg hbad))
        have hi0 : 0 < i → ¬ c = 0 := fun h' h => hbad (.inl ⟨h, h'⟩)
        have h91 : i = 9 → ¬ 1 < c := fun h h' => hbad (.inr ⟨h, h'⟩)
        have hor := digit_add (c := c) hh.out.1 hi9 (fun h => by have := h91 h; omega)
        have hdl := digit_lt (c := c) hh.out.1
        obtain ⟨m, hm⟩ : ∃ m, n + c % 128 * 128 ^ i = m := ⟨_, rfl⟩
        rw [hm] at hor hdl
        by_cases hc128 : c < 128
        · have HV : Hid (vread l = (m, i + 1, 0)) := by
            rw [Hid, HV0.out, if_pos hc128, ← hm, Nat.mod_eq_of_lt hc128]
          have HD := Lib.hid hdl
          clear hdl hm HVA HV0 hbad
          by_cases hz : 0 < i
          · have hcn : ((c : Int) == 0) = false := by rw [beq_eq_false_iff_ne]; have := hi0 hz; omega
            by_cases h9 : i = 9
            · have h9n : ((i : Int) == 9) = true := by rw [beq_iff_eq]; omega
              have hc1 := h91 h9
              have HZ := Lib.hid h9
              clear hi0 h91 h9
              go_wp2
              go_ret3
              exact Three.of HV.out (by go_num) (by go_num) rfl
            · have h9n : ((i : Int) == 9) = false := by rw [beq_eq_false_iff_ne]; omega
              clear hi0 h91
              go_wp2
              go_ret3
              exact Three.of HV.out (by go_num) (by go_num) rfl
          · have h9n : ((i : Int) == 9) = false := by rw [beq_eq_false_iff_ne]; omega
            clear hi0 h91
            go_wp2
            go_ret3
            exact Three.of HV.out (by go_num) (by go_num) rfl
        · have HV : Hid (m < 128 ^ (i + 1) ∧ vgo (i + 1) m (l.drop (i + 1)) = vread l) := ⟨hdl, by rw [HV0.out, if_neg hc128, hm]⟩
          have hcn : ((c : Int) == 0) = false := by rw [beq_eq_false_iff_ne]; omega
          have h9n : ((i : Int) == 9) = false := by rw [beq_eq_false_iff_ne]; omega
          have hi8 : i < 9 := by omega
          clear hdl hm HVA HV0 hbad hi0 h91
          by_cases hz : 0 < i
          · go_wp2
            go_round
            case rel => exact ⟨i + 1, m, by go_num, rfl, by omega, by omega, HV⟩
            case measure => simp [intOf]; omega
          · go_wp2
            go_round
            case rel => exact ⟨i + 1, m, by go_num, rfl, by omega, by omega, HV⟩
            case measure => simp [intOf]; omega
    · have HV : Hid (vread l = (0, 0, 3)) := hh.out.2.symm.trans (vgo_end (n := n) hlt)
      go_wp2
      go_ret3
      exact Three.of HV.out rfl rfl rfl
end Go.Proofs.YtpjmefbbfgpaiaaDoor
