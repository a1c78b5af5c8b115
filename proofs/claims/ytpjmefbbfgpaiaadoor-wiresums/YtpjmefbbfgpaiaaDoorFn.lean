/- wire.firstNum: a number at the beginning of bytes. -/
import Derived.Test.YtpjmefbbfgpaiaaDoorAp
import Derived.WalkMore
import Derived.ScopeJumps
namespace Go.Proofs.YtpjmefbbfgpaiaaDoor
open Go.RowKit

/-- A number taken from the left: at place i, n so far. The answer: the number, how many bytes, the error (0: none, 1: its form, 3: too short). -/
def vgo : Nat → Nat → List Nat → Nat × Nat × Nat
  | _, _, [] => (0, 0, 3)
  | i, n, c :: r => if (c = 0 ∧ 0 < i) ∨ (i = 9 ∧ 1 < c) then (0, 0, 1) else if c < 128 then (n + c * 128 ^ i, i + 1, 0) else vgo (i + 1) (n + c % 128 * 128 ^ i) r
def vread (l : List Nat) : Nat × Nat × Nat := vgo 0 0 l

theorem andNot128 {c : Nat} (h : c < 256) : bits .andNot .u8 (c : Int) 128 = ((c % 128 : Nat) : Int) := by
  have k : ∀ x : Nat, x < 256 → x &&& (255 - 128) = x % 128 := by intro x _; exact nat_mask7 x
  rw [show (128 : Int) = ((128 : Nat) : Int) from rfl, u8_andNot_nat c 128 h (by omega), k c h]


theorem pow128 (i : Nat) : (2 : Nat) ^ (7 * i) = 128 ^ i := by rw [Nat.pow_mul]
/-- The digit c at place i laid beside the number n. -/
theorem digit_or {n c i : Nat} (hn : n < 128 ^ i) (hi : i ≤ 9) (hc : i = 9 → c ≤ 1) :
    bits .or .u64 (n : Int) (IntKind.u64.wrap ((c : Int) % 128 * 2 ^ (7 * i))) = ((n + c % 128 * 128 ^ i : Nat) : Int) := by
  have hp : (128 : Nat) ^ i ≤ 128 ^ 9 := Nat.pow_le_pow_right (by omega) hi
  have h9 : (128 : Nat) ^ 9 = 9223372036854775808 := by decide
  have hx : c % 128 * 128 ^ i < 18446744073709551616 := by
    rcases Nat.lt_or_ge i 9 with h | h
    · have h8 : (128 : Nat) ^ i ≤ 128 ^ 8 := Nat.pow_le_pow_right (by omega) (by omega)
      have e8 : (128 : Nat) ^ 8 = 72057594037927936 := by decide
      have : c % 128 * 128 ^ i ≤ 127 * 72057594037927936 := Nat.mul_le_mul (by omega) (by omega)
      omega
    · obtain rfl : i = 9 := by omega
      have := hc rfl
      have : c % 128 * 128 ^ 9 ≤ 1 * 9223372036854775808 := Nat.mul_le_mul (by omega) (by omega)
      omega
  have e : IntKind.u64.wrap ((c : Int) % 128 * 2 ^ (7 * i)) = ((c % 128 * 128 ^ i : Nat) : Int) := by
    have e1 : ((c : Int) % 128 * 2 ^ (7 * i)) = ((c % 128 * 128 ^ i : Nat) : Int) := by
      rw [← pow128]
      push_cast
      rfl
    rw [e1, IntKind.wrap_u64]
    omega
  rw [e, u64_or_nat _ _ (by omega) hx, Nat.or_comm, nat_join (7 * i)]
  · rw [Nat.add_comm]
  · rw [pow128, Nat.mul_mod_left]
  · rw [pow128]; exact hn
theorem or_none (c : Nat) : bits .or .u64 0 ((c : Int) % 128) = ((c % 128 : Nat) : Int) := by
  rw [show (0 : Int) = ((0 : Nat) : Int) from rfl, show ((c : Int) % 128) = ((c % 128 : Nat) : Int) by omega, u64_or_nat _ _ (by omega) (by omega), Nat.zero_or]
theorem vgo_at {l : List Nat} {i n c : Nat} (h : i < l.length) (hc : l.getD i 0 = c) :
    vgo i n (l.drop i) = if (c = 0 ∧ 0 < i) ∨ (i = 9 ∧ 1 < c) then (0, 0, 1) else if c < 128 then (n + c * 128 ^ i, i + 1, 0) else vgo (i + 1) (n + c % 128 * 128 ^ i) (l.drop (i + 1)) := by
  have e : l[i] = c := by simpa [List.getD, List.getElem?_eq_getElem h] using hc
  rw [List.drop_eq_getElem_cons h, e, vgo]
theorem vgo_end {l : List Nat} {i n : Nat} (h : ¬ i < l.length) : vgo i n (l.drop i) = (0, 0, 3) := by
  rw [List.drop_eq_nil_of_le (by omega), vgo]
theorem digit_lt {n c i : Nat} (hn : n < 128 ^ i) : n + c % 128 * 128 ^ i < 128 ^ (i + 1) := by
  have : c % 128 * 128 ^ i ≤ 127 * 128 ^ i := Nat.mul_le_mul (by omega) (Nat.le_refl _)
  rw [Nat.pow_succ]
  omega

/-- What three numbers come back as. -/
def Three (w : World) (r : Nat × Nat × Nat) (e : Ending) (w' : World) : Prop := e = .returned (.tuple #[.int .u64 (r.1 : Int), .int .i64 (r.2.1 : Int), .int .i64 (r.2.2 : Int)]) ∧ w = w'
theorem Three.of {w : World} {r : Nat × Nat × Nat} {a b c : Nat} (h : r = (a, b, c)) {x y z : Int} (hx : x = a) (hy : y = b) (hz : z = c) : Three w r (.returned (.tuple #[.int .u64 x, .int .i64 y, .int .i64 z])) w := by
  subst h hx hy hz
  exact ⟨rfl, rfl⟩

set_option maxRecDepth 100000 in
set_option maxHeartbeats 3200000 in
theorem firstNum_any (A : Option Addr) (c0 : Nat) (l : List Nat) (w : World) (hr : Rd w A l) (hl : l.length ≤ 1000100) (hby : ∀ b ∈ l, b < 256) :
    Calls Tryd.prog 27 #[.slice A l.length c0] w (Three w (vread l)) := by
  have HR := Lib.hid hr
  have HB := Lib.hid hby
  clear hr hby
  go_enter Tryd.func27, Tryd.ntmps27
  go_wp2
  refine wp_scope_jumps 0 (fun a' w' => w = w' ∧ ∃ (i n : Nat) (u6 u8 u9 u10 u11 u12 u13 u14 u15 u16 u17 u18 u19 u20 u21 u22 u23 u24 u25 u26 u27 u28 u29 u30 u31 u32 u33 u34 u35 u36 u37 u38 u39 u40 u41 : Value),
    a' = { tmps := #[.slice A l.length c0, undef, .int .u64 0, .int .i64 0, .int .i64 0, .int .u64 (n : Int), u6, .int .i64 (i : Int), u8, u9, u10, u11, u12, u13, u14, u15, u16, u17, u18, u19, u20, u21, u22, u23, u24, u25, u26, u27, u28, u29, u30, u31, u32, u33, u34, u35, u36, u37, u38, u39, u40, u41, undef, undef], defers := [] } ∧
    i ≤ 9 ∧ i ≤ l.length ∧ Hid (n < 128 ^ i ∧ vgo i n (l.drop i) = vread l)) (fun a' _ => (9 - (intOf (a'.tmps.getD 7 undef)).toNat)) rfl ?_ ?_
  · by_cases hlt : 0 < l.length
    · obtain ⟨ad, rfl, hb, hc⟩ := HR.out.at_ hlt
      have hcb : l.getD 0 0 < 256 := HB.out _ (by simp [List.getD, List.getElem?_eq_getElem hlt])
      have hva := vgo_at (n := 0) hlt (c := l.getD 0 0) rfl
      generalize hcd : l.getD 0 0 = c at *
      clear hcd
      have hc' : w.cell? ad = some (.int .u8 (c : Int)) := hc
      have hne : ((0 : Int) == (l.length : Int)) = false := by rw [beq_eq_false_iff_ne]; omega
      have han := andNot128 hcb
      rw [if_neg (by omega)] at hva
      have HVA : Hid (vread l = if c < 128 then (0 + c * 128 ^ 0, 0 + 1, 0) else vgo (0 + 1) (0 + c % 128 * 128 ^ 0) (l.drop (0 + 1))) := hva
      clear hva hc
      have hor := or_none c
      by_cases hc128 : c < 128
      · have HV : Hid (vread l = (c, 1, 0)) := by rw [Hid, HVA.out, if_pos hc128]; simp
        rw [Nat.mod_eq_of_lt hc128] at hor
        clear HVA
        by_cases hcz : c = 0
        · have hcn : ((c : Int) == 0) = true := by rw [beq_iff_eq]; omega
          have hc1 : ¬ 1 < c := by omega
          have HZ := Lib.hid hcz
          clear hcz
          go_wp2
          go_step3
          go_wp2
          simp only [Exit.jump]
          go_ret3
          exact Three.of HV.out (by go_num) rfl rfl
        · have hcn : ((c : Int) == 0) = false := by rw [beq_eq_false_iff_ne]; omega
          by_cases hc1 : 1 < c
          · go_wp2
            go_step3
            go_wp2
            simp only [Exit.jump]
            go_ret3
            exact Three.of HV.out (by go_num) rfl rfl
          · go_wp2
            go_step3
            go_wp2
            simp only [Exit.jump]
            go_ret3
            exact Three.of HV.out (by go_num) rfl rfl
      · have HV : Hid (c % 128 < 128 ^ 1 ∧ vgo 1 (c % 128) (l.drop 1) = vread l) := ⟨by omega, by rw [HVA.out, if_neg hc128]; simp⟩
        have hcn : ((c : Int) == 0) = false := by rw [beq_eq_false_iff_ne]; omega
        have hc1 : 1 < c := by omega
        clear HVA
        obtain ⟨m, hm⟩ : ∃ m, c % 128 = m := ⟨_, rfl⟩
        rw [hm] at hor HV
        clear hm
        go_wp2
        go_step3
        go_wp2
        go_step3
        exact ⟨rfl, rfl, 1, m, _, _, _, _, _, _, _, _, _, _, _, _, _, _, _, _, _, _, _, _, _, _, _, _, _, _, _, _, _, _, _, _, _, _, _, rfl, by omega, by omega, HV⟩
    · have HV : Hid (vread l = (0, 0, 3)) := vgo_end (i := 0) (n := 0) hlt
      have hne : ((0 : Int) == (l.length : Int)) = true := by rw [beq_iff_eq]; omega
      go_wp2
      go_step3
      go_wp2
      simp only [Exit.jump]
      go_ret3
      exact Three.of HV.out rfl rfl rfl
  · rintro a' w' ⟨rfl, i, n, u6, u8, u9, u10, u11, u12, u13, u14, u15, u16, u17, u18, u19, u20, u21, u22, u23, u24, u25, u26, u27, u28, u29, u30, u31, u32, u33, u34, u35, u36, u37, u38, u39, u40, u41, rfl, hi9, hil, hh⟩
    by_cases hlt : i < l.length
    · obtain ⟨ad, rfl, hb, hc⟩ := HR.out.at_ hlt
      have hcb : l.getD i 0 < 256 := HB.out _ (by simp [List.getD, List.getElem?_eq_getElem hlt])
      generalize hcd : l.getD i 0 = c at *
      have HC := Lib.hid hcd
      clear hcd
      have hne : ((i : Int) == (l.length : Int)) = false := by rw [beq_eq_false_iff_ne]; omega
      have han := andNot128 hcb
      have hva := vgo_at (n := n) hlt HC.out
      rw [hh.out.2] at hva
      have HVA := Lib.hid hva
      clear hva
      by_cases hbad : (c = 0 ∧ 0 < i) ∨ (i = 9 ∧ 1 < c)
      · have HV : Hid (vread l = (0, 0, 1)) := HVA.out.trans (if_pos hbad)
        clear HVA
        by_cases hc0 : c = 0 ∧ 0 < i
        · obtain ⟨hcz, hi0⟩ := hc0
          have hcn : ((c : Int) == 0) = true := by rw [beq_iff_eq]; omega
          have HZ := Lib.hid hcz
          clear hcz hbad
          go_wp2
          simp only [Exit.jump]
          go_ret3
          exact Three.of HV.out rfl rfl rfl
        · have hcn : ((c : Int) == 0) = false := by rw [beq_eq_false_iff_ne]; omega
          have h9n : ((i : Int) == 9) = true := by rw [beq_iff_eq]; omega
          have hc1 : 1 < c := by omega
          clear hc0 hbad
          go_wp2
          simp only [Exit.jump]
          go_ret3
          exact Three.of HV.out rfl rfl rfl
      · have HV0 := Lib.hid (HVA.out.trans (if_neg hbad))
        have hor := digit_or (c := c) hh.out.1 hi9 (fun h => by omega)
        have hdl := digit_lt (c := c) hh.out.1
        obtain ⟨m, hm⟩ : ∃ m, n + c % 128 * 128 ^ i = m := ⟨_, rfl⟩
        rw [hm] at hor hdl
        have hi0 : c = 0 → ¬ 0 < i := fun h h' => hbad (.inl ⟨h, h'⟩)
        have h91 : i = 9 → ¬ 1 < c := fun h h' => hbad (.inr ⟨h, h'⟩)
        by_cases hc128 : c < 128
        · have HV : Hid (vread l = (m, i + 1, 0)) := by
            rw [Hid, HV0.out, if_pos hc128, ← hm, Nat.mod_eq_of_lt hc128]
          have HD := Lib.hid hdl
          clear hdl hm HVA HV0 hbad
          by_cases hc0 : c = 0
          · have hz := hi0 hc0
            have hcn : ((c : Int) == 0) = true := by rw [beq_iff_eq]; omega
            have hc1 : ¬ 1 < c := by omega
            have HZ := Lib.hid hc0
            clear hi0 h91 hc0
            go_wp2
            simp only [Exit.jump]
            go_ret3
            exact Three.of HV.out (by go_num) (by go_num) rfl
          · have hcn : ((c : Int) == 0) = false := by rw [beq_eq_false_iff_ne]; omega
            by_cases h9 : i = 9
            · have h9n : ((i : Int) == 9) = true := by rw [beq_iff_eq]; omega
              have hc1 := h91 h9
              have HZ := Lib.hid h9
              clear hi0 h91 h9
              go_wp2
              simp only [Exit.jump]
              go_ret3
              exact Three.of HV.out (by go_num) (by go_num) rfl
            · have h9n : ((i : Int) == 9) = false := by rw [beq_eq_false_iff_ne]; omega
              clear hi0 h91
              by_cases hc1 : 1 < c
              · go_wp2
                simp only [Exit.jump]
                go_ret3
                exact Three.of HV.out (by go_num) (by go_num) rfl
              · go_wp2
                simp only [Exit.jump]
                go_ret3
                exact Three.of HV.out (by go_num) (by go_num) rfl
        · have HV : Hid (m < 128 ^ (i + 1) ∧ vgo (i + 1) m (l.drop (i + 1)) = vread l) := ⟨hdl, by rw [HV0.out, if_neg hc128, hm]⟩
          have hcn : ((c : Int) == 0) = false := by rw [beq_eq_false_iff_ne]; omega
          have h9n : ((i : Int) == 9) = false := by rw [beq_eq_false_iff_ne]; omega
          have hi8 : i < 9 := by omega
          have hc1 : 1 < c := by omega
          clear hdl hm HVA HV0 hbad hi0 h91
          go_wp2
          go_step3
          refine ⟨rfl, ⟨rfl, i + 1, m, _, _, _, _, _, _, _, _, _, _, _, _, _, _, _, _, _, _, _, _, _, _, _, _, _, _, _, _, _, _, _, _, _, _, _, rfl, by omega, by omega, HV⟩, ?_⟩
          simp [intOf]
          omega
    · have HV : Hid (vread l = (0, 0, 3)) := hh.out.2.symm.trans (vgo_end (n := n) hlt)
      have hne : ((i : Int) == (l.length : Int)) = true := by rw [beq_iff_eq]; omega
      go_wp2
      simp only [Exit.jump]
      go_ret3
      exact Three.of HV.out rfl rfl rfl
end Go.Proofs.YtpjmefbbfgpaiaaDoor
