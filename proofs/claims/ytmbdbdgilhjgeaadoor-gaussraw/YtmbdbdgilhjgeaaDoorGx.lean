/- The law GaussRaw, walked: true at any two floats. -/
import Derived.Test.YtmbdbdgilhjgeaaDoorRw
import Derived.Test.YtmbdbdgilhjgeaaDoorGa
set_option linter.unusedSimpArgs false
set_option linter.unusedVariables false
namespace Go.Proofs.YtmbdbdgilhjgeaaDoor
open Go.RowKit Ieee

theorem run_archFloor (x : Nat) (h : (FloatKind.f64.decode x).isNaN = false) (w : World) : (callFunc 36 #[.float .f64 x]).run Tryd.prog w = .ok (.value (.float .f64 (floorB x))) w := by
  rw [run_callFunc_extern Tryd.func36 (by kernel_rfl) (by kernel_rfl) (by kernel_rfl) (e := Extern.MathFloor.toIntegral "math.archFloor" .down) (by kernel_rfl), toIntegral_at _ _ _ h]
  rfl
set_option maxRecDepth 100000 in
theorem floor_any (x : Nat) (h : (FloatKind.f64.decode x).isNaN = false) (w : World) : Calls Tryd.prog 26 #[.float .f64 x] w fun e w' => e = .returned (.float .f64 (floorB x)) ∧ w = w' := by
  have hx := run_archFloor x h w
  go_enter Tryd.func26, Tryd.ntmps26
  go_wp2
  go_ret
  exact ⟨rfl, rfl⟩

set_option maxRecDepth 100000 in
theorem part_any (x : Nat) (w : World) : Calls Tryd.prog 25 #[.float .f64 x] w fun e w' => e = .returned (.bool (pf x)) ∧ w = w' := by
  cases h1 : geB x with
  | false =>
    have e : pf x = false := by simp [pf, h1]
    rw [e]
    unfold geB at h1
    go_enter Tryd.func25, Tryd.ntmps25
    go_wp2
    go_ret
    exact ⟨rfl, rfl⟩
  | true =>
    have hn := notNaN_of_ge h1
    cases h2 : leB x with
    | false =>
      have e : pf x = false := by simp [pf, h2]
      rw [e]
      unfold geB at h1
      unfold leB at h2
      go_enter Tryd.func25, Tryd.ntmps25
      go_wp2
      go_ret
      exact ⟨rfl, rfl⟩
    | true =>
      have e : pf x = dnB x := by rw [down_eq (by rw [h1, h2]; rfl)]; simp [pf, h1, h2]
      rw [e]
      unfold geB at h1
      unfold leB at h2
      unfold dnB
      go_enter Tryd.func25, Tryd.ntmps25
      go_wp2_with (go_at_call 26; refine (floor_any x hn _).mono ?_; rintro e w' ⟨rfl, rfl⟩)
      go_ret
      exact ⟨rfl, rfl⟩

theorem run_frombits (n : Nat) (w : World) : (callFunc 24 #[.int .u64 n]).run Tryd.prog w = .ok (.value (.float .f64 n)) w := by
  rw [run_callFunc_extern Tryd.func24 (by kernel_rfl) (by kernel_rfl) (by kernel_rfl) (e := Extern.MathFloatBits.float64frombits) (by kernel_rfl)]
  rfl

/-- What doesn't fit: nothing comes back. -/
theorem pf1 : (pf 4607182418800017408 && pf 0) = true := by
  rw [← fl1, ← fl0, pf_fl false sm_lim.2.2, pf_fl false (show Sm 1 by unfold Sm; decide)]
  decide
theorem fits_no {a b : Nat} (h : (pf a && pf b) = false) (w : World) : Calls Tryd.prog 23 #[.complex .f64 a b] w fun e w' => e = .returned (.bool false) ∧ w = w' := by
  have := fits_raw a b w
  rw [h] at this
  exact this
theorem fits_yes {a b : Nat} (h : (pf a && pf b) = true) (w : World) : Calls Tryd.prog 23 #[.complex .f64 a b] w fun e w' => e = .returned (.bool true) ∧ w = w' := by
  have := fits_raw a b w
  rw [h] at this
  exact this
theorem add_no {a b : Nat} (h : (pf a && pf b) = false) (w : World) : Calls Tryd.prog 17 #[.complex .f64 a b, .complex .f64 4607182418800017408 0] w fun e w' => e = .returned (.tuple #[.complex .f64 0 0, .bool false]) ∧ w = w' := by
  go_enter Tryd.func17, Tryd.ntmps17
  go_wp2_with (go_at_call 23; refine (fits_no h _).mono ?_; rintro e w' ⟨rfl, rfl⟩)
  go_ret2
  exact ⟨rfl, rfl⟩
theorem sub_no {a b : Nat} (h : (pf a && pf b) = false) (w : World) : Calls Tryd.prog 18 #[.complex .f64 a b, .complex .f64 a b] w fun e w' => e = .returned (.tuple #[.complex .f64 0 0, .bool false]) ∧ w = w' := by
  go_enter Tryd.func18, Tryd.ntmps18
  go_wp2_with (go_at_call 23; refine (fits_no h _).mono ?_; rintro e w' ⟨rfl, rfl⟩)
  go_ret2
  exact ⟨rfl, rfl⟩
theorem mul_no {a b : Nat} (h : (pf a && pf b) = false) (w : World) : Calls Tryd.prog 19 #[.complex .f64 4607182418800017408 0, .complex .f64 a b] w fun e w' => e = .returned (.tuple #[.complex .f64 0 0, .bool false]) ∧ w = w' := by
  go_enter Tryd.func19, Tryd.ntmps19
  go_wp2_with (go_at_call 23; refine Hid.out ?_)
  refine Lib.hid ((fits_yes pf1 _).mono ?_)
  rintro e w' ⟨rfl, rfl⟩
  go_wp2_with (go_at_call 23; refine Hid.out ?_)
  refine Lib.hid ((fits_no h _).mono ?_)
  rintro e w' ⟨rfl, rfl⟩
  go_wp2
  go_ret2
  exact ⟨rfl, rfl⟩
theorem ifFits_no {a b : Nat} (h : (pf a && pf b) = false) (w : World) : Calls Tryd.prog 34 #[.complex .f64 a b] w fun e w' => e = .returned (.tuple #[.complex .f64 0 0, .bool false]) ∧ w = w' := by
  go_enter Tryd.func34, Tryd.ntmps34
  go_wp2_with (go_at_call 23; refine (fits_no h _).mono ?_; rintro e w' ⟨rfl, rfl⟩)
  go_ret2
  exact ⟨rfl, rfl⟩
def W64 (n : Nat) : Prop := n < 18446744073709551616
theorem conj_no {a b : Nat} (hb : W64 b) (h : (pf a && pf b) = false) (w : World) : Calls Tryd.prog 21 #[.complex .f64 a b] w fun e w' => e = .returned (.tuple #[.complex .f64 0 0, .bool false]) ∧ w = w' := by
  have hn : Op.unary .neg (.float .f64 b) = pure (.float .f64 (Op.negFloat .f64 b)) := rfl
  have h' : (pf a && pf (Op.negFloat .f64 b)) = false := by rw [pf_neg hb]; exact h
  generalize Op.negFloat .f64 b = b' at *
  go_enter Tryd.func21, Tryd.ntmps21
  go_wp2_with (go_at_call 34; refine (ifFits_no h' _).mono ?_; rintro e w' ⟨rfl, rfl⟩)
  go_ret2
  exact ⟨rfl, rfl⟩
theorem norm_no {a b : Nat} (h : (pf a && pf b) = false) (w : World) : Calls Tryd.prog 22 #[.complex .f64 a b] w fun e w' => e = .returned (.tuple #[.complex .f64 0 0, .bool false]) ∧ w = w' := by
  go_enter Tryd.func22, Tryd.ntmps22
  go_wp2_with (go_at_call 23; refine (fits_no h _).mono ?_; rintro e w' ⟨rfl, rfl⟩)
  go_ret2
  exact ⟨rfl, rfl⟩
theorem text_no {a b : Nat} (h : (pf a && pf b) = false) (w : World) : Calls Tryd.prog 27 #[.complex .f64 a b] w fun e w' => e = .returned (.string ⟨#[]⟩) ∧ w = w' := by
  go_enter Tryd.func27, Tryd.ntmps27
  go_wp2_with (go_at_call 23; refine (fits_no h _).mono ?_; rintro e w' ⟨rfl, rfl⟩)
  go_ret
  exact ⟨rfl, rfl⟩

set_option maxRecDepth 100000 in
set_option maxHeartbeats 3200000 in
theorem raw_any (a b : Nat) (hb : W64 b) (w : World) (ht : Tb w) : Calls Tryd.prog 5 #[.int .u64 a, .int .u64 b] w (Yes w) := by
  have r1 := run_frombits a
  have r2 := run_frombits b
  go_enter Tryd.func5, Tryd.ntmps5
  go_wp2_with (go_at_call 13; refine Hid.out ?_)
  refine Lib.hid ((awake_any _ ht).mono ?_)
  rintro e w1 ⟨rfl, k1⟩
  have K1 := Lib.hid k1
  clear k1
  cases h1 : pf a with
  | false =>
    have HH : Hid ((pf a && pf b) = false) := Lib.hid (by rw [h1]; rfl)
    go_wp2_with (first
        | (go_at_call 25; refine (part_any _ _).mono ?_; rintro e w' ⟨rfl, rfl⟩)
        | (go_at_call 23; refine (fits_no HH.out _).mono ?_; rintro e w' ⟨rfl, rfl⟩)
        | (go_at_call 17; refine (add_no HH.out _).mono ?_; rintro e w' ⟨rfl, rfl⟩)
        | (go_at_call 18; refine (sub_no HH.out _).mono ?_; rintro e w' ⟨rfl, rfl⟩)
        | (go_at_call 19; refine (mul_no HH.out _).mono ?_; rintro e w' ⟨rfl, rfl⟩)
        | (go_at_call 21; refine (conj_no hb HH.out _).mono ?_; rintro e w' ⟨rfl, rfl⟩)
        | (go_at_call 22; refine (norm_no HH.out _).mono ?_; rintro e w' ⟨rfl, rfl⟩)
        | (go_at_call 27; refine (text_no HH.out _).mono ?_; rintro e w' ⟨rfl, rfl⟩))
    go_ret
    exact ⟨rfl, K1.out⟩
  | true =>
    cases h2 : pf b with
    | false =>
      have HH : Hid ((pf a && pf b) = false) := Lib.hid (by rw [h1, h2]; rfl)
      go_wp2_with (first
        | (go_at_call 25; refine (part_any _ _).mono ?_; rintro e w' ⟨rfl, rfl⟩)
        | (go_at_call 23; refine (fits_no HH.out _).mono ?_; rintro e w' ⟨rfl, rfl⟩)
        | (go_at_call 17; refine (add_no HH.out _).mono ?_; rintro e w' ⟨rfl, rfl⟩)
        | (go_at_call 18; refine (sub_no HH.out _).mono ?_; rintro e w' ⟨rfl, rfl⟩)
        | (go_at_call 19; refine (mul_no HH.out _).mono ?_; rintro e w' ⟨rfl, rfl⟩)
        | (go_at_call 21; refine (conj_no hb HH.out _).mono ?_; rintro e w' ⟨rfl, rfl⟩)
        | (go_at_call 22; refine (norm_no HH.out _).mono ?_; rintro e w' ⟨rfl, rfl⟩)
        | (go_at_call 27; refine (text_no HH.out _).mono ?_; rintro e w' ⟨rfl, rfl⟩))
      go_ret
      exact ⟨rfl, K1.out⟩
    | true =>
      have HH : Hid ((pf a && pf b) = true) := Lib.hid (by rw [h1, h2]; rfl)
      go_wp2_with (first
        | (go_at_call 25; refine (part_any _ _).mono ?_; rintro e w' ⟨rfl, rfl⟩)
        | (go_at_call 23; refine (fits_yes HH.out _).mono ?_; rintro e w' ⟨rfl, rfl⟩))
      go_ret
      exact ⟨rfl, K1.out⟩
end Go.Proofs.YtmbdbdgilhjgeaaDoor
