/- RaceAll: the races of events. -/
import Derived.Test.YtcbpkagegdfidaaRn
import Derived.Test.YtcbpkagegdfidaaRq
set_option linter.unusedSimpArgs false
set_option linter.unusedVariables false
namespace Go.Proofs.Ytcbpkagegdfidaa
open Go.RowKit

def AwC : Prop := ∀ w, Calls Try.prog 7 #[] w fun e w' => e = .returned (.bool true) ∧ Below w.heap.size w w'
def AllC : Prop := ∀ (x : Evl) v w, EvS w v x → Evk x → Calls Try.prog 11 #[v] w fun e w' => ∃ v', e = .returned v' ∧ RcS w' v' (racs edep (·.1) x x.length) ∧ Below w.heap.size w w'
set_option maxRecDepth 100000 in
set_option maxHeartbeats 16000000 in
theorem raceAll_any (HAw : AwC) (HRA : AllC) (l : Evl) (v : Value) (w : World) (hs : ES w v l) (hok : eok l) (hl : l.length ≤ 9223372036854775807) : Calls Try.prog 3 #[v] w fun e w' => e = .returned (.bool true) ∧ Below w.heap.size w w' := by
  obtain ⟨p0, cap0, rfl, hcap0⟩ := hs.form
  obtain ⟨A0, hA0⟩ : ∃ A, l.length = A := ⟨_, rfl⟩
  have HS := Lib.hid hs
  rw [hA0] at HS hcap0 hl ⊢
  have HA0 := Lib.hid hA0
  have HOK := Lib.hid hok
  clear hs hA0 hok
  go_enter Try.func3, Try.ntmps3
  go_wp2_with (go_at_call 7; refine Hid.out ?_)
  refine Lib.hid ?_
  refine (HAw _).mono ?_
  rintro e w1 ⟨rfl, hb⟩
  have HB1 := Lib.hid hb
  clear hb
  have HLT := light_any l 24 _ w1 (HS.out.kept HB1.out) (by rw [HA0.out]; exact hl)
  rw [show (l.all (fun e => decide (e.2.length ≤ 8)) && decide ((l.length : Int) ≤ 24)) = lgt l 24 from rfl] at HLT
  have HL := Lib.hid HLT
  clear HLT
  go_wp2_with (go_at_call 8; refine Hid.out ?_)
  refine Lib.hid ?_
  refine HL.out.mono ?_
  rintro e w2 ⟨rfl, hb⟩
  have HB2 : Hid (Below w.heap.size w w2) := Lib.hid (HB1.out.trans (hb.mono HB1.out.size))
  clear hb HL HB1
  obtain ⟨lt, hlt⟩ : ∃ b, lgt l 24 = b := ⟨_, rfl⟩
  rw [hlt]
  cases lt with
  | false =>
    clear hlt
    go_wp2
    go_ret
    exact ⟨rfl, HB2.out⟩
  | true =>
    obtain ⟨h8, hA24⟩ := lgt_true hlt
    have h24 : A0 ≤ 24 := by rw [HA0.out] at hA24; omega
    have HE1 := Lib.hid (events_any l _ w2 (HS.out.kept HB2.out) (by rw [HA0.out]; omega) HOK.out (fun e he => by have := h8 e he; omega))
    have HK := Lib.hid (evs_k (by rw [HA0.out]; omega) HOK.out h8)
    clear h8 hA24 hlt
    go_wp2_with (go_at_call 9; refine Hid.out ?_)
    refine Lib.hid ?_
    refine HE1.out.mono ?_
    rintro e w3 ⟨v3, rfl, hv3, hb⟩
    have HB3 : Hid (Below w.heap.size w w3) := Lib.hid (HB2.out.trans (hb.mono HB2.out.size))
    clear hb HE1
    obtain ⟨x, hx⟩ : ∃ x, evs l = x := ⟨_, rfl⟩
    have hxl : x.length = A0 := by rw [← hx, evs_len, HA0.out]
    rw [hx] at HK hv3
    have HXL := Lib.hid hxl
    obtain ⟨p3, c3, hve, hc3⟩ : ∃ p c, v3 = .slice p A0 c ∧ A0 ≤ c := by
      obtain ⟨p, c, h1, h2, _⟩ := id hv3
      rw [hxl] at h1 h2
      exact ⟨p, c, h1, h2⟩
    subst hve
    have HV3 := Lib.hid hv3
    have HXE := Lib.hid hx
    clear hv3 hx hxl
    have hxl : x.length ≤ 1000 := by rw [HXL.out]; omega
    have HXM := Lib.hid hxl
    obtain ⟨R, hR⟩ : ∃ R, racs edep (·.1) x x.length = R := ⟨_, rfl⟩
    have hRl : R.length ≤ 1000000 := by
      rw [← hR]
      have h1 := racs_len x x.length
      have h3 : x.length * x.length ≤ 1000 * 1000 := Nat.mul_le_mul hxl hxl
      omega
    have HRL := Lib.hid hRl
    have HN1 := HRA x _ w3 HV3.out HK.out
    rw [hR] at HN1
    have HN1 := Lib.hid HN1
    have HRR := Lib.hid hR
    clear hxl hR hRl
    go_wp2_with (go_at_call 11; refine Hid.out ?_)
    refine Lib.hid ?_
    refine HN1.out.mono ?_
    rintro e w4 ⟨v4, rfl, hv4, hb⟩
    have HB4 : Hid (Below w.heap.size w w4) := Lib.hid (HB3.out.trans (hb.mono HB3.out.size))
    have HV34 := Lib.hid (HV3.out.kept hb)
    obtain ⟨p4, c4, hve, _⟩ := hv4.form
    subst hve
    have HV4 := Lib.hid hv4
    have HN2 := alln_any x _ w4 HV34.out HXM.out HK.out.mk8
    rw [HRR.out] at HN2
    have HN2 := Lib.hid HN2
    clear hb HN1 hv4
    go_wp2_with (go_at_call 12; refine Hid.out ?_)
    refine Lib.hid ?_
    refine HN2.out.mono ?_
    rintro e w5 ⟨v5, rfl, hv5, hb⟩
    have HB5 : Hid (Below w.heap.size w w5) := Lib.hid (HB4.out.trans (hb.mono HB4.out.size))
    have HEQ := equal_rc R R _ _ w5 (HV4.out.kept hb) hv5 (by have := HRL.out; omega) (by have := HRL.out; omega)
    rw [decide_eq_true rfl] at HEQ
    obtain ⟨p5, c5, hve, _⟩ := hv5.form
    subst hve
    have HEQ := Lib.hid HEQ
    clear hb HN2 hv5
    go_wp2_with (go_at_call 10; refine Hid.out ?_)
    refine Lib.hid ?_
    refine HEQ.out.mono ?_
    rintro e w6 ⟨rfl, hb⟩
    have HB6 : Hid (Below w.heap.size w w6) := Lib.hid (HB5.out.trans (hb.mono HB5.out.size))
    clear hb HEQ
    go_wp2
    go_ret
    exact ⟨rfl, HB6.out⟩
end Go.Proofs.Ytcbpkagegdfidaa
