/- BraidTwice: a Form's Form is it. -/
import Derived.Test.YtmhaelfmojigoaaCn
set_option linter.unusedSimpArgs false
set_option linter.unusedVariables false
namespace Go.Proofs.Ytmhaelfmojigoaa
open Go.RowKit

set_option maxRecDepth 100000 in
set_option maxHeartbeats 16000000 in
theorem twice_any (HAw : AwB) (HF : FormC) (HSm : SameC) (HIn : IniC) (l : Evl) (v : Value) (w : World) (hs : ES w v l) (hok : eok l) (hl : l.length ≤ 9223372036854775807) : Calls Try.prog 7 #[v] w fun e w' => e = .returned (.bool true) ∧ Below w.heap.size w w' := by
  obtain ⟨p0, cap0, rfl, hcap0⟩ := hs.form
  obtain ⟨A0, hA0⟩ : ∃ A, l.length = A := ⟨_, rfl⟩
  have HS := Lib.hid hs
  rw [hA0] at HS hcap0 hl ⊢
  have HA0 := Lib.hid hA0
  have HOK := Lib.hid hok
  clear hs hA0 hok
  go_enter Try.func7, Try.ntmps7
  go_wp2_with (go_at_call 9; refine Hid.out ?_)
  refine Lib.hid ?_
  refine (HAw _).mono ?_
  rintro e w1 ⟨rfl, hb⟩
  have HB1 := Lib.hid hb
  clear hb
  have HLT := light_any l 24 _ w1 (HS.out.kept HB1.out) (by rw [HA0.out]; exact hl)
  rw [show (l.all (fun e => decide (e.2.length ≤ 8)) && decide ((l.length : Int) ≤ 24)) = lgt l 24 from rfl] at HLT
  have HL := Lib.hid HLT
  clear HLT
  go_wp2_with (go_at_call 10; refine Hid.out ?_)
  refine Lib.hid ?_
  refine HL.out.mono ?_
  rintro e w2 ⟨rfl, hb⟩
  have HB2 : Hid (Below w.heap.size w w2) := Lib.hid (HB1.out.trans (hb.mono HB1.out.size))
  clear hb HL HB1
  obtain ⟨lt, hlt⟩ : ∃ b, lgt l 24 = b := ⟨_, rfl⟩
  rw [hlt]
  cases lt with
  | false =>
    clear hlt
    go_wp2
    go_ret
    exact ⟨rfl, HB2.out⟩
  | true =>
    obtain ⟨h8, hA24⟩ := lgt_true hlt
    have h24 : A0 ≤ 24 := by rw [HA0.out] at hA24; omega
    have HE1 := Lib.hid (events_any l _ w2 (HS.out.kept HB2.out) (by rw [HA0.out]; omega) HOK.out (fun e he => by have := h8 e he; omega))
    have HK := Lib.hid (evs_k (by rw [HA0.out]; omega) HOK.out h8)
    clear h8 hA24 hlt
    go_wp2_with (go_at_call 11; refine Hid.out ?_)
    refine Lib.hid ?_
    refine HE1.out.mono ?_
    rintro e w3 ⟨v3, rfl, hv3, hb⟩
    have HB3 : Hid (Below w.heap.size w w3) := Lib.hid (HB2.out.trans (hb.mono HB2.out.size))
    clear hb HE1
    obtain ⟨x, hx⟩ : ∃ x, evs l = x := ⟨_, rfl⟩
    have hxl : x.length = A0 := by rw [← hx, evs_len, HA0.out]
    rw [hx] at HK hv3
    have HXL := Lib.hid hxl
    obtain ⟨p3, c3, hve, hc3⟩ : ∃ p c, v3 = .slice p A0 c ∧ A0 ≤ c := by
      obtain ⟨p, c, h1, h2, _⟩ := id hv3
      rw [hxl] at h1 h2
      exact ⟨p, c, h1, h2⟩
    subst hve
    have HV3 := Lib.hid hv3
    have HXE := Lib.hid hx
    clear hv3 hx hxl
    have HF1 := Lib.hid (HF x _ w3 HV3.out HK.out)
    go_wp2_with (go_at_call 16; refine Hid.out ?_)
    refine Lib.hid ?_
    refine HF1.out.mono ?_
    rintro e w4 ⟨v4, rfl, hv4, hb⟩
    have HB4 : Hid (Below w.heap.size w w4) := Lib.hid (HB3.out.trans (hb.mono HB3.out.size))
    have HV34 := Lib.hid (HV3.out.kept hb)
    obtain ⟨f, hf⟩ : ∃ f, nf edep (·.1) x = f := ⟨_, rfl⟩
    have hfl : f.length = A0 := by rw [← hf, nf_len, HXL.out]
    have hkf : Evk f := by rw [← hf]; exact HK.out.nf
    have hff : nf edep (·.1) f = f := by rw [← hf]; exact nf_nf edep_refl edep_symm dep_thr x
    have htr : Tr edep f x := by rw [← hf]; exact (nf_tr x).symm edep_symm
    rw [hf] at hv4
    obtain ⟨p4, c4, hve, hc4⟩ : ∃ p c, v4 = .slice p A0 c ∧ A0 ≤ c := by
      obtain ⟨p, c, h1, h2, _⟩ := id hv4
      rw [hfl] at h1 h2
      exact ⟨p, c, h1, h2⟩
    subst hve
    have HV4 := Lib.hid hv4
    have HFL := Lib.hid hfl
    have HKF := Lib.hid hkf
    have HFF := Lib.hid hff
    have HTR := Lib.hid htr
    have HF2 := Lib.hid (HF f _ w4 hv4 hkf)
    clear hb HF1 hf hfl hkf hff htr hv4
    go_wp2_with (go_at_call 16; refine Hid.out ?_)
    refine Lib.hid ?_
    refine HF2.out.mono ?_
    rintro e w5 ⟨v5, rfl, hv5, hb⟩
    rw [HFF.out] at hv5
    have HV35 := Lib.hid (HV34.out.kept hb)
    have HV45 := Lib.hid (HV4.out.kept hb)
    have HB5 : Hid (Below w.heap.size w w5) := Lib.hid (HB4.out.trans (hb.mono HB4.out.size))
    have HEQ := equal_evs f f _ _ w5 hv5 HV45.out (Nat.le_trans HKF.out.1 (by omega)) (Nat.le_trans HKF.out.1 (by omega)) HKF.out.mk8 HKF.out.mk8
    rw [decide_eq_true rfl] at HEQ
    have HEQ := Lib.hid HEQ
    clear hb HF2 hv5
    go_wp2_with (go_at_call 15; refine Hid.out ?_)
    refine Lib.hid ?_
    refine HEQ.out.mono ?_
    rintro e w6 ⟨rfl, hb⟩
    have HV36 := Lib.hid (HV35.out.kept hb)
    have HV46 := Lib.hid (HV45.out.kept hb)
    have HB6 : Hid (Below w.heap.size w w6) := Lib.hid (HB5.out.trans (hb.mono HB5.out.size))
    have HSM := HSm f x _ _ w6 HV46.out HV36.out HKF.out HK.out
    rw [smb_iff.2 HTR.out] at HSM
    have HSM := Lib.hid HSM
    clear hb HEQ
    go_wp2_with (go_at_call 21; refine Hid.out ?_)
    refine Lib.hid ?_
    refine HSM.out.mono ?_
    rintro e w7 ⟨rfl, hb⟩
    have HV37 := Lib.hid (HV36.out.kept hb)
    have HV47 := Lib.hid (HV46.out.kept hb)
    have HB7 : Hid (Below w.heap.size w w7) := Lib.hid (HB6.out.trans (hb.mono HB6.out.size))
    have HI1 := HIn f _ w7 HV47.out HKF.out
    rw [ini_tr HTR.out] at HI1
    have HI1 := Lib.hid HI1
    clear hb HSM
    obtain ⟨B, hB⟩ : ∃ B, ini x = B := ⟨_, rfl⟩
    rw [hB] at HI1
    have HBI := Lib.hid hB
    clear hB
    go_wp2_with (go_at_call 29; refine Hid.out ?_)
    refine Lib.hid ?_
    refine HI1.out.mono ?_
    rintro e w8 ⟨rfl, hb⟩
    have HV38 := Lib.hid (HV37.out.kept hb)
    have HB8 : Hid (Below w.heap.size w w8) := Lib.hid (HB7.out.trans (hb.mono HB7.out.size))
    have HI2 := HIn x _ w8 HV38.out HK.out
    rw [HBI.out] at HI2
    have HI2 := Lib.hid HI2
    clear hb HI1
    go_wp2_with (go_at_call 29; refine Hid.out ?_)
    refine Lib.hid ?_
    refine HI2.out.mono ?_
    rintro e w9 ⟨rfl, hb⟩
    have HB9 : Hid (Below w.heap.size w w9) := Lib.hid (HB8.out.trans (hb.mono HB8.out.size))
    clear hb HI2
    go_wp2
    go_ret
    exact ⟨rfl, HB9.out⟩
end Go.Proofs.Ytmhaelfmojigoaa
