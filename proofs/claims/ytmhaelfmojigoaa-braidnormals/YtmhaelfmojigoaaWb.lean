/- BraidNormals: in which order events come; the events in it. -/
import Derived.Test.YtmhaelfmojigoaaCn
import Derived.Test.YtmhaelfmojigoaaEi
set_option linter.unusedSimpArgs false
set_option linter.unusedVariables false
namespace Go.Proofs.Ytmhaelfmojigoaa
open Go.RowKit

theorem NsS.form {w : World} {v : Value} {L : List Nat} (h : NsS w v L) : ∃ p cap, v = .slice p L.length cap := by
  obtain ⟨p, cap, h1, _⟩ := h
  exact ⟨p, cap, h1⟩
set_option maxRecDepth 100000 in
set_option maxHeartbeats 16000000 in
theorem normals_any (HAw : AwB) (HN : NormC) (HF : FormC) (l : Evl) (v : Value) (w : World) (hs : ES w v l) (hok : eok l) (hl : l.length ≤ 9223372036854775807) : Calls Try.prog 3 #[v] w fun e w' => e = .returned (.bool true) ∧ Below w.heap.size w w' := by
  obtain ⟨p0, cap0, rfl, hcap0⟩ := hs.form
  obtain ⟨A0, hA0⟩ : ∃ A, l.length = A := ⟨_, rfl⟩
  have HS := Lib.hid hs
  rw [hA0] at HS hcap0 hl ⊢
  have HA0 := Lib.hid hA0
  have HOK := Lib.hid hok
  clear hs hA0 hok
  go_enter Try.func3, Try.ntmps3
  go_wp2_with (go_at_call 9; refine Hid.out ?_)
  refine Lib.hid ?_
  refine (HAw _).mono ?_
  rintro e w1 ⟨rfl, hb⟩
  have HB1 := Lib.hid hb
  clear hb
  have HLT := light_any l 24 _ w1 (HS.out.kept HB1.out) (by rw [HA0.out]; exact hl)
  rw [show (l.all (fun e => decide (e.2.length ≤ 8)) && decide ((l.length : Int) ≤ 24)) = lgt l 24 from rfl] at HLT
  have HL := Lib.hid HLT
  clear HLT
  go_wp2_with (go_at_call 10; refine Hid.out ?_)
  refine Lib.hid ?_
  refine HL.out.mono ?_
  rintro e w2 ⟨rfl, hb⟩
  have HB2 : Hid (Below w.heap.size w w2) := Lib.hid (HB1.out.trans (hb.mono HB1.out.size))
  clear hb HL HB1
  obtain ⟨lt, hlt⟩ : ∃ b, lgt l 24 = b := ⟨_, rfl⟩
  rw [hlt]
  cases lt with
  | false =>
    clear hlt
    go_wp2
    go_ret
    exact ⟨rfl, HB2.out⟩
  | true =>
    obtain ⟨h8, hA24⟩ := lgt_true hlt
    have h24 : A0 ≤ 24 := by rw [HA0.out] at hA24; omega
    have HE1 := Lib.hid (events_any l _ w2 (HS.out.kept HB2.out) (by rw [HA0.out]; omega) HOK.out (fun e he => by have := h8 e he; omega))
    have HK := Lib.hid (evs_k (by rw [HA0.out]; omega) HOK.out h8)
    clear h8 hA24 hlt
    go_wp2_with (go_at_call 11; refine Hid.out ?_)
    refine Lib.hid ?_
    refine HE1.out.mono ?_
    rintro e w3 ⟨v3, rfl, hv3, hb⟩
    have HB3 : Hid (Below w.heap.size w w3) := Lib.hid (HB2.out.trans (hb.mono HB2.out.size))
    clear hb HE1
    obtain ⟨x, hx⟩ : ∃ x, evs l = x := ⟨_, rfl⟩
    have hxl : x.length = A0 := by rw [← hx, evs_len, HA0.out]
    rw [hx] at HK hv3
    have HXL := Lib.hid hxl
    obtain ⟨p3, c3, hve, hc3⟩ : ∃ p c, v3 = .slice p A0 c ∧ A0 ≤ c := by
      obtain ⟨p, c, h1, h2, _⟩ := id hv3
      rw [hxl] at h1 h2
      exact ⟨p, c, h1, h2⟩
    subst hve
    have HV3 := Lib.hid hv3
    have HXE := Lib.hid hx
    clear hv3 hx hxl
    have hxl : x.length ≤ 1000 := by rw [HXL.out]; omega
    have HXM := Lib.hid hxl
    clear hxl
    have HN1 := Lib.hid (HN x _ w3 HV3.out HK.out)
    go_wp2_with (go_at_call 13; refine Hid.out ?_)
    refine Lib.hid ?_
    refine HN1.out.mono ?_
    rintro e w4 ⟨v4, rfl, hv4, hb⟩
    have HB4 : Hid (Below w.heap.size w w4) := Lib.hid (HB3.out.trans (hb.mono HB3.out.size))
    have HV34 := Lib.hid (HV3.out.kept hb)
    obtain ⟨p4, c4, hve⟩ := hv4.form
    have hnl : (nfI edep (·.1) x).length = A0 := by rw [nfI_len, HXL.out]
    rw [hnl] at hve
    subst hve
    have HV4 := Lib.hid hv4
    have HNL := Lib.hid hnl
    have HN2 := Lib.hid (normal_any x _ w4 HV34.out HXM.out HK.out.mk8)
    clear hb HN1 hv4 hnl
    go_wp2_with (go_at_call 14; refine Hid.out ?_)
    refine Lib.hid ?_
    refine HN2.out.mono ?_
    rintro e w5 ⟨v5, rfl, hv5, hb⟩
    rw [nfi_is] at hv5
    have HB5 : Hid (Below w.heap.size w w5) := Lib.hid (HB4.out.trans (hb.mono HB4.out.size))
    have HV35 := Lib.hid (HV34.out.kept hb)
    have HEQ := equal_ns _ _ _ _ w5 (HV4.out.kept hb) hv5 (by rw [HNL.out]; omega) (by rw [HNL.out]; omega)
    rw [decide_eq_true rfl] at HEQ
    obtain ⟨p5, c5, hve⟩ := hv5.form
    rw [HNL.out] at hve
    subst hve
    have HEQ := Lib.hid HEQ
    clear hb HN2 hv5
    go_wp2_with (go_at_call 12; refine Hid.out ?_)
    refine Lib.hid ?_
    refine HEQ.out.mono ?_
    rintro e w6 ⟨rfl, hb⟩
    have HB6 : Hid (Below w.heap.size w w6) := Lib.hid (HB5.out.trans (hb.mono HB5.out.size))
    have HV36 := Lib.hid (HV35.out.kept hb)
    have HF1 := Lib.hid (HF x _ w6 HV36.out HK.out)
    clear hb HEQ
    go_wp2_with (go_at_call 16; refine Hid.out ?_)
    refine Lib.hid ?_
    refine HF1.out.mono ?_
    rintro e w7 ⟨v7, rfl, hv7, hb⟩
    have HB7 : Hid (Below w.heap.size w w7) := Lib.hid (HB6.out.trans (hb.mono HB6.out.size))
    have HV37 := Lib.hid (HV36.out.kept hb)
    have HV7 := Lib.hid hv7
    have HF2 := Lib.hid (form_any x _ w7 HV37.out HXM.out HK.out.mk8)
    obtain ⟨p7, c7, hve⟩ : ∃ p c, v7 = .slice p A0 c := by
      obtain ⟨p, c, h1, _⟩ := id hv7
      rw [nf_len, HXL.out] at h1
      exact ⟨p, c, h1⟩
    subst hve
    clear hb HF1 hv7
    go_wp2_with (go_at_call 17; refine Hid.out ?_)
    refine Lib.hid ?_
    refine HF2.out.mono ?_
    rintro e w8 ⟨v8, rfl, hv8, hb⟩
    have HB8 : Hid (Below w.heap.size w w8) := Lib.hid (HB7.out.trans (hb.mono HB7.out.size))
    have hkn := HK.out.nf
    have HE2 := equal_evs _ _ _ _ w8 (HV7.out.kept hb) hv8 (Nat.le_trans hkn.1 (by omega)) (Nat.le_trans hkn.1 (by omega)) hkn.mk8 hkn.mk8
    rw [decide_eq_true rfl] at HE2
    have HE2 := Lib.hid HE2
    clear hb HF2 hv8 hkn
    go_wp2_with (go_at_call 15; refine Hid.out ?_)
    refine Lib.hid ?_
    refine HE2.out.mono ?_
    rintro e w9 ⟨rfl, hb⟩
    have HB9 : Hid (Below w.heap.size w w9) := Lib.hid (HB8.out.trans (hb.mono HB8.out.size))
    clear hb HE2
    go_wp2
    go_ret
    exact ⟨rfl, HB9.out⟩
end Go.Proofs.Ytmhaelfmojigoaa
