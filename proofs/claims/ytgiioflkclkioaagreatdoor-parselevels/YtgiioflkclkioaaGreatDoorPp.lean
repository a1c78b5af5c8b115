/- gauss.Parse: of any text, the number whose Text it is, or none. -/
import Derived.Test.YtgiioflkclkioaaGreatDoorPr
set_option linter.unusedSimpArgs false
set_option linter.unusedVariables false
namespace Go.Proofs.YtgiioflkclkioaaGreatDoor
open Go.RowKit Ieee

/-- Of any text: the number whose text it is, and true; or nought, and false, if there is none. -/
def Pp (w : World) (l : List UInt8) (e : Ending) (w' : World) : Prop :=
  ((∃ r i : Int, Bd 1048576 r ∧ Bd 1048576 i ∧ l = txt r i ∧ (∀ r' i', Bd 1048576 r' → Bd 1048576 i' → l = txt r' i' → r' = r ∧ i' = i) ∧ e = .returned (.tuple #[.complex .f64 (fl false r) (fl false i), .bool true])) ∨
   ((∀ r i, Bd 1048576 r → Bd 1048576 i → l ≠ txt r i) ∧ e = .returned (.tuple #[.complex .f64 0 0, .bool false]))) ∧ Below w.heap.size w w'

set_option maxRecDepth 100000 in
set_option maxHeartbeats 3200000 in
theorem parse_any (l : List UInt8) (hl : l.length ≤ 16384) (w : World) (hb : Lb w) : Calls Tryz.prog 139 #[.string ⟨l.toArray⟩] w (Pp w l) := by
  have hp := parts_any l hl w hb.ut
  have HB := Lib.hid hb
  clear hb
  go_enter Tryz.func139, Tryz.ntmps139
  go_wp2_with (go_at_call 164; refine Hid.out ?_)
  refine Lib.hid ?_
  refine hp.mono ?_
  rintro e w1 ⟨a, b, rfl, ha, hb', hpart, k1⟩
  have HP := Lib.hid hpart
  have K1 := Lib.hid k1
  clear hp hpart k1
  have hwa := whole_text a ha w1 (HB.out.on K1.out)
  go_wp2_with (go_at_call 165; refine Hid.out ?_)
  refine Lib.hid ?_
  refine hwa.mono ?_
  rintro e w2 ⟨v1, ok1, rfl, r1, r2, hv1, k2⟩
  have V1 := Lib.hid hv1
  have K2 := Lib.hid (below_trans3 K1.out k2)
  clear hwa hv1 k2
  have hwb := whole_text b hb' w2 (HB.out.on K2.out)
  go_wp2_with (go_at_call 165; refine Hid.out ?_)
  refine Lib.hid ?_
  refine hwb.mono ?_
  rintro e w3 ⟨v2, ok2', rfl, r3, r4, hv2, k3⟩
  have V2 := Lib.hid hv2
  have K3 := Lib.hid (below_trans3 K2.out k3)
  clear hwb hv2 k3 K1 K2
  have VV : Hid (∀ r i, Bd 1048576 r → Bd 1048576 i → l = txt r i → ok1 = true ∧ ok2' = true ∧ v1 = r ∧ v2 = i) := Lib.hid (fun r i hr hi e => by
    obtain ⟨e1, e2⟩ := HP.out r i hr hi e
    exact ⟨(V1.out r e1).1, (V2.out i e2).1, (V1.out r e1).2, (V2.out i e2).2⟩)
  clear V1 V2 HP
  cases ok1 with
  | false =>
    have N : Hid (∀ r i, Bd 1048576 r → Bd 1048576 i → l ≠ txt r i) := Lib.hid (fun r i hr hi e => by have := (VV.out r i hr hi e).1; cases this)
    clear VV
    go_wp2
    go_ret2
    exact ⟨.inr ⟨N.out, rfl⟩, K3.out⟩
  | true =>
    cases ok2' with
    | false =>
      have N : Hid (∀ r i, Bd 1048576 r → Bd 1048576 i → l ≠ txt r i) := Lib.hid (fun r i hr hi e => by have := (VV.out r i hr hi e).2.1; cases this)
      clear VV
      go_wp2
      go_ret2
      exact ⟨.inr ⟨N.out, rfl⟩, K3.out⟩
    | true =>
      have U : Hid (∀ r i, Bd 1048576 r → Bd 1048576 i → l = txt r i → r = v1 ∧ i = v2) := Lib.hid (fun r i hr hi e => ⟨(VV.out r i hr hi e).2.2.1.symm, (VV.out r i hr hi e).2.2.2.symm⟩)
      clear VV
      have hfit := fits_raw (fl false v1) (fl false v2)
      cases hq : (pf (fl false v1) && pf (fl false v2)) with
      | false =>
        have N : Hid (∀ r i, Bd 1048576 r → Bd 1048576 i → l ≠ txt r i) := Lib.hid (fun r i hr hi e => by
          obtain ⟨rfl, rfl⟩ := U.out r i hr hi e
          rw [pf_fl false (hr.sm (by decide)), pf_fl false (hi.sm (by decide)), okI_of hr, okI_of hi] at hq
          cases hq)
        rw [hq] at hfit
        clear hq U
        go_wp2_with (go_at_call 166; refine (hfit _).mono ?_; rintro e w' ⟨rfl, rfl⟩)
        go_ret2
        exact ⟨.inr ⟨N.out, rfl⟩, K3.out⟩
      | true =>
        obtain ⟨q1, q2⟩ := Bool.and_eq_true_iff.1 hq
        have B1 := pf_int r1 r2 q1
        have B2 := pf_int r3 r4 q2
        rw [hq] at hfit
        have htx := text_any false false (B1.sm (by decide)) (B2.sm (by decide)) (ok2_of B1 B2) w3 (HB.out.on K3.out).tb
        clear hq q1 q2 HB
        by_cases he : txt v1 v2 = l
        · have hbe : (l != l) = false := by simp
          rw [he] at htx
          have HE := Lib.hid he.symm
          clear he
          go_wp2_with (first
            | (go_at_call 166; refine (hfit _).mono ?_; rintro e w' ⟨rfl, rfl⟩)
            | (go_at_call 167; refine Hid.out ?_))
          refine Lib.hid ?_
          refine htx.mono ?_
          rintro e w4 ⟨rfl, k4⟩
          have K4 := Lib.hid (below_trans3 K3.out k4)
          clear k4 htx hfit
          go_wp2
          go_ret2
          exact ⟨.inl ⟨v1, v2, B1, B2, HE.out, U.out, rfl⟩, K4.out⟩
        · have N : Hid (∀ r i, Bd 1048576 r → Bd 1048576 i → l ≠ txt r i) := Lib.hid (fun r i hr hi e => by
            obtain ⟨rfl, rfl⟩ := U.out r i hr hi e
            exact he e.symm)
          have hbe : (txt v1 v2 == l) = false := by simpa using he
          clear U he
          generalize txt v1 v2 = t at *
          go_wp2_with (first
            | (go_at_call 166; refine (hfit _).mono ?_; rintro e w' ⟨rfl, rfl⟩)
            | (go_at_call 167; refine Hid.out ?_))
          refine Lib.hid ?_
          refine htx.mono ?_
          rintro e w4 ⟨rfl, k4⟩
          have K4 := Lib.hid (below_trans3 K3.out k4)
          clear k4 htx hfit
          go_wp2
          go_ret2
          exact ⟨.inr ⟨N.out, rfl⟩, K4.out⟩
end Go.Proofs.YtgiioflkclkioaaGreatDoor
