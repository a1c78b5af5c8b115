/- Law 12's fixed fact. -/
import Derived.Test.YtcbpkagegdfidaaGw
import Derived.Test.YtcbpkagegdfidaaZj
import Derived.Test.YtcbpkagegdfidaaZn
import Derived.Test.YtcbpkagegdfidaaEi
set_option linter.unusedSimpArgs false
set_option linter.unusedVariables false
namespace Go.Proofs.Ytcbpkagegdfidaa
open Go.RowKit

def awy : Evl := [(2, []), (1, [])]
theorem awy_k : Evk awy := by
  refine ⟨by decide, fun e he => ?_⟩
  simp [awy] at he
  rcases he with rfl | rfl <;> exact ⟨by decide, by decide, by decide⟩
theorem awy_k1 : Evk [(2, [])] := by
  refine ⟨by decide, fun e he => ?_⟩
  simp at he
  subst he
  exact ⟨by decide, by decide, by decide⟩
theorem awy_ini : ini [(2, [])] = 4 := by rfl
theorem awy_nf : nfI edep (·.1) awy = [1, 0] := by decide

set_option maxRecDepth 100000 in
set_option maxHeartbeats 8000000 in
theorem awB : AwB := by
  intro w
  have HN1 := Lib.hid (new_any 2 [] (.slice Option.none 0 0) w (mks_none w) (by simp))
  go_enter Try.func23, Try.ntmps23
  go_wp2_with (go_at_call 22; refine Hid.out ?_)
  refine Lib.hid ?_
  refine HN1.out.mono ?_
  rintro e w1 ⟨va, rfl, hva, hb1⟩
  have HB1 := Lib.hid hb1
  have HA := Lib.hid hva
  have HN2 := Lib.hid (new_any 1 [] (.slice Option.none 0 0) w1 (mks_none w1) (by simp))
  clear hb1 hva HN1
  go_wp2_with (go_at_call 22; refine Hid.out ?_)
  refine Lib.hid ?_
  refine HN2.out.mono ?_
  rintro e w2 ⟨vb, rfl, hvb, hb2⟩
  have HB2 := Lib.hid (HB1.out.trans (hb2.mono HB1.out.size))
  have hva := HA.out.kept hb2
  rw [show nrm [] = [] from List.eq_nil_of_length_eq_zero (Nat.le_zero.1 (nrm_len []))] at hva hvb
  obtain ⟨pa, ca, rfl, _⟩ := id hva
  obtain ⟨pb, cb, rfl, _⟩ := id hvb
  rw [show ([] : List (Int × Bool)).length = 0 from rfl] at *
  have hba := below_alloc w2 (Obj.cells #[Value.int .i64 2, Value.slice pa 0 ca, Value.int .i64 1, Value.slice pb 0 cb] 38)
  have hga := heap_alloc_new w2 (Obj.cells #[Value.int .i64 2, Value.slice pa 0 ca, Value.int .i64 1, Value.slice pb 0 cb] 38)
  have hev : EvS (w2.alloc (Obj.cells #[Value.int .i64 2, Value.slice pa 0 ca, Value.int .i64 1, Value.slice pb 0 cb] 38)) (.slice (some ⟨w2.heap.size, 0, Option.none⟩) 2 2) awy := by
    refine ⟨_, 2, rfl, by decide, by unfold maxLen; omega, .inr ⟨w2.heap.size, 0, rfl, by simp, fun i e he => ?_⟩⟩
    match i, he with
    | 0, he =>
      simp [awy] at he; subst he
      exact ⟨by rw [cell_of_row _ _ _ _ _ _ hga]; rfl, .slice pa 0 ca, by rw [cell_of_row _ _ _ _ _ _ hga]; rfl, hva.kept hba⟩
    | 1, he =>
      simp [awy] at he; subst he
      exact ⟨by rw [cell_of_row _ _ _ _ _ _ hga]; rfl, .slice pb 0 cb, by rw [cell_of_row _ _ _ _ _ _ hga]; rfl, hvb.kept hba⟩
    | n + 2, he => simp [awy] at he
  have hI := initials_o [(2, [])] _ _ (hev.pre (J := 1) (by decide)) awy_k1
  rw [awy_ini] at hI
  have HI := Lib.hid hI
  have HEV := Lib.hid hev
  have HB4 := Lib.hid (HB2.out.trans (hba.mono HB2.out.size))
  clear hga hev hba hb2 hva hvb HA HB1 HN2 hI
  go_wp2_with (go_at_call 35; refine Hid.out ?_)
  refine Lib.hid ?_
  refine HI.out.mono ?_
  rintro e w5 ⟨rfl, hb⟩
  have HB5 := Lib.hid (HB4.out.trans (hb.mono HB4.out.size))
  have HNO := Lib.hid (normal_o awy _ _ (HEV.out.kept hb) awy_k)
  clear hb HI HB4 HEV HB2
  go_wp2_with (go_at_call 36; refine Hid.out ?_)
  refine Lib.hid ?_
  refine HNO.out.mono ?_
  rintro e w6 ⟨v6, rfl, hn6, _, hb⟩
  have HB6 := Lib.hid (HB5.out.trans (hb.mono HB5.out.size))
  rw [awy_nf] at hn6
  have hba := below_alloc w6 (Obj.cells #[Value.int .i64 1, Value.int .i64 0] 3)
  have hga := heap_alloc_new w6 (Obj.cells #[Value.int .i64 1, Value.int .i64 0] 3)
  have hns : NsS (w6.alloc (Obj.cells #[Value.int .i64 1, Value.int .i64 0] 3)) (.slice (some ⟨w6.heap.size, 0, Option.none⟩) 2 2) [1, 0] := by
    refine ⟨_, 2, rfl, by decide, .inr ⟨w6.heap.size, 0, rfl, by simp, fun i n hi => ?_⟩⟩
    match i, hi with
    | 0, hi => simp at hi; subst hi; rw [cell_of_row _ _ _ _ _ _ hga]; rfl
    | 1, hi => simp at hi; subst hi; rw [cell_of_row _ _ _ _ _ _ hga]; rfl
    | n + 2, hi => simp at hi
  have hE := equal_ns _ _ _ _ _ (hn6.kept hba) hns (by decide) (by decide)
  rw [decide_eq_true rfl] at hE
  have HE := Lib.hid hE
  have HB7 := Lib.hid (HB6.out.trans (hba.mono HB6.out.size))
  obtain ⟨p6, c6, rfl, _⟩ := id hn6
  rw [show ([1, 0] : List Nat).length = 2 from rfl] at *
  clear hn6 hb hba hga hns hE HNO HB5 HB6
  go_wp2_with (go_at_call 21; refine Hid.out ?_)
  refine Lib.hid ?_
  refine HE.out.mono ?_
  rintro e w8 ⟨rfl, hb⟩
  have HB8 := Lib.hid (HB7.out.trans (hb.mono HB7.out.size))
  have HAW := Lib.hid (awO w8)
  clear hb HE HB7
  go_wp2_with (go_at_call 37; refine Hid.out ?_)
  refine Lib.hid ?_
  refine HAW.out.mono ?_
  rintro e w9 ⟨rfl, hb⟩
  have HB9 := Lib.hid (HB8.out.trans (hb.mono HB8.out.size))
  clear hb
  go_wp2
  go_ret
  exact ⟨rfl, HB9.out⟩
end Go.Proofs.Ytcbpkagegdfidaa
