/- Law 11's fixed fact. -/
import Derived.Test.YtcbpkagegdfidaaGf
set_option linter.unusedSimpArgs false
set_option linter.unusedVariables false
namespace Go.Proofs.Ytcbpkagegdfidaa
open Go.RowKit

theorem mks_none (w : World) : MkS w (.slice Option.none 0 0) [] := by
  refine ⟨Option.none, 0, rfl, ?_⟩
  simp
def awx : Evl := [(0, []), (0, []), (1, [])]
theorem awx_k : Evk awx := by
  refine ⟨by decide, fun e he => ?_⟩
  simp [awx] at he
  rcases he with rfl | rfl <;> exact ⟨by decide, by decide, by decide⟩
theorem awx_01 : hbI awx 0 1 = true := by
  rw [show (0 : Int) = ((0 : Nat) : Int) from rfl, show (1 : Int) = ((1 : Nat) : Int) from rfl, hbI_nat]
  exact hbd_dep (a := (0, [])) (b := (0, [])) (by omega) rfl rfl rfl
theorem awx_02 : hbI awx 0 2 = false := by
  rw [show (0 : Int) = ((0 : Nat) : Int) from rfl, show (2 : Int) = ((2 : Nat) : Int) from rfl, hbI_nat, ← Bool.not_eq_true, hbd_iff]
  intro h
  obtain ⟨k, a, b, _, hk, ha, hb, hd⟩ := h.last
  have hb' : b = (1, []) := by simp [awx] at hb; exact hb.symm
  have ha' : a = (0, []) := by
    match k, hk, ha with
    | 0, _, ha => simp [awx] at ha; exact ha.symm
    | 1, _, ha => simp [awx] at ha; exact ha.symm
  rw [ha', hb'] at hd
  exact absurd hd (by decide)
theorem awx_10 : hbI awx 1 0 = false := hbI_neg (by omega)

set_option maxRecDepth 100000 in
set_option maxHeartbeats 8000000 in
theorem awO : AwO := by
  intro w
  have HN1 := Lib.hid (new_any 0 [] (.slice Option.none 0 0) w (mks_none w) (by simp))
  go_enter Try.func37, Try.ntmps37
  go_wp2_with (go_at_call 22; refine Hid.out ?_)
  refine Lib.hid ?_
  refine HN1.out.mono ?_
  rintro e w1 ⟨va, rfl, hva, hb1⟩
  have HB1 := Lib.hid hb1
  have HA := Lib.hid hva
  have HN2 := Lib.hid (new_any 0 [] (.slice Option.none 0 0) w1 (mks_none w1) (by simp))
  clear hb1 hva HN1
  go_wp2_with (go_at_call 22; refine Hid.out ?_)
  refine Lib.hid ?_
  refine HN2.out.mono ?_
  rintro e w2 ⟨vb, rfl, hvb, hb2⟩
  have HB2 := Lib.hid (HB1.out.trans (hb2.mono HB1.out.size))
  have HA2 := Lib.hid (HA.out.kept hb2)
  have HB := Lib.hid hvb
  have HN3 := Lib.hid (new_any 1 [] (.slice Option.none 0 0) w2 (mks_none w2) (by simp))
  clear hb2 hvb HN2 HA HB1
  go_wp2_with (go_at_call 22; refine Hid.out ?_)
  refine Lib.hid ?_
  refine HN3.out.mono ?_
  rintro e w3 ⟨vc, rfl, hvc, hb3⟩
  have HB3 := Lib.hid (HB2.out.trans (hb3.mono HB2.out.size))
  have hva := HA2.out.kept hb3
  have hvb := HB.out.kept hb3
  rw [show nrm [] = [] from List.eq_nil_of_length_eq_zero (Nat.le_zero.1 (nrm_len []))] at hva hvb hvc
  obtain ⟨pa, ca, rfl, _⟩ := id hva
  obtain ⟨pb, cb, rfl, _⟩ := id hvb
  obtain ⟨pc, cc, rfl, _⟩ := id hvc
  rw [show ([] : List (Int × Bool)).length = 0 from rfl] at *
  have hba := below_alloc w3 (Obj.cells #[Value.int .i64 0, Value.slice pa 0 ca, Value.int .i64 0, Value.slice pb 0 cb, Value.int .i64 1, Value.slice pc 0 cc] 38)
  have hga := heap_alloc_new w3 (Obj.cells #[Value.int .i64 0, Value.slice pa 0 ca, Value.int .i64 0, Value.slice pb 0 cb, Value.int .i64 1, Value.slice pc 0 cc] 38)
  have hev : EvS (w3.alloc (Obj.cells #[Value.int .i64 0, Value.slice pa 0 ca, Value.int .i64 0, Value.slice pb 0 cb, Value.int .i64 1, Value.slice pc 0 cc] 38)) (.slice (some ⟨w3.heap.size, 0, Option.none⟩) 3 3) awx := by
    refine ⟨_, 3, rfl, by decide, by unfold maxLen; omega, .inr ⟨w3.heap.size, 0, rfl, by simp, fun i e he => ?_⟩⟩
    match i, he with
    | 0, he =>
      simp [awx] at he; subst he
      exact ⟨by rw [cell_of_row _ _ _ _ _ _ hga]; rfl, .slice pa 0 ca, by rw [cell_of_row _ _ _ _ _ _ hga]; rfl, hva.kept hba⟩
    | 1, he =>
      simp [awx] at he; subst he
      exact ⟨by rw [cell_of_row _ _ _ _ _ _ hga]; rfl, .slice pb 0 cb, by rw [cell_of_row _ _ _ _ _ _ hga]; rfl, hvb.kept hba⟩
    | 2, he =>
      simp [awx] at he; subst he
      exact ⟨by rw [cell_of_row _ _ _ _ _ _ hga]; rfl, .slice pc 0 cc, by rw [cell_of_row _ _ _ _ _ _ hga]; rfl, hvc.kept hba⟩
    | n + 3, he => simp [awx] at he
  have HN := Lib.hid (newO awx _ _ hev awx_k)
  have HB4 := Lib.hid (HB3.out.trans (hba.mono HB3.out.size))
  clear hga hev hba hb3 hva hvb hvc HB HA2 HB2 HN3
  go_wp2_with (go_at_call 25; refine Hid.out ?_)
  refine Lib.hid ?_
  refine HN.out.mono ?_
  rintro e w5 ⟨v', rfl, ⟨po, mo, co, rfl, ho⟩, hb⟩
  have HB5 := Lib.hid (HB4.out.trans (hb.mono HB4.out.size))
  have hba := below_alloc w5 (Obj.cells #[Value.slice po mo co] 58)
  have hga := heap_alloc_new w5 (Obj.cells #[Value.slice po mo co] 58)
  have HO := Lib.hid (kpO _ _ _ _ ho hba)
  have c0 : ∀ W, Below (w5.alloc (Obj.cells #[Value.slice po mo co] 58)).heap.size (w5.alloc (Obj.cells #[Value.slice po mo co] 58)) W → W.cell? ⟨w5.heap.size, 0, Option.none⟩ = some (.slice po mo co) := fun W k => by
    rw [cell_of_row _ _ _ _ _ _ ((k.block _ (by simp)).trans hga)]; rfl
  have HC0 := Lib.hid c0
  have HB6 := Lib.hid (HB5.out.trans (hba.mono HB5.out.size))
  have hc1 := befO awx po mo co 0 1 _ HO.out awx_k
  rw [awx_01] at hc1
  have d0 := c0 _ (Below.refl _ _)
  have HC1 := Lib.hid hc1
  clear c0 hga hba hb ho hc1 HN HB4 HB3
  go_wp2_with (go_at_call 27; refine Hid.out ?_)
  refine Lib.hid ?_
  refine HC1.out.mono ?_
  rintro e w6 ⟨rfl, hb⟩
  have HK6 := Lib.hid hb
  have d1 := HC0.out _ hb
  have hc2 := befO awx po mo co 0 2 w6 (kpO _ _ _ _ HO.out hb) awx_k
  rw [awx_02] at hc2
  have HC2 := Lib.hid hc2
  clear hb hc2 d0
  go_wp2_with (go_at_call 27; refine Hid.out ?_)
  refine Lib.hid ?_
  refine HC2.out.mono ?_
  rintro e w7 ⟨rfl, hb⟩
  have HK7 := Lib.hid (HK6.out.trans (hb.mono HK6.out.size))
  have d2 := HC0.out _ HK7.out
  have hc3 := befO awx po mo co 1 0 w7 (kpO _ _ _ _ HO.out HK7.out) awx_k
  rw [awx_10] at hc3
  have HC3 := Lib.hid hc3
  clear hb hc3 d1
  go_wp2_with (go_at_call 27; refine Hid.out ?_)
  refine Lib.hid ?_
  refine HC3.out.mono ?_
  rintro e w8 ⟨rfl, hb⟩
  have HK8 := Lib.hid (HK7.out.trans (hb.mono HK7.out.size))
  have HAW := Lib.hid (awake_any w8)
  clear hb
  go_wp2_with (go_at_call 51; refine Hid.out ?_)
  refine Lib.hid ?_
  refine HAW.out.mono ?_
  rintro e w9 ⟨rfl, hb⟩
  have HK9 := Lib.hid (HB6.out.trans ((HK8.out.trans (hb.mono HK8.out.size)).mono HB6.out.size))
  clear hb
  go_wp2
  go_ret
  exact ⟨rfl, HK9.out⟩
end Go.Proofs.Ytcbpkagegdfidaa
