/- RaceSwaps: two neighbours that don't depend on one another, exchanged: as many races, between the same events. -/
import Derived.Test.YtcbpkagegdfidaaWf
import Derived.Deep.RegionHeld3
import Derived.BigRegion
set_option linter.unusedSimpArgs false
set_option linter.unusedVariables false
namespace Go.Proofs.Ytcbpkagegdfidaa
open Go.RowKit

set_option maxHeartbeats 2000000 in
/-- The closure turn: where an event stands behind the exchange. -/
theorem turn51 (i k : Nat) (hi : i ≤ 100000) (hk : k ≤ 100000) (b : Nat) (w : World) (h0 : w.cell? ⟨b, 0, Option.none⟩ = some (.int .i64 (k : Int))) :
    Calls Try.prog 19 #[.int .i64 (i : Int), .pointer (some ⟨b, 0, Option.none⟩)] w fun e w' => e = .returned (.int .i64 (trn k i : Nat)) ∧ w' = w := by
  have hw : IntKind.i64.wrap ((k : Int) + 1) = (k : Int) + 1 := by rw [IntKind.wrap_i64]; omega
  by_cases h1 : i = k
  · subst h1
    have ht : trn i i = i + 1 := by unfold trn; rw [if_pos rfl]
    rw [ht]
    go_enter Try.func19, Try.ntmps19
    go_wp2
    go_ret
    exact ⟨by go_num, rfl⟩
  · have h1' : ¬ (i : Int) = (k : Int) := by omega
    have h1b : ((i : Int) == (k : Int)) = false := by rw [beq_eq_false_iff_ne]; omega
    by_cases h2 : i = k + 1
    · subst h2
      have ht : trn k (k + 1) = k := by unfold trn; rw [if_neg (by omega), if_pos rfl]
      have h3 : (((k + 1 : Nat) : Int) == (k : Int) + 1) = true := by rw [beq_iff_eq]; omega
      have h4 : ((k + 1 : Nat) : Int) = (k : Int) + 1 := by omega
      rw [ht]
      go_enter Try.func19, Try.ntmps19
      go_wp2
      go_ret
      exact ⟨rfl, rfl⟩
    · have h2' : ¬ (i : Int) = (k : Int) + 1 := by omega
      have h2b : ((i : Int) == (k : Int) + 1) = false := by rw [beq_eq_false_iff_ne]; omega
      have ht : trn k i = i := by unfold trn; rw [if_neg h1, if_neg h2]
      rw [ht]
      go_enter Try.func19, Try.ntmps19
      go_wp2
      go_ret
      exact ⟨rfl, rfl⟩
theorem eg51h : ∀ args w, (callFunc 19 args).run Try.prog w = .ok (.enter 19 args) w := enters_of Try.func19 (by kernel_rfl) rfl
set_option maxRecDepth 100000 in
set_option maxHeartbeats 16000000 in
theorem raceSwaps_any (HAw : AwC) (HRA : AllC) (l : Evl) (n8 : Nat) (hn8 : n8 < 256) (v : Value) (w : World) (hs : ES w v l) (hok : eok l) (hl : l.length ≤ 9223372036854775807) : Calls Try.prog 5 #[v, .int .u8 (n8 : Int)] w fun e w' => e = .returned (.bool true) ∧ Below w.heap.size w w' := by
  obtain ⟨p0, cap0, rfl, hcap0⟩ := hs.form
  obtain ⟨A0, hA0⟩ : ∃ A, l.length = A := ⟨_, rfl⟩
  have HS := Lib.hid hs
  rw [hA0] at HS hcap0 hl ⊢
  have HA0 := Lib.hid hA0
  have HOK := Lib.hid hok
  clear hs hA0 hok
  go_enter Try.func5, Try.ntmps5
  go_wp2_with (go_at_call 7; refine Hid.out ?_)
  refine Lib.hid ?_
  refine (HAw _).mono ?_
  rintro e w1 ⟨rfl, hb⟩
  have HB1 := Lib.hid hb
  clear hb
  have HLT := light_any l 20 _ w1 (HS.out.kept HB1.out) (by rw [HA0.out]; exact hl)
  rw [show (l.all (fun e => decide (e.2.length ≤ 8)) && decide ((l.length : Int) ≤ 20)) = lgt l 20 from rfl] at HLT
  have HL := Lib.hid HLT
  clear HLT
  go_wp2_with (go_at_call 8; refine Hid.out ?_)
  refine Lib.hid ?_
  refine HL.out.mono ?_
  rintro e w2 ⟨rfl, hb⟩
  have HB2 : Hid (Below w.heap.size w w2) := Lib.hid (HB1.out.trans (hb.mono HB1.out.size))
  clear hb HL HB1
  obtain ⟨lt, hlt⟩ : ∃ b, lgt l 20 = b := ⟨_, rfl⟩
  rw [hlt]
  cases lt with
  | false =>
    clear hlt
    go_wp2
    go_ret
    exact ⟨rfl, HB2.out⟩
  | true =>
    obtain ⟨h8, hA24⟩ := lgt_true hlt
    have h24 : A0 ≤ 20 := by rw [HA0.out] at hA24; omega
    have HE1 := Lib.hid (events_any l _ w2 (HS.out.kept HB2.out) (by rw [HA0.out]; omega) HOK.out (fun e he => by have := h8 e he; omega))
    have HK := Lib.hid (evs_k (by rw [HA0.out]; omega) HOK.out h8)
    clear h8 hA24 hlt
    by_cases hA2 : A0 < 2
    · have hA2' : (A0 : Int) < 2 := by omega
      clear HE1
      go_wp2
      go_ret
      exact ⟨rfl, HB2.out⟩
    have hA2' : ¬ (A0 : Int) < 2 := by omega
    go_wp2_with (go_at_call 9; refine Hid.out ?_)
    refine Lib.hid ?_
    refine HE1.out.mono ?_
    rintro e w3 ⟨v3, rfl, hv3, hb⟩
    have HB3 : Hid (Below w.heap.size w w3) := Lib.hid (HB2.out.trans (hb.mono HB2.out.size))
    clear hb HE1
    obtain ⟨x, hx⟩ : ∃ x, evs l = x := ⟨_, rfl⟩
    have hxl : x.length = A0 := by rw [← hx, evs_len, HA0.out]
    rw [hx] at HK hv3
    have HXL := Lib.hid hxl
    obtain ⟨p3, c3, hve, hc3⟩ : ∃ p c, v3 = .slice p A0 c ∧ A0 ≤ c := by
      obtain ⟨p, c, h1, h2, _⟩ := id hv3
      rw [hxl] at h1 h2
      exact ⟨p, c, h1, h2⟩
    subst hve
    have HV3 := Lib.hid hv3
    have HXE := Lib.hid hx
    clear hv3 hx hxl
    have hw8 : IntKind.i64.wrap (n8 : Int) = (n8 : Int) := by rw [IntKind.wrap_i64]; omega
    have hwm : IntKind.i64.wrap ((A0 : Int) - 1) = (A0 : Int) - 1 := by rw [IntKind.wrap_i64]; omega
    have hm0 : ¬ (A0 : Int) - 1 = 0 := by omega
    have hrm : (n8 : Int).tmod ((A0 : Int) - 1) = ((n8 % (A0 - 1) : Nat) : Int) := by
      rw [Int.tmod_eq_emod_of_nonneg (by omega), show (A0 : Int) - 1 = ((A0 - 1 : Nat) : Int) by omega]; rfl
    obtain ⟨k, hk⟩ : ∃ k, n8 % (A0 - 1) = k := ⟨_, rfl⟩
    rw [hk] at hrm
    have hkA : k + 1 < A0 := by have := Nat.mod_lt n8 (show 0 < A0 - 1 by omega); omega
    have hwk : IntKind.i64.wrap (k : Int) = (k : Int) := by rw [IntKind.wrap_i64]; omega
    have hwk1 : IntKind.i64.wrap ((k : Int) + 1) = (k : Int) + 1 := by rw [IntKind.wrap_i64]; omega
    have hk0 : (0 : Int) ≤ (k : Int) := by omega
    have hk1 : (0 : Int) ≤ (k : Int) + 1 := by omega
    have hk2 : (k : Int) < (A0 : Int) := by omega
    have hk3 : (k : Int) + 1 < (A0 : Int) := by omega
    obtain ⟨e, he⟩ : ∃ e, x[k]? = some e := ⟨_, List.getElem?_eq_getElem (by rw [HXL.out]; omega)⟩
    obtain ⟨f, hf⟩ : ∃ f, x[k + 1]? = some f := ⟨_, List.getElem?_eq_getElem (by rw [HXL.out]; omega)⟩
    obtain ⟨b0, o0, rfl, hbb, hr⟩ : ∃ b o, p3 = some ⟨b, o, Option.none⟩ ∧ b < w3.heap.size ∧ EvR w3 b o x := by
      obtain ⟨p, c, h1, _, _, h4⟩ := HV3.out
      simp only [Value.slice.injEq] at h1
      rcases h4 with ⟨_, h⟩ | ⟨b, o, h, h5, h6⟩
      · rw [h] at he; simp at he
      · exact ⟨b, o, by rw [h1.1, h], h5, h6⟩
    obtain ⟨qe, me, ce, hec⟩ := hr.at hbb he
    obtain ⟨qf, mf, cf, hfc⟩ := hr.at hbb hf
    have HEC := Lib.hid hec
    have HFC := Lib.hid hfc
    have he8 := Lib.hid (HK.out.2 e (List.mem_of_getElem? he)).1
    have hf8 := Lib.hid (HK.out.2 f (List.mem_of_getElem? hf)).1
    have HE := Lib.hid he
    have HF := Lib.hid hf
    obtain ⟨wz, hwz⟩ : ∃ wz, w3.alloc (Obj.cells #[Value.int .i64 (k : Int)] 3) = wz := ⟨_, rfl⟩
    have hgz := heap_alloc_new w3 (Obj.cells #[Value.int .i64 (k : Int)] 3)
    have hWz := below_alloc w3 (Obj.cells #[Value.int .i64 (k : Int)] 3)
    rw [hwz] at hgz hWz
    have HGZ := Lib.hid hgz
    have HWZ := Lib.hid hWz
    have HWZE := Lib.hid hwz
    have keep : ∀ W, Below wz.heap.size wz W → (Below wz.heap.size wz W ∧ W.cell? ⟨w3.heap.size, 0, Option.none⟩ = some (.int .i64 (k : Int)) ∧ W.cell? ⟨b0, o0 + k * 2, Option.none⟩ = some (.int .i64 e.1) ∧ W.cell? ⟨b0, o0 + k * 2 + 1, Option.none⟩ = some (.slice qe me ce) ∧ W.cell? ⟨b0, o0 + (k + 1) * 2, Option.none⟩ = some (.int .i64 f.1) ∧ W.cell? ⟨b0, o0 + (k + 1) * 2 + 1, Option.none⟩ = some (.slice qf mf cf)) := fun W kk => by
      have kw := HWZ.out.trans (kk.mono HWZ.out.size)
      have g1 := (kk.block w3.heap.size (lt_of_block HGZ.out)).trans HGZ.out
      obtain ⟨a1, a2, _⟩ := HEC.out W kw
      obtain ⟨a3, a4, _⟩ := HFC.out W kw
      exact ⟨kk, by rw [cell_of_row _ _ _ _ _ _ g1]; rfl, a1, a2, a3, a4⟩
    have K1 : Hid (∀ W, (Below wz.heap.size wz W ∧ W.cell? ⟨w3.heap.size, 0, Option.none⟩ = some (.int .i64 (k : Int)) ∧ W.cell? ⟨b0, o0 + k * 2, Option.none⟩ = some (.int .i64 e.1) ∧ W.cell? ⟨b0, o0 + k * 2 + 1, Option.none⟩ = some (.slice qe me ce) ∧ W.cell? ⟨b0, o0 + (k + 1) * 2, Option.none⟩ = some (.int .i64 f.1) ∧ W.cell? ⟨b0, o0 + (k + 1) * 2 + 1, Option.none⟩ = some (.slice qf mf cf)) → Calls Try.prog 17 #[.agg #[.int .i64 e.1, .slice qe me ce], .agg #[.int .i64 f.1, .slice qf mf cf]] W fun r w' => r = .returned (.bool (edep e f)) ∧ (Below wz.heap.size wz w' ∧ w'.cell? ⟨w3.heap.size, 0, Option.none⟩ = some (.int .i64 (k : Int)) ∧ w'.cell? ⟨b0, o0 + k * 2, Option.none⟩ = some (.int .i64 e.1) ∧ w'.cell? ⟨b0, o0 + k * 2 + 1, Option.none⟩ = some (.slice qe me ce) ∧ w'.cell? ⟨b0, o0 + (k + 1) * 2, Option.none⟩ = some (.int .i64 f.1) ∧ w'.cell? ⟨b0, o0 + (k + 1) * 2 + 1, Option.none⟩ = some (.slice qf mf cf))) := Lib.hid fun W kk => by
      have kw := HWZ.out.trans (kk.1.mono HWZ.out.size)
      refine (depend_at e f _ _ W (HEC.out W kw).2.2 (HFC.out W kw).2.2 he8.out hf8.out).mono ?_
      rintro r w' ⟨rfl, hb⟩
      exact ⟨rfl, keep w' (kk.1.trans (hb.mono kk.1.size))⟩
    have hs0 := keep wz.drew ⟨rfl, rfl, rfl, Nat.le_refl _, fun _ _ => rfl⟩
    have HKEEP := Lib.hid keep
    obtain ⟨d, hd⟩ : ∃ d, edep e f = d := ⟨_, rfl⟩
    rw [hd] at K1
    have HD := Lib.hid hd
    clear hk he hf hr hec hfc hwz hgz hWz keep hd
    go_wp2_with fail
    rw [HWZE.out]
    go_region_held3 (fun w' => (Below wz.heap.size wz w' ∧ w'.cell? ⟨w3.heap.size, 0, Option.none⟩ = some (.int .i64 (k : Int)) ∧ w'.cell? ⟨b0, o0 + k * 2, Option.none⟩ = some (.int .i64 e.1) ∧ w'.cell? ⟨b0, o0 + k * 2 + 1, Option.none⟩ = some (.slice qe me ce) ∧ w'.cell? ⟨b0, o0 + (k + 1) * 2, Option.none⟩ = some (.int .i64 f.1) ∧ w'.cell? ⟨b0, o0 + (k + 1) * 2 + 1, Option.none⟩ = some (.slice qf mf cf)))
      (first | exact hs0 | assumption)
      (first
        | (go_at_call 17; refine (K1.out _ (by assumption)).mono ?_; rintro r w' ⟨rfl, hsA⟩))
    have HZ : Hid (Below wz.heap.size wz w') := Lib.hid hsA.1
    clear hsA hs0 K1
    rename_i hH
    clear hH
    have HWW : Hid (Below w.heap.size w w') := Lib.hid (HB3.out.trans ((HWZ.out.trans (HZ.out.mono HWZ.out.size)).mono HB3.out.size))
    cases d with
    | true =>
      go_wp2
      go_ret
      exact ⟨rfl, HWW.out⟩
    | false =>
      have HVW := Lib.hid (HV3.out.kept (HWZ.out.trans (HZ.out.mono HWZ.out.size)))
      have HCL := Lib.hid (clone_ev x _ w' HVW.out (by rw [HXL.out]; omega))
      go_wp2_with (go_at_call 18; refine Hid.out ?_)
      refine Lib.hid ?_
      refine HCL.out.mono ?_
      rintro r w4 ⟨v4, rfl, hi4, hb⟩
      have HB4 := Lib.hid hb
      have HZ4 : Hid (Below wz.heap.size wz w4) := Lib.hid (HZ.out.trans (hb.mono HZ.out.size))
      have HI4 := Lib.hid hi4
      clear hb HCL
      obtain ⟨cs, hown, hce⟩ := hi4
      rcases id hown.2 with ⟨_, hn⟩ | ⟨g, cap', cur, rfl, hbg, hg, hn, hm, hz, ht⟩
      · rw [HXL.out] at hn; omega
      rw [HXL.out] at hn hown
      obtain ⟨u1, va, u2, ma, na⟩ := hce k e HE.out
      obtain ⟨u3, vb, u4, mb, nb⟩ := hce (k + 1) f HF.out
      obtain ⟨pa, ca, rfl, hpa⟩ := id ma
      obtain ⟨pb, cb, rfl, hpb⟩ := id mb
      clear hpa hpb
      have c0 : w4.cell? ⟨g, k * 2, Option.none⟩ = some (.int .i64 e.1) := by rw [hown.cellAt (k * 2) (by omega), u1]
      have c1 : w4.cell? ⟨g, k * 2 + 1, Option.none⟩ = some (.slice pa e.2.length ca) := by rw [hown.cellAt (k * 2 + 1) (by omega), u2]
      have c2 : w4.cell? ⟨g, (k + 1) * 2, Option.none⟩ = some (.int .i64 f.1) := by rw [hown.cellAt ((k + 1) * 2) (by omega), u3]
      have c3' : w4.cell? ⟨g, (k + 1) * 2 + 1, Option.none⟩ = some (.slice pb f.2.length cb) := by rw [hown.cellAt ((k + 1) * 2 + 1) (by omega), u4]
      have f0 := hown.frozenAt (k * 2)
      have f1 := hown.frozenAt (k * 2 + 1)
      have f2 := hown.frozenAt ((k + 1) * 2)
      have f3 := hown.frozenAt ((k + 1) * 2 + 1)
      have hgs : g < w4.heap.size := lt_of_block hg
      have hV := HI4.out
      rw [HXL.out] at hV
      have HE2 := Lib.hid (xch_ev hV HXL.out HE.out HF.out hn hm c0 c1 c2 c3' hgs)
      have HB5 : Hid (Below w'.heap.size w' ((((w4.setCell ⟨g, k * 2, Option.none⟩ (.int .i64 f.1)).setCell ⟨g, k * 2 + 1, Option.none⟩ (.slice pb f.2.length cb)).setCell ⟨g, (k + 1) * 2, Option.none⟩ (.int .i64 e.1)).setCell ⟨g, (k + 1) * 2 + 1, Option.none⟩ (.slice pa e.2.length ca)).drew) := Lib.hid (bd4 HB4.out hbg)
      have ck := (HKEEP.out w4 HZ4.out).2.1
      rw [HXL.out]
      have hne1 : ¬ w3.heap.size = g := by have h1 := lt_of_block HGZ.out; have h2 := HZ.out.size; omega
      have hne2 : ¬ g = w3.heap.size := fun e => hne1 e.symm
      clear u1 u2 u3 u4 ma mb na nb hown hce hg hz ht hV
      go_wp2_with fail
      go_region
      generalize ((((w4.setCell ⟨g, k * 2, Option.none⟩ (.int .i64 f.1)).setCell ⟨g, k * 2 + 1, Option.none⟩ (.slice pb f.2.length cb)).setCell ⟨g, (k + 1) * 2, Option.none⟩ (.int .i64 e.1)).setCell ⟨g, (k + 1) * 2 + 1, Option.none⟩ (.slice pa e.2.length ca)).drew = w5 at HE2 HB5 ⊢
      clear c0 c1 c2 c3' f0 f1 f2 f3 ck hw8 hwm hm0 hrm hwk hne1 hne2 hgs hbg hn hm hk1 hk2 hk3 hwk1 hA2' hn8
      as_aux_lemma =>
        have HZ5 : Hid (Below wz.heap.size wz w5) := Lib.hid (HZ.out.trans (HB5.out.mono HZ.out.size))
        have HV5 := Lib.hid (HVW.out.kept HB5.out)
        have HW5 : Hid (Below w.heap.size w w5) := Lib.hid (HWW.out.trans (HB5.out.mono HWW.out.size))
        obtain ⟨y, hy⟩ : ∃ y, xch x k = y := ⟨_, rfl⟩
        have hyl : y.length = A0 := by rw [← hy, xch_len, HXL.out]
        have htr : Tr edep x y := by rw [← hy]; exact tr_xch HE.out HF.out HD.out
        have hrx := racs_xch (dep := edep) (thr := fun a => a.1) HE.out HF.out HD.out (by rw [edep_symm]; exact HD.out)
        rw [hy] at hrx
        rw [hy] at HE2
        obtain ⟨R, hR⟩ : ∃ R, racs edep (·.1) x x.length = R := ⟨_, rfl⟩
        obtain ⟨R2, hR2⟩ : ∃ R2, racs edep (·.1) y x.length = R2 := ⟨_, rfl⟩
        rw [hR, hR2] at hrx
        have hRl : R.length ≤ 1000000 := by
          rw [← hR]
          have h1 := racs_len x x.length
          have h3 : x.length * x.length ≤ 1000 * 1000 := Nat.mul_le_mul (Nat.le_trans HK.out.1 (by omega)) (Nat.le_trans HK.out.1 (by omega))
          omega
        have hRm : ∀ p ∈ R, p.1 < A0 ∧ p.2 < A0 := fun p hp => by
          rw [← hR] at hp
          obtain ⟨h1, h2⟩ := mem_racs.1 hp
          have h3 := h2.1
          rw [HXL.out] at h1
          omega
        have KA := HRA x _ w5 HV5.out HK.out
        rw [hR] at KA
        have KB : ∀ W, EvS W (.slice (some ⟨g, 0, Option.none⟩) A0 cap') y → Calls Try.prog 11 #[.slice (some ⟨g, 0, Option.none⟩) A0 cap'] W fun e w' => ∃ v', e = .returned v' ∧ RcS w' v' R2 ∧ Below W.heap.size W w' := fun W hW => by
          have := HRA y _ W hW (HK.out.tr htr)
          have h2 : racs edep (·.1) y y.length = R2 := by rw [hyl, ← HXL.out]; exact hR2
          rw [h2] at this
          exact this
        have HKA := Lib.hid KA
        have HKB := Lib.hid KB
        have HRX := Lib.hid hrx
        have HRL := Lib.hid hRl
        have HRM := Lib.hid hRm
        clear hy hyl htr hrx hR hR2 hRl hRm KA KB
        go_wp2_with (go_at_call 11; refine Hid.out ?_)
        refine Lib.hid ?_
        refine HKA.out.mono ?_
        rintro r w6 ⟨v6, rfl, hv6, hb⟩
        have HE6 := Lib.hid (HE2.out.kept hb)
        have HZ6 : Hid (Below wz.heap.size wz w6) := Lib.hid (HZ5.out.trans (hb.mono HZ5.out.size))
        have HW6 : Hid (Below w.heap.size w w6) := Lib.hid (HW5.out.trans (hb.mono HW5.out.size))
        have HR6 := Lib.hid hv6
        obtain ⟨p6, c6, hve, hc6⟩ := hv6.form
        subst hve
        clear hb hv6 HKA
        go_wp2_with (go_at_call 11; refine Hid.out ?_)
        refine Lib.hid ?_
        refine (HKB.out w6 HE6.out).mono ?_
        rintro r w7 ⟨v7, rfl, hv7, hb⟩
        have HZ7 : Hid (Below wz.heap.size wz w7) := Lib.hid (HZ6.out.trans (hb.mono HZ6.out.size))
        have HW7 : Hid (Below w.heap.size w w7) := Lib.hid (HW6.out.trans (hb.mono HW6.out.size))
        have HR67 := Lib.hid (HR6.out.kept hb)
        have HR7 := Lib.hid hv7
        obtain ⟨p7, c7, hve, hc7⟩ := hv7.form
        subst hve
        have hlen := HRX.out.1
        obtain ⟨N, hN⟩ : ∃ N, R.length = N := ⟨_, rfl⟩
        have hN2 : R2.length = N := by rw [hlen, hN]
        rw [hN] at HR67 hc6 ⊢
        rw [hN2] at HR7 hc7 ⊢
        have HN := Lib.hid hN
        have HN2 := Lib.hid hN2
        have hNl : N ≤ 1000000 := by rw [← HN.out]; exact HRL.out
        clear hb hv7 HKB hlen hN hN2
        go_wp2
        go_loopw [71] (fun s71 wr => ∃ (m : Nat), s71 = .int .i64 (m : Int) ∧ m ≤ N ∧ Below w7.heap.size w7 wr) (fun s _ => N - (intOf s).toNat)
        case atStart => exact ⟨0, rfl, by omega, Below.refl _ _⟩
        case round =>
          as_aux_lemma =>
            obtain ⟨m, rfl, hm, hb⟩ := hrel
            have HB := Lib.hid hb
            clear hb
            obtain ⟨w8, rfl⟩ : ∃ w8, w8 = wr := ⟨_, rfl⟩
            by_cases hltm : m < N
            · obtain ⟨r, hr⟩ : ∃ r, R[m]? = some r := ⟨_, List.getElem?_eq_getElem (by rw [HN.out]; exact hltm)⟩
              obtain ⟨b6, o6, rfl, hbb6, hr6⟩ := HR67.out.at hr
              obtain ⟨d0, d1⟩ := hr6 w8 HB.out
              have hrm := HRM.out r (List.mem_of_getElem? hr)
              have hin := HRX.out.2 r (List.mem_of_getElem? hr)
              obtain ⟨r1, r2⟩ := r
              obtain ⟨wy, hwy⟩ : ∃ wy, w8.alloc (Obj.cells #[Value.int .i64 (r1 : Int), .int .i64 (r2 : Int)] 30) = wy := ⟨_, rfl⟩
              have hgy := heap_alloc_new w8 (Obj.cells #[Value.int .i64 (r1 : Int), .int .i64 (r2 : Int)] 30)
              have hWy := below_alloc w8 (Obj.cells #[Value.int .i64 (r1 : Int), .int .i64 (r2 : Int)] 30)
              rw [hwy] at hgy hWy
              have HGY := Lib.hid hgy
              have HWY := Lib.hid hWy
              have HWYE := Lib.hid hwy
              have HZ8 : Hid (Below wz.heap.size wz w8) := Lib.hid (HZ7.out.trans (HB.out.mono HZ7.out.size))
              have keep : ∀ W, Below wy.heap.size wy W → (Below wy.heap.size wy W ∧ W.cell? ⟨w3.heap.size, 0, Option.none⟩ = some (.int .i64 (k : Int)) ∧ W.cell? ⟨w8.heap.size, 0, Option.none⟩ = some (.int .i64 (r1 : Int)) ∧ W.cell? ⟨w8.heap.size, 1, Option.none⟩ = some (.int .i64 (r2 : Int))) := fun W kk => by
                have g1 : W.heap[w3.heap.size]? = _ := (kk.block w3.heap.size (by have := lt_of_block HGZ.out; have := HZ8.out.size; have := HWY.out.size; omega)).trans ((HWY.out.block w3.heap.size (by have := lt_of_block HGZ.out; have := HZ8.out.size; omega)).trans ((HZ8.out.block w3.heap.size (lt_of_block HGZ.out)).trans HGZ.out))
                have g2 := (kk.block w8.heap.size (lt_of_block HGY.out)).trans HGY.out
                exact ⟨kk, by rw [cell_of_row _ _ _ _ _ _ g1]; rfl, by rw [cell_of_row _ _ _ _ _ _ g2]; rfl, by rw [cell_of_row _ _ _ _ _ _ g2]; rfl⟩
              have T1 : Hid (∀ W, (Below wy.heap.size wy W ∧ W.cell? ⟨w3.heap.size, 0, Option.none⟩ = some (.int .i64 (k : Int)) ∧ W.cell? ⟨w8.heap.size, 0, Option.none⟩ = some (.int .i64 (r1 : Int)) ∧ W.cell? ⟨w8.heap.size, 1, Option.none⟩ = some (.int .i64 (r2 : Int))) → Calls Try.prog 19 #[.int .i64 (r1 : Int), .pointer (some ⟨w3.heap.size, 0, Option.none⟩)] W fun e w' => e = .returned (.int .i64 (trn k r1 : Nat)) ∧ (Below wy.heap.size wy w' ∧ w'.cell? ⟨w3.heap.size, 0, Option.none⟩ = some (.int .i64 (k : Int)) ∧ w'.cell? ⟨w8.heap.size, 0, Option.none⟩ = some (.int .i64 (r1 : Int)) ∧ w'.cell? ⟨w8.heap.size, 1, Option.none⟩ = some (.int .i64 (r2 : Int)))) := Lib.hid fun W kk => by
                refine (turn51 r1 k (by omega) (by omega) w3.heap.size W kk.2.1).mono ?_
                rintro e w' ⟨rfl, rfl⟩
                exact ⟨rfl, kk⟩
              have T2 : Hid (∀ W, (Below wy.heap.size wy W ∧ W.cell? ⟨w3.heap.size, 0, Option.none⟩ = some (.int .i64 (k : Int)) ∧ W.cell? ⟨w8.heap.size, 0, Option.none⟩ = some (.int .i64 (r1 : Int)) ∧ W.cell? ⟨w8.heap.size, 1, Option.none⟩ = some (.int .i64 (r2 : Int))) → Calls Try.prog 19 #[.int .i64 (r2 : Int), .pointer (some ⟨w3.heap.size, 0, Option.none⟩)] W fun e w' => e = .returned (.int .i64 (trn k r2 : Nat)) ∧ (Below wy.heap.size wy w' ∧ w'.cell? ⟨w3.heap.size, 0, Option.none⟩ = some (.int .i64 (k : Int)) ∧ w'.cell? ⟨w8.heap.size, 0, Option.none⟩ = some (.int .i64 (r1 : Int)) ∧ w'.cell? ⟨w8.heap.size, 1, Option.none⟩ = some (.int .i64 (r2 : Int)))) := Lib.hid fun W kk => by
                refine (turn51 r2 k (by omega) (by omega) w3.heap.size W kk.2.1).mono ?_
                rintro e w' ⟨rfl, rfl⟩
                exact ⟨rfl, kk⟩
              have T3 : Hid (∀ W, (Below wy.heap.size wy W ∧ W.cell? ⟨w3.heap.size, 0, Option.none⟩ = some (.int .i64 (k : Int)) ∧ W.cell? ⟨w8.heap.size, 0, Option.none⟩ = some (.int .i64 (r1 : Int)) ∧ W.cell? ⟨w8.heap.size, 1, Option.none⟩ = some (.int .i64 (r2 : Int))) → Calls Try.prog 20 #[.slice p7 N c7, .agg #[.int .i64 (trn k r1 : Nat), .int .i64 (trn k r2 : Nat)]] W fun e w' => e = .returned (.bool true) ∧ (Below wy.heap.size wy w' ∧ w'.cell? ⟨w3.heap.size, 0, Option.none⟩ = some (.int .i64 (k : Int)) ∧ w'.cell? ⟨w8.heap.size, 0, Option.none⟩ = some (.int .i64 (r1 : Int)) ∧ w'.cell? ⟨w8.heap.size, 1, Option.none⟩ = some (.int .i64 (r2 : Int)))) := Lib.hid fun W kk => by
                have kw : Below w7.heap.size w7 W := HB.out.trans ((HWY.out.trans (kk.1.mono HWY.out.size)).mono HB.out.size)
                have h1 := contains_rc R2 (trn k r1, trn k r2) _ W (HR7.out.kept kw) (by rw [HN2.out]; omega)
                rw [decide_eq_true hin] at h1
                refine h1.mono ?_
                rintro e w' ⟨rfl, hb⟩
                exact ⟨rfl, keep w' (kk.1.trans (hb.mono kk.1.size))⟩
              have hs0 := keep wy.drew ⟨rfl, rfl, rfl, Nat.le_refl _, fun _ _ => rfl⟩
              have hm0 : (0 : Int) ≤ (m : Int) := by omega
              have hmN : (m : Int) < (N : Int) := by omega
              obtain ⟨t1, ht1⟩ : ∃ t, trn k r1 = t := ⟨_, rfl⟩
              obtain ⟨t2, ht2⟩ : ∃ t, trn k r2 = t := ⟨_, rfl⟩
              rw [ht1] at T1 T3
              rw [ht2] at T2 T3
              have eg := eg51h
              clear hr hr6 hrm hin hwy hgy hWy keep ht1 ht2
              go_wp2_with fail
              rw [HWYE.out]
              go_region_held3 (fun w' => (Below wy.heap.size wy w' ∧ w'.cell? ⟨w3.heap.size, 0, Option.none⟩ = some (.int .i64 (k : Int)) ∧ w'.cell? ⟨w8.heap.size, 0, Option.none⟩ = some (.int .i64 (r1 : Int)) ∧ w'.cell? ⟨w8.heap.size, 1, Option.none⟩ = some (.int .i64 (r2 : Int))))
                (first | exact hs0 | assumption)
                (first
                  | (go_at_call 20; refine (T3.out _ (by assumption)).mono ?_; rintro e w' ⟨rfl, hsC⟩)
                  | (have h := hsA; clear h; go_at_call 19; refine (T2.out _ (by assumption)).mono ?_; rintro e w' ⟨rfl, hsB⟩)
                  | (go_at_call 19; refine (T1.out _ (by assumption)).mono ?_; rintro e w' ⟨rfl, hsA⟩))
              have HZ9 : Hid (Below w7.heap.size w7 w') := Lib.hid (HB.out.trans ((HWY.out.trans (hsC.1.mono HWY.out.size)).mono HB.out.size))
              clear hsA hsB hsC hs0 d0 d1 T1 T2 T3
              rename_i hH
              clear hH
              go_wp2
              go_roundw
              case rel => exact ⟨m + 1, by go_num, by omega, HZ9.out⟩
              case measure => simp [intOf]; omega
            · obtain rfl : m = N := by omega
              have HW8 : Hid (Below w.heap.size w w8) := Lib.hid (HW7.out.trans (HB.out.mono HW7.out.size))
              go_wp2
              go_ret
              exact ⟨rfl, HW8.out⟩
end Go.Proofs.Ytcbpkagegdfidaa
