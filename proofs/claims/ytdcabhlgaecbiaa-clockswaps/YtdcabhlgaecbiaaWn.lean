/- ClockSwaps: two neighbours that don't depend on one another, exchanged, change nothing of what happens ahead of what. -/
import Derived.Test.YtdcabhlgaecbiaaOc
import Derived.Test.YtdcabhlgaecbiaaXc
import Derived.Deep.RegionHeld3
import Derived.BigRegion
set_option linter.unusedSimpArgs false
set_option linter.unusedVariables false
namespace Go.Proofs.Ytdcabhlgaecbiaa
open Go.RowKit

set_option maxHeartbeats 2000000 in
/-- The closure turn: where an event stands behind the exchange. -/
theorem turn27 (i k : Nat) (hi : i ≤ 100000) (hk : k ≤ 100000) (b : Nat) (w : World) (h0 : w.cell? ⟨b, 0, Option.none⟩ = some (.int .i64 (k : Int))) :
    Calls Try.prog 17 #[.int .i64 (i : Int), .pointer (some ⟨b, 0, Option.none⟩)] w fun e w' => e = .returned (.int .i64 (trn k i : Nat)) ∧ w' = w := by
  have hw : IntKind.i64.wrap ((k : Int) + 1) = (k : Int) + 1 := by rw [IntKind.wrap_i64]; omega
  by_cases h1 : i = k
  · subst h1
    have ht : trn i i = i + 1 := by unfold trn; rw [if_pos rfl]
    rw [ht]
    go_enter Try.func17, Try.ntmps17
    go_wp2
    go_ret
    exact ⟨by go_num, rfl⟩
  · have h1' : ¬ (i : Int) = (k : Int) := by omega
    have h1b : ((i : Int) == (k : Int)) = false := by rw [beq_eq_false_iff_ne]; omega
    by_cases h2 : i = k + 1
    · subst h2
      have ht : trn k (k + 1) = k := by unfold trn; rw [if_neg (by omega), if_pos rfl]
      have h3 : (((k + 1 : Nat) : Int) == (k : Int) + 1) = true := by rw [beq_iff_eq]; omega
      have h4 : ((k + 1 : Nat) : Int) = (k : Int) + 1 := by omega
      rw [ht]
      go_enter Try.func17, Try.ntmps17
      go_wp2
      go_ret
      exact ⟨rfl, rfl⟩
    · have h2' : ¬ (i : Int) = (k : Int) + 1 := by omega
      have h2b : ((i : Int) == (k : Int) + 1) = false := by rw [beq_eq_false_iff_ne]; omega
      have ht : trn k i = i := by unfold trn; rw [if_neg h1, if_neg h2]
      rw [ht]
      go_enter Try.func17, Try.ntmps17
      go_wp2
      go_ret
      exact ⟨rfl, rfl⟩
theorem eg27 : ∀ args w, (callFunc 17 args).run Try.prog w = .ok (.enter 17 args) w := enters_of Try.func17 (by kernel_rfl) rfl
theorem hbd_xch {x : Evl} {k i j : Nat} {a b : Int × List (Int × Bool)} (ha : x[k]? = some a) (hb : x[k + 1]? = some b) (hn : edep a b = false) : hbd edep (xch x k) (trn k i) (trn k j) = hbd edep x i j := by
  rw [Bool.eq_iff_iff, hbd_iff, hbd_iff]
  exact hb_xch ha hb hn (by rw [edep_symm]; exact hn)
set_option maxRecDepth 100000 in
set_option maxHeartbeats 16000000 in
theorem clockSwaps_any (Ob : World → Value → Evl → Prop) (HKp : KpO Ob) (HAw : AwO) (HNw : NewO Ob) (HBf : BefO Ob) (l : Evl) (n8 : Nat) (hn8 : n8 < 256) (v : Value) (w : World) (hs : ES w v l) (hok : eok l) (hl : l.length ≤ 9223372036854775807) : Calls Try.prog 5 #[v, .int .u8 (n8 : Int)] w fun e w' => e = .returned (.bool true) ∧ Below w.heap.size w w' := by
  obtain ⟨p0, cap0, rfl, hcap0⟩ := hs.form
  obtain ⟨A0, hA0⟩ : ∃ A, l.length = A := ⟨_, rfl⟩
  have HS := Lib.hid hs
  rw [hA0] at HS hcap0 hl ⊢
  have HA0 := Lib.hid hA0
  have HOK := Lib.hid hok
  clear hs hA0 hok
  go_enter Try.func5, Try.ntmps5
  go_wp2_with (go_at_call 7; refine Hid.out ?_)
  refine Lib.hid ?_
  refine (HAw _).mono ?_
  rintro e w1 ⟨rfl, hb⟩
  have HB1 := Lib.hid hb
  clear hb
  have HLT := light_any l 24 _ w1 (HS.out.kept HB1.out) (by rw [HA0.out]; exact hl)
  rw [show (l.all (fun e => decide (e.2.length ≤ 8)) && decide ((l.length : Int) ≤ 24)) = lgt l 24 from rfl] at HLT
  have HL := Lib.hid HLT
  clear HLT
  go_wp2_with (go_at_call 8; refine Hid.out ?_)
  refine Lib.hid ?_
  refine HL.out.mono ?_
  rintro e w2 ⟨rfl, hb⟩
  have HB2 : Hid (Below w.heap.size w w2) := Lib.hid (HB1.out.trans (hb.mono HB1.out.size))
  clear hb HL HB1
  obtain ⟨lt, hlt⟩ : ∃ b, lgt l 24 = b := ⟨_, rfl⟩
  rw [hlt]
  cases lt with
  | false =>
    clear hlt
    go_wp2
    go_ret
    exact ⟨rfl, HB2.out⟩
  | true =>
    obtain ⟨h8, hA24⟩ := lgt_true hlt
    have h24 : A0 ≤ 24 := by rw [HA0.out] at hA24; omega
    have HE1 := Lib.hid (events_any l _ w2 (HS.out.kept HB2.out) (by rw [HA0.out]; omega) HOK.out (fun e he => by have := h8 e he; omega))
    have HK := Lib.hid (evs_k (by rw [HA0.out]; omega) HOK.out h8)
    clear h8 hA24 hlt
    by_cases hA2 : A0 < 2
    · have hA2' : (A0 : Int) < 2 := by omega
      clear HE1
      go_wp2
      go_ret
      exact ⟨rfl, HB2.out⟩
    have hA2' : ¬ (A0 : Int) < 2 := by omega
    go_wp2_with (go_at_call 9; refine Hid.out ?_)
    refine Lib.hid ?_
    refine HE1.out.mono ?_
    rintro e w3 ⟨v3, rfl, hv3, hb⟩
    have HB3 : Hid (Below w.heap.size w w3) := Lib.hid (HB2.out.trans (hb.mono HB2.out.size))
    clear hb HE1
    obtain ⟨x, hx⟩ : ∃ x, evs l = x := ⟨_, rfl⟩
    have hxl : x.length = A0 := by rw [← hx, evs_len, HA0.out]
    rw [hx] at HK hv3
    have HXL := Lib.hid hxl
    obtain ⟨p3, c3, hve, hc3⟩ : ∃ p c, v3 = .slice p A0 c ∧ A0 ≤ c := by
      obtain ⟨p, c, h1, h2, _⟩ := id hv3
      rw [hxl] at h1 h2
      exact ⟨p, c, h1, h2⟩
    subst hve
    have HV3 := Lib.hid hv3
    have HXE := Lib.hid hx
    clear hv3 hx hxl
    have hw8 : IntKind.i64.wrap (n8 : Int) = (n8 : Int) := by rw [IntKind.wrap_i64]; omega
    have hwm : IntKind.i64.wrap ((A0 : Int) - 1) = (A0 : Int) - 1 := by rw [IntKind.wrap_i64]; omega
    have hm0 : ¬ (A0 : Int) - 1 = 0 := by omega
    have hrm : (n8 : Int).tmod ((A0 : Int) - 1) = ((n8 % (A0 - 1) : Nat) : Int) := by
      rw [Int.tmod_eq_emod_of_nonneg (by omega), show (A0 : Int) - 1 = ((A0 - 1 : Nat) : Int) by omega]; rfl
    obtain ⟨k, hk⟩ : ∃ k, n8 % (A0 - 1) = k := ⟨_, rfl⟩
    rw [hk] at hrm
    have hkA : k + 1 < A0 := by have := Nat.mod_lt n8 (show 0 < A0 - 1 by omega); omega
    have hwk : IntKind.i64.wrap (k : Int) = (k : Int) := by rw [IntKind.wrap_i64]; omega
    have hwk1 : IntKind.i64.wrap ((k : Int) + 1) = (k : Int) + 1 := by rw [IntKind.wrap_i64]; omega
    have hk0 : (0 : Int) ≤ (k : Int) := by omega
    have hk1 : (0 : Int) ≤ (k : Int) + 1 := by omega
    have hk2 : (k : Int) < (A0 : Int) := by omega
    have hk3 : (k : Int) + 1 < (A0 : Int) := by omega
    obtain ⟨e, he⟩ : ∃ e, x[k]? = some e := ⟨_, List.getElem?_eq_getElem (by rw [HXL.out]; omega)⟩
    obtain ⟨f, hf⟩ : ∃ f, x[k + 1]? = some f := ⟨_, List.getElem?_eq_getElem (by rw [HXL.out]; omega)⟩
    obtain ⟨b0, o0, rfl, hbb, hr⟩ : ∃ b o, p3 = some ⟨b, o, Option.none⟩ ∧ b < w3.heap.size ∧ EvR w3 b o x := by
      obtain ⟨p, c, h1, _, _, h4⟩ := HV3.out
      simp only [Value.slice.injEq] at h1
      rcases h4 with ⟨_, h⟩ | ⟨b, o, h, h5, h6⟩
      · rw [h] at he; simp at he
      · exact ⟨b, o, by rw [h1.1, h], h5, h6⟩
    obtain ⟨qe, me, ce, hec⟩ := hr.at hbb he
    obtain ⟨qf, mf, cf, hfc⟩ := hr.at hbb hf
    have HEC := Lib.hid hec
    have HFC := Lib.hid hfc
    have he8 := Lib.hid (HK.out.2 e (List.mem_of_getElem? he)).1
    have hf8 := Lib.hid (HK.out.2 f (List.mem_of_getElem? hf)).1
    have HE := Lib.hid he
    have HF := Lib.hid hf
    obtain ⟨wz, hwz⟩ : ∃ wz, w3.alloc (Obj.cells #[Value.int .i64 (k : Int)] 3) = wz := ⟨_, rfl⟩
    have hgz := heap_alloc_new w3 (Obj.cells #[Value.int .i64 (k : Int)] 3)
    have hWz := below_alloc w3 (Obj.cells #[Value.int .i64 (k : Int)] 3)
    rw [hwz] at hgz hWz
    obtain ⟨KB, hKB⟩ : ∃ B, w3.heap.size = B := ⟨_, rfl⟩
    rw [hKB] at hgz
    have HKB := Lib.hid hKB
    clear hKB
    have HGZ := Lib.hid hgz
    have HWZ := Lib.hid hWz
    have HWZE := Lib.hid hwz
    have keep : ∀ W, Below wz.heap.size wz W → (Below wz.heap.size wz W ∧ W.cell? ⟨KB, 0, Option.none⟩ = some (.int .i64 (k : Int)) ∧ W.cell? ⟨b0, o0 + k * 2, Option.none⟩ = some (.int .i64 e.1) ∧ W.cell? ⟨b0, o0 + k * 2 + 1, Option.none⟩ = some (.slice qe me ce) ∧ W.cell? ⟨b0, o0 + (k + 1) * 2, Option.none⟩ = some (.int .i64 f.1) ∧ W.cell? ⟨b0, o0 + (k + 1) * 2 + 1, Option.none⟩ = some (.slice qf mf cf)) := fun W kk => by
      have kw := HWZ.out.trans (kk.mono HWZ.out.size)
      have g1 := (kk.block KB (lt_of_block HGZ.out)).trans HGZ.out
      obtain ⟨a1, a2, _⟩ := HEC.out W kw
      obtain ⟨a3, a4, _⟩ := HFC.out W kw
      exact ⟨kk, by rw [cell_of_row _ _ _ _ _ _ g1]; rfl, a1, a2, a3, a4⟩
    have K1 : Hid (∀ W, (Below wz.heap.size wz W ∧ W.cell? ⟨KB, 0, Option.none⟩ = some (.int .i64 (k : Int)) ∧ W.cell? ⟨b0, o0 + k * 2, Option.none⟩ = some (.int .i64 e.1) ∧ W.cell? ⟨b0, o0 + k * 2 + 1, Option.none⟩ = some (.slice qe me ce) ∧ W.cell? ⟨b0, o0 + (k + 1) * 2, Option.none⟩ = some (.int .i64 f.1) ∧ W.cell? ⟨b0, o0 + (k + 1) * 2 + 1, Option.none⟩ = some (.slice qf mf cf)) → Calls Try.prog 15 #[.agg #[.int .i64 e.1, .slice qe me ce], .agg #[.int .i64 f.1, .slice qf mf cf]] W fun r w' => r = .returned (.bool (edep e f)) ∧ (Below wz.heap.size wz w' ∧ w'.cell? ⟨KB, 0, Option.none⟩ = some (.int .i64 (k : Int)) ∧ w'.cell? ⟨b0, o0 + k * 2, Option.none⟩ = some (.int .i64 e.1) ∧ w'.cell? ⟨b0, o0 + k * 2 + 1, Option.none⟩ = some (.slice qe me ce) ∧ w'.cell? ⟨b0, o0 + (k + 1) * 2, Option.none⟩ = some (.int .i64 f.1) ∧ w'.cell? ⟨b0, o0 + (k + 1) * 2 + 1, Option.none⟩ = some (.slice qf mf cf))) := Lib.hid fun W kk => by
      have kw := HWZ.out.trans (kk.1.mono HWZ.out.size)
      refine (depend_at e f _ _ W (HEC.out W kw).2.2 (HFC.out W kw).2.2 he8.out hf8.out).mono ?_
      rintro r w' ⟨rfl, hb⟩
      exact ⟨rfl, keep w' (kk.1.trans (hb.mono kk.1.size))⟩
    have hs0 := keep wz.drew ⟨rfl, rfl, rfl, Nat.le_refl _, fun _ _ => rfl⟩
    have HKEEP := Lib.hid keep
    obtain ⟨d, hd⟩ : ∃ d, edep e f = d := ⟨_, rfl⟩
    rw [hd] at K1
    have HD := Lib.hid hd
    clear hk he hf hr hec hfc hwz hgz hWz keep hd
    go_wp2_with fail
    rw [HWZE.out, HKB.out]
    go_region_held3 (fun w' => (Below wz.heap.size wz w' ∧ w'.cell? ⟨KB, 0, Option.none⟩ = some (.int .i64 (k : Int)) ∧ w'.cell? ⟨b0, o0 + k * 2, Option.none⟩ = some (.int .i64 e.1) ∧ w'.cell? ⟨b0, o0 + k * 2 + 1, Option.none⟩ = some (.slice qe me ce) ∧ w'.cell? ⟨b0, o0 + (k + 1) * 2, Option.none⟩ = some (.int .i64 f.1) ∧ w'.cell? ⟨b0, o0 + (k + 1) * 2 + 1, Option.none⟩ = some (.slice qf mf cf)))
      (first | exact hs0 | assumption)
      (first
        | (go_at_call 15; refine (K1.out _ (by assumption)).mono ?_; rintro r w' ⟨rfl, hsA⟩))
    have HZ : Hid (Below wz.heap.size wz w') := Lib.hid hsA.1
    clear hsA hs0 K1
    rename_i hH
    clear hH
    have HWW : Hid (Below w.heap.size w w') := Lib.hid (HB3.out.trans ((HWZ.out.trans (HZ.out.mono HWZ.out.size)).mono HB3.out.size))
    cases d with
    | true =>
      have HVW := Lib.hid (HV3.out.kept (HWZ.out.trans (HZ.out.mono HWZ.out.size)))
      have HN1 := Lib.hid (HNw x _ w' HVW.out HK.out)
      go_wp2_with (go_at_call 10; refine Hid.out ?_)
      refine Lib.hid ?_
      refine HN1.out.mono ?_
      rintro r w4 ⟨v4, rfl, ⟨po, mo, co, rfl, ho⟩, hb⟩
      have HW4 : Hid (Below w.heap.size w w4) := Lib.hid (HWW.out.trans (hb.mono HWW.out.size))
      have HZ4 : Hid (Below wz.heap.size wz w4) := Lib.hid (HZ.out.trans (hb.mono HZ.out.size))
      have hWq := below_alloc w4 (Obj.cells #[Value.slice po mo co] 29)
      have hgq := heap_alloc_new w4 (Obj.cells #[Value.slice po mo co] 29)
      have ck : (w4.alloc (Obj.cells #[Value.slice po mo co] 29)).cell? ⟨KB, 0, Option.none⟩ = some (.int .i64 (k : Int)) := (HKEEP.out _ (HZ4.out.trans (hWq.mono HZ4.out.size))).2.1
      have cz : (w4.alloc (Obj.cells #[Value.slice po mo co] 29)).cell? ⟨w4.heap.size, 0, Option.none⟩ = some (.slice po mo co) := by rw [cell_of_row _ _ _ _ _ _ hgq]; rfl
      have h1 := HBf x po mo co (k : Int) ((k + 1 : Nat) : Int) (w4.alloc (Obj.cells #[Value.slice po mo co] 29)) (HKp _ _ _ _ ho hWq) HK.out
      rw [hbI_nat, hbd_dep (by omega) HE.out HF.out HD.out, show ((k + 1 : Nat) : Int) = (k : Int) + 1 by omega] at h1
      have HB1 := Lib.hid h1
      have HWQ : Hid (Below w.heap.size w (w4.alloc (Obj.cells #[Value.slice po mo co] 29))) := Lib.hid (HW4.out.trans (hWq.mono HW4.out.size))
      clear h1 hWq hgq ho hb HN1
      go_wp2_with (go_at_call 12; refine Hid.out ?_)
      refine Lib.hid ?_
      refine HB1.out.mono ?_
      rintro r w9 ⟨rfl, hb⟩
      have HR9 : Hid (Below w.heap.size w w9) := Lib.hid (HWQ.out.trans (hb.mono HWQ.out.size))
      clear hb HB1 ck cz
      go_wp2
      go_ret
      exact ⟨rfl, HR9.out⟩
    | false =>
      have HVW := Lib.hid (HV3.out.kept (HWZ.out.trans (HZ.out.mono HWZ.out.size)))
      have HCL := Lib.hid (clone_ev x _ w' HVW.out (by rw [HXL.out]; omega))
      go_wp2_with (go_at_call 16; refine Hid.out ?_)
      refine Lib.hid ?_
      refine HCL.out.mono ?_
      rintro r w4 ⟨v4, rfl, hi4, hb⟩
      have HB4 := Lib.hid hb
      have HZ4 : Hid (Below wz.heap.size wz w4) := Lib.hid (HZ.out.trans (hb.mono HZ.out.size))
      have HI4 := Lib.hid hi4
      clear hb HCL
      obtain ⟨cs, hown, hce⟩ := hi4
      rcases id hown.2 with ⟨_, hn⟩ | ⟨g, cap', cur, rfl, hbg, hg, hn, hm, hz, ht⟩
      · rw [HXL.out] at hn; omega
      rw [HXL.out] at hn hown
      obtain ⟨u1, va, u2, ma, na⟩ := hce k e HE.out
      obtain ⟨u3, vb, u4, mb, nb⟩ := hce (k + 1) f HF.out
      obtain ⟨pa, ca, rfl, hpa⟩ := id ma
      obtain ⟨pb, cb, rfl, hpb⟩ := id mb
      clear hpa hpb
      have c0 : w4.cell? ⟨g, k * 2, Option.none⟩ = some (.int .i64 e.1) := by rw [hown.cellAt (k * 2) (by omega), u1]
      have c1 : w4.cell? ⟨g, k * 2 + 1, Option.none⟩ = some (.slice pa e.2.length ca) := by rw [hown.cellAt (k * 2 + 1) (by omega), u2]
      have c2 : w4.cell? ⟨g, (k + 1) * 2, Option.none⟩ = some (.int .i64 f.1) := by rw [hown.cellAt ((k + 1) * 2) (by omega), u3]
      have c3' : w4.cell? ⟨g, (k + 1) * 2 + 1, Option.none⟩ = some (.slice pb f.2.length cb) := by rw [hown.cellAt ((k + 1) * 2 + 1) (by omega), u4]
      have f0 := hown.frozenAt (k * 2)
      have f1 := hown.frozenAt (k * 2 + 1)
      have f2 := hown.frozenAt ((k + 1) * 2)
      have f3 := hown.frozenAt ((k + 1) * 2 + 1)
      have hgs : g < w4.heap.size := lt_of_block hg
      have hV := HI4.out
      rw [HXL.out] at hV
      have HE2 := Lib.hid (xch_ev hV HXL.out HE.out HF.out hn hm c0 c1 c2 c3' hgs)
      have HB5 : Hid (Below w'.heap.size w' ((((w4.setCell ⟨g, k * 2, Option.none⟩ (.int .i64 f.1)).setCell ⟨g, k * 2 + 1, Option.none⟩ (.slice pb f.2.length cb)).setCell ⟨g, (k + 1) * 2, Option.none⟩ (.int .i64 e.1)).setCell ⟨g, (k + 1) * 2 + 1, Option.none⟩ (.slice pa e.2.length ca)).drew) := Lib.hid (bd4 HB4.out hbg)
      have ck := (HKEEP.out w4 HZ4.out).2.1
      rw [HXL.out]
      have hne1 : ¬ KB = g := by have h1 := lt_of_block HGZ.out; have h2 := HZ.out.size; omega
      have hne2 : ¬ g = KB := fun e => hne1 e.symm
      clear u1 u2 u3 u4 ma mb na nb hown hce hg hz ht hV
      go_wp2_with fail
      go_region
      generalize ((((w4.setCell ⟨g, k * 2, Option.none⟩ (.int .i64 f.1)).setCell ⟨g, k * 2 + 1, Option.none⟩ (.slice pb f.2.length cb)).setCell ⟨g, (k + 1) * 2, Option.none⟩ (.int .i64 e.1)).setCell ⟨g, (k + 1) * 2 + 1, Option.none⟩ (.slice pa e.2.length ca)).drew = w5 at HE2 HB5 ⊢
      clear c0 c1 c2 c3' f0 f1 f2 f3 ck hw8 hwm hm0 hrm hwk hne1 hne2 hgs hbg hn hm hk1 hk2 hk3 hwk1 hA2' hn8
      as_aux_lemma =>
        have HZ5 : Hid (Below wz.heap.size wz w5) := Lib.hid (HZ.out.trans (HB5.out.mono HZ.out.size))
        have HV5 := Lib.hid (HVW.out.kept HB5.out)
        have HW5 : Hid (Below w.heap.size w w5) := Lib.hid (HWW.out.trans (HB5.out.mono HWW.out.size))
        obtain ⟨y, hy⟩ : ∃ y, xch x k = y := ⟨_, rfl⟩
        have hyl : y.length = A0 := by rw [← hy, xch_len, HXL.out]
        have htr : Tr edep x y := by rw [← hy]; exact tr_xch HE.out HF.out HD.out
        have hbx : ∀ i j, hbd edep y (trn k i) (trn k j) = hbd edep x i j := fun i j => by rw [← hy]; exact hbd_xch HE.out HF.out HD.out
        rw [hy] at HE2
        have HKY := Lib.hid (HK.out.tr htr)
        have HBX := Lib.hid hbx
        have HN1 := Lib.hid (HNw x _ w5 HV5.out HK.out)
        clear hy hyl htr hbx
        go_wp2_with (go_at_call 10; refine Hid.out ?_)
        refine Lib.hid ?_
        refine HN1.out.mono ?_
        rintro r w6 ⟨v6, rfl, ⟨po, mo, co, rfl, ho⟩, hb⟩
        have HE6 := Lib.hid (HE2.out.kept hb)
        have HZ6 : Hid (Below wz.heap.size wz w6) := Lib.hid (HZ5.out.trans (hb.mono HZ5.out.size))
        have HW6 : Hid (Below w.heap.size w w6) := Lib.hid (HW5.out.trans (hb.mono HW5.out.size))
        have HO6 := Lib.hid ho
        have HN2 := Lib.hid (HNw y _ w6 HE6.out HKY.out)
        clear hb ho HN1
        go_wp2_with (go_at_call 10; refine Hid.out ?_)
        refine Lib.hid ?_
        refine HN2.out.mono ?_
        rintro r w7 ⟨v7, rfl, ⟨pp, mp, cp, rfl, hp⟩, hb⟩
        have HZ7 : Hid (Below wz.heap.size wz w7) := Lib.hid (HZ6.out.trans (hb.mono HZ6.out.size))
        have HW7 : Hid (Below w.heap.size w w7) := Lib.hid (HW6.out.trans (hb.mono HW6.out.size))
        have HO7 := Lib.hid (HKp _ _ _ _ HO6.out hb)
        have HP7 := Lib.hid hp
        clear hb hp HN2
        have hg1 := heap_alloc_new w7 (Obj.cells #[Value.slice po mo co] 29)
        have hW1 := below_alloc w7 (Obj.cells #[Value.slice po mo co] 29)
        have hg2 := heap_alloc_new (w7.alloc (Obj.cells #[Value.slice po mo co] 29)) (Obj.cells #[Value.slice pp mp cp] 29)
        have hW2 := below_alloc (w7.alloc (Obj.cells #[Value.slice po mo co] 29)) (Obj.cells #[Value.slice pp mp cp] 29)
        have hg1' := (hW2.block w7.heap.size (lt_of_block hg1)).trans hg1
        have hsz : (w7.alloc (Obj.cells #[Value.slice po mo co] 29)).heap.size = w7.heap.size + 1 := by simp
        rw [hsz] at hg2
        have hW12 := hW1.trans (hW2.mono hW1.size)
        obtain ⟨w8, hw8'⟩ : ∃ w8, (w7.alloc (Obj.cells #[Value.slice po mo co] 29)).alloc (Obj.cells #[Value.slice pp mp cp] 29) = w8 := ⟨_, rfl⟩
        rw [hw8'] at hg2 hg1' hW12
        obtain ⟨Z1, hZ1⟩ : ∃ Z, w7.heap.size = Z := ⟨_, rfl⟩
        obtain ⟨Z2, hZ2⟩ : ∃ Z, w7.heap.size + 1 = Z := ⟨_, rfl⟩
        have HZ8 : Hid (Below wz.heap.size wz w8) := Lib.hid (HZ7.out.trans (hW12.mono HZ7.out.size))
        have HW8 : Hid (Below w.heap.size w w8) := Lib.hid (HW7.out.trans (hW12.mono HW7.out.size))
        have HO8 := Lib.hid (HKp _ _ _ _ HO7.out hW12)
        have HP8 := Lib.hid (HKp _ _ _ _ HP7.out hW12)
        rw [hZ1] at hg1'
        rw [hZ2] at hg2
        have HBOX : Hid (∀ W, Below w8.heap.size w8 W → W.cell? ⟨KB, 0, Option.none⟩ = some (.int .i64 (k : Int)) ∧ W.cell? ⟨Z1, 0, Option.none⟩ = some (.slice po mo co) ∧ W.cell? ⟨Z2, 0, Option.none⟩ = some (.slice pp mp cp)) := Lib.hid fun W kk => by
          refine ⟨(HKEEP.out W (HZ8.out.trans (kk.mono HZ8.out.size))).2.1, ?_, ?_⟩
          · rw [kk.cell (p := ⟨Z1, 0, Option.none⟩) (lt_of_block hg1'), cell_of_row _ _ _ _ _ _ hg1']; rfl
          · rw [kk.cell (p := ⟨Z2, 0, Option.none⟩) (lt_of_block hg2), cell_of_row _ _ _ _ _ _ hg2]; rfl
        have HW8E := Lib.hid hw8'
        have HZE1 := Lib.hid hZ1
        have HZE2 := Lib.hid hZ2
        clear hg1 hW1 hg2 hW2 hg1' hsz hW12 hw8' hZ1 hZ2
        go_wp2
        rw [HW8E.out, HZE2.out, HZE1.out]
        go_loopw [74] (fun s74 wr => ∃ (i : Nat), s74 = .int .i64 (i : Int) ∧ i ≤ A0 ∧ Below w8.heap.size w8 wr) (fun s _ => A0 - (intOf s).toNat)
        case atStart => exact ⟨0, rfl, by omega, Below.refl _ _⟩
        case round =>
          as_aux_lemma =>
            obtain ⟨i, rfl, hi, hb⟩ := hrel
            have HBI := Lib.hid hb
            clear hb
            by_cases hlti : i < A0
            · go_wp2
              go_loopw [79] (fun s79 wr => ∃ (j : Nat), s79 = .int .i64 (j : Int) ∧ j ≤ A0 ∧ Below w8.heap.size w8 wr) (fun s _ => A0 - (intOf s).toNat)
              case atStart => exact ⟨0, rfl, by omega, HBI.out⟩
              case round =>
                clear HBI
                obtain ⟨j, rfl, hj, hb⟩ := hrel
                have HBJ := Lib.hid hb
                clear hb
                by_cases hltj : j < A0
                · obtain ⟨wy, rfl⟩ : ∃ wy, wy = wr := ⟨_, rfl⟩
                  have keep : ∀ W, Below wy.heap.size wy W → (Below wy.heap.size wy W ∧ W.cell? ⟨KB, 0, Option.none⟩ = some (.int .i64 (k : Int)) ∧ W.cell? ⟨Z1, 0, Option.none⟩ = some (.slice po mo co) ∧ W.cell? ⟨Z2, 0, Option.none⟩ = some (.slice pp mp cp)) := fun W kk => ⟨kk, HBOX.out W (HBJ.out.trans (kk.mono HBJ.out.size))⟩
                  have T1 : Hid (∀ W, (Below wy.heap.size wy W ∧ W.cell? ⟨KB, 0, Option.none⟩ = some (.int .i64 (k : Int)) ∧ W.cell? ⟨Z1, 0, Option.none⟩ = some (.slice po mo co) ∧ W.cell? ⟨Z2, 0, Option.none⟩ = some (.slice pp mp cp)) → Calls Try.prog 17 #[.int .i64 (i : Int), .pointer (some ⟨KB, 0, Option.none⟩)] W fun e w' => e = .returned (.int .i64 (trn k i : Nat)) ∧ (Below wy.heap.size wy w' ∧ w'.cell? ⟨KB, 0, Option.none⟩ = some (.int .i64 (k : Int)) ∧ w'.cell? ⟨Z1, 0, Option.none⟩ = some (.slice po mo co) ∧ w'.cell? ⟨Z2, 0, Option.none⟩ = some (.slice pp mp cp))) := Lib.hid fun W kk => by
                    refine (turn27 i k (by omega) (by omega) KB W kk.2.1).mono ?_
                    rintro e w' ⟨rfl, rfl⟩
                    exact ⟨rfl, kk⟩
                  have T2 : Hid (∀ W, (Below wy.heap.size wy W ∧ W.cell? ⟨KB, 0, Option.none⟩ = some (.int .i64 (k : Int)) ∧ W.cell? ⟨Z1, 0, Option.none⟩ = some (.slice po mo co) ∧ W.cell? ⟨Z2, 0, Option.none⟩ = some (.slice pp mp cp)) → Calls Try.prog 17 #[.int .i64 (j : Int), .pointer (some ⟨KB, 0, Option.none⟩)] W fun e w' => e = .returned (.int .i64 (trn k j : Nat)) ∧ (Below wy.heap.size wy w' ∧ w'.cell? ⟨KB, 0, Option.none⟩ = some (.int .i64 (k : Int)) ∧ w'.cell? ⟨Z1, 0, Option.none⟩ = some (.slice po mo co) ∧ w'.cell? ⟨Z2, 0, Option.none⟩ = some (.slice pp mp cp))) := Lib.hid fun W kk => by
                    refine (turn27 j k (by omega) (by omega) KB W kk.2.1).mono ?_
                    rintro e w' ⟨rfl, rfl⟩
                    exact ⟨rfl, kk⟩
                  have K1 : Hid (∀ W, (Below wy.heap.size wy W ∧ W.cell? ⟨KB, 0, Option.none⟩ = some (.int .i64 (k : Int)) ∧ W.cell? ⟨Z1, 0, Option.none⟩ = some (.slice po mo co) ∧ W.cell? ⟨Z2, 0, Option.none⟩ = some (.slice pp mp cp)) → Calls Try.prog 12 #[.agg #[.slice po mo co], .int .i64 (i : Int), .int .i64 (j : Int)] W fun r w' => r = .returned (.bool (hbd edep x i j)) ∧ (Below wy.heap.size wy w' ∧ w'.cell? ⟨KB, 0, Option.none⟩ = some (.int .i64 (k : Int)) ∧ w'.cell? ⟨Z1, 0, Option.none⟩ = some (.slice po mo co) ∧ w'.cell? ⟨Z2, 0, Option.none⟩ = some (.slice pp mp cp))) := Lib.hid fun W kk => by
                    have kw := HBJ.out.trans (kk.1.mono HBJ.out.size)
                    have h1 := HBf x po mo co (i : Int) (j : Int) W (HKp _ _ _ _ HO8.out kw) HK.out
                    rw [hbI_nat] at h1
                    refine h1.mono ?_
                    rintro r w' ⟨rfl, hb⟩
                    exact ⟨rfl, keep w' (kk.1.trans (hb.mono kk.1.size))⟩
                  have K2 : Hid (∀ W, (Below wy.heap.size wy W ∧ W.cell? ⟨KB, 0, Option.none⟩ = some (.int .i64 (k : Int)) ∧ W.cell? ⟨Z1, 0, Option.none⟩ = some (.slice po mo co) ∧ W.cell? ⟨Z2, 0, Option.none⟩ = some (.slice pp mp cp)) → Calls Try.prog 12 #[.agg #[.slice pp mp cp], .int .i64 (trn k i : Nat), .int .i64 (trn k j : Nat)] W fun r w' => r = .returned (.bool (hbd edep x i j)) ∧ (Below wy.heap.size wy w' ∧ w'.cell? ⟨KB, 0, Option.none⟩ = some (.int .i64 (k : Int)) ∧ w'.cell? ⟨Z1, 0, Option.none⟩ = some (.slice po mo co) ∧ w'.cell? ⟨Z2, 0, Option.none⟩ = some (.slice pp mp cp))) := Lib.hid fun W kk => by
                    have kw := HBJ.out.trans (kk.1.mono HBJ.out.size)
                    have h1 := HBf y pp mp cp (trn k i : Nat) (trn k j : Nat) W (HKp _ _ _ _ HP8.out kw) HKY.out
                    rw [hbI_nat, HBX.out] at h1
                    refine h1.mono ?_
                    rintro r w' ⟨rfl, hb⟩
                    exact ⟨rfl, keep w' (kk.1.trans (hb.mono kk.1.size))⟩
                  have hs0 := keep wy.drew ⟨rfl, rfl, rfl, Nat.le_refl _, fun _ _ => rfl⟩
                  obtain ⟨t1, ht1⟩ : ∃ t, trn k i = t := ⟨_, rfl⟩
                  obtain ⟨t2, ht2⟩ : ∃ t, trn k j = t := ⟨_, rfl⟩
                  obtain ⟨d, hd⟩ : ∃ d, hbd edep x i j = d := ⟨_, rfl⟩
                  rw [ht1] at T1 K2
                  rw [ht2] at T2 K2
                  rw [hd] at K1 K2
                  have hdd : (d != d) = false := by simp
                  have eg := eg27
                  clear keep ht1 ht2 hd
                  go_wp2_with fail
                  refine wp_region_held_drew (S := fun w' => (Below wy.heap.size wy w' ∧ w'.cell? ⟨KB, 0, Option.none⟩ = some (.int .i64 (k : Int)) ∧ w'.cell? ⟨Z1, 0, Option.none⟩ = some (.slice po mo co) ∧ w'.cell? ⟨Z2, 0, Option.none⟩ = some (.slice pp mp cp))) (by kernel_rfl) hs0 (fun hX1 => ?_)
                  clear hX1
                  refine wpAnyH_take (i := 0) (oi := ⟨_, _, _, _, _, _⟩) (v := .agg #[.slice po mo co]) rfl (by kernel_rfl) (by kernel_rfl) (by kernel_rfl) (fun _ _ _ h => h) (Or.inl ⟨by rfl, fun w hSw => by obtain ⟨_, z1, z2, z3⟩ := hSw; go_simp⟩) hs0 ?_
                  try simp only [Act.put, List.setIfInBounds_toArray, List.set_cons_zero, List.set_cons_succ]
                  refine wpAnyH_take (i := 1) (oi := ⟨_, _, _, _, _, _⟩) (v := .int .i64 (i : Int)) rfl (by kernel_rfl) (by kernel_rfl) (by kernel_rfl) (fun _ _ _ h => h) (Or.inl ⟨by rfl, fun w hSw => by go_simp⟩) hs0 ?_
                  try simp only [Act.put, List.setIfInBounds_toArray, List.set_cons_zero, List.set_cons_succ]
                  refine wpAnyH_take (i := 2) (oi := ⟨_, _, _, _, _, _⟩) (v := .int .i64 (j : Int)) rfl (by kernel_rfl) (by kernel_rfl) (by kernel_rfl) (fun _ _ _ h => h) (Or.inl ⟨by rfl, fun w hSw => by go_simp⟩) hs0 ?_
                  try simp only [Act.put, List.setIfInBounds_toArray, List.set_cons_zero, List.set_cons_succ]
                  refine wpAnyH_take (i := 4) (oi := ⟨_, _, _, _, _, _⟩) (v := .agg #[.slice pp mp cp]) rfl (by kernel_rfl) (by kernel_rfl) (by kernel_rfl) (fun _ _ _ h => h) (Or.inl ⟨by rfl, fun w hSw => by obtain ⟨_, z1, z2, z3⟩ := hSw; go_simp⟩) hs0 ?_
                  try simp only [Act.put, List.setIfInBounds_toArray, List.set_cons_zero, List.set_cons_succ]
                  refine wpAnyH_take (i := 5) (oi := ⟨_, _, _, _, _, _⟩) (v := .func (.func 17) #[] #[.pointer (some ⟨KB, 0, Option.none⟩)]) rfl (by kernel_rfl) (by kernel_rfl) (by kernel_rfl) (fun _ _ _ h => h) (Or.inl ⟨by rfl, fun w hSw => by go_simp⟩) hs0 ?_
                  try simp only [Act.put, List.setIfInBounds_toArray, List.set_cons_zero, List.set_cons_succ]
                  refine wpAnyH_take (i := 6) (oi := ⟨_, _, _, _, _, _⟩) (v := .int .i64 (i : Int)) rfl (by kernel_rfl) (by kernel_rfl) (by kernel_rfl) (fun _ _ _ h => h) (Or.inl ⟨by rfl, fun w hSw => by go_simp⟩) hs0 ?_
                  try simp only [Act.put, List.setIfInBounds_toArray, List.set_cons_zero, List.set_cons_succ]
                  refine wpAnyH_take (i := 8) (oi := ⟨_, _, _, _, _, _⟩) (v := .func (.func 17) #[] #[.pointer (some ⟨KB, 0, Option.none⟩)]) rfl (by kernel_rfl) (by kernel_rfl) (by kernel_rfl) (fun _ _ _ h => h) (Or.inl ⟨by rfl, fun w hSw => by go_simp⟩) hs0 ?_
                  try simp only [Act.put, List.setIfInBounds_toArray, List.set_cons_zero, List.set_cons_succ]
                  refine wpAnyH_take (i := 9) (oi := ⟨_, _, _, _, _, _⟩) (v := .int .i64 (j : Int)) rfl (by kernel_rfl) (by kernel_rfl) (by kernel_rfl) (fun _ _ _ h => h) (Or.inl ⟨by rfl, fun w hSw => by go_simp⟩) hs0 ?_
                  try simp only [Act.put, List.setIfInBounds_toArray, List.set_cons_zero, List.set_cons_succ]
                  refine wpAnyH_ready (rs := [3]) (by kernel_rfl) (by simp) ?_
                  refine AllReadyH.cons (o := ⟨_, _, _, _, _, _⟩) rfl (fun K hK => ?_) AllReadyH.nil
                  go_simp
                  go_at_call 12
                  refine (K1.out _ hs0).mono ?_
                  rintro r w' ⟨rfl, hsA⟩
                  refine hK.out _ _ hsA (fun hX2 => ?_)
                  clear hX2
                  clear hK K
                  try simp only [Act.put, List.setIfInBounds_toArray, List.set_cons_zero, List.set_cons_succ]
                  refine wpAnyH_ready (rs := [7]) (by kernel_rfl) (by simp) ?_
                  refine AllReadyH.cons (o := ⟨_, _, _, _, _, _⟩) rfl (fun K hK => ?_) AllReadyH.nil
                  go_simp
                  go_at_call 17
                  refine (T1.out _ hsA).mono ?_
                  rintro r w' ⟨rfl, hsB⟩
                  refine hK.out _ _ hsB (fun hX2 => ?_)
                  clear hX2
                  clear hK K
                  try simp only [Act.put, List.setIfInBounds_toArray, List.set_cons_zero, List.set_cons_succ]
                  refine wpAnyH_ready (rs := [10]) (by kernel_rfl) (by simp) ?_
                  refine AllReadyH.cons (o := ⟨_, _, _, _, _, _⟩) rfl (fun K hK => ?_) AllReadyH.nil
                  go_simp
                  go_at_call 17
                  refine (T2.out _ hsB).mono ?_
                  rintro r w' ⟨rfl, hsC⟩
                  refine hK.out _ _ hsC (fun hX2 => ?_)
                  clear hX2
                  clear hK K
                  try simp only [Act.put, List.setIfInBounds_toArray, List.set_cons_zero, List.set_cons_succ]
                  refine wpAnyH_ready (rs := [11]) (by kernel_rfl) (by simp) ?_
                  refine AllReadyH.cons (o := ⟨_, _, _, _, _, _⟩) rfl (fun K hK => ?_) AllReadyH.nil
                  go_simp
                  go_at_call 12
                  refine (K2.out _ hsC).mono ?_
                  rintro r w' ⟨rfl, hsD⟩
                  refine hK.out _ _ hsD (fun hX2 => ?_)
                  clear hX2
                  clear hK K
                  try simp only [Act.put, List.setIfInBounds_toArray, List.set_cons_zero, List.set_cons_succ]
                  refine wpAnyH_take (i := 12) (oi := ⟨_, _, _, _, _, _⟩) (v := .bool false) rfl (by kernel_rfl) (by kernel_rfl) (by kernel_rfl) (fun _ _ _ h => h) (Or.inl ⟨by rfl, fun w hSw => by go_simp⟩) hsD ?_
                  try simp only [Act.put, List.setIfInBounds_toArray, List.set_cons_zero, List.set_cons_succ]
                  refine wpAnyH_done (by kernel_rfl) ?_ _
                  have HZ9 : Hid (Below w8.heap.size w8 w') := Lib.hid (HBJ.out.trans (hsD.1.mono HBJ.out.size))
                  clear hsA hsB hsC hsD hs0 T1 T2 K1 K2
                  go_wp2
                  go_roundw
                  case rel => exact ⟨j + 1, by go_num, by omega, HZ9.out⟩
                  case measure => simp [intOf] <;> omega
                · obtain rfl : j = A0 := by omega
                  go_wp2
                  go_roundw
                  case rel => exact ⟨i + 1, by go_num, by omega, HBJ.out⟩
                  case measure => simp [intOf] <;> omega
            · obtain rfl : i = A0 := by omega
              have HR : Hid (Below w.heap.size w wr) := Lib.hid (HW8.out.trans (HBI.out.mono HW8.out.size))
              go_wp2
              go_ret
              exact ⟨rfl, HR.out⟩
end Go.Proofs.Ytdcabhlgaecbiaa
