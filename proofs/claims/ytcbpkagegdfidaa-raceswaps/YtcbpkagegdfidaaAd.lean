/- The law's Ahead. -/
import Derived.Test.YtcbpkagegdfidaaAe
import Derived.Test.YtcbpkagegdfidaaCt
set_option linter.unusedSimpArgs false
set_option linter.unusedVariables false
namespace Go.Proofs.Ytcbpkagegdfidaa
open Go.RowKit

set_option maxRecDepth 100000 in
set_option maxHeartbeats 16000000 in
theorem ahead_any (x : List (Int × List (Int × Bool))) (v : Value) (w : World) (hs : EvS w v x) (hl : x.length ≤ 1000) (h8 : ∀ e ∈ x, e.2.length ≤ 1000) : Calls Try.prog 14 #[v] w fun e w' => ∃ B A us, e = .returned (.slice (some ⟨B, 0, Option.none⟩) A A) ∧ A = x.length ∧ AhI edep x w w' B A A us ∧ Below w.heap.size w w' := by
  have HS := Lib.hid hs
  obtain ⟨p, cap, rfl, hcap, hcm, h4⟩ := hs
  obtain ⟨A, hA⟩ : ∃ A, x.length = A := ⟨_, rfl⟩
  rw [hA] at HS hcap hl ⊢
  have HA := Lib.hid hA
  have H4 := Lib.hid h4
  have H8 := Lib.hid h8
  obtain ⟨i0, hi, hz0, hz1, hz2⟩ := sl_info
  clear hA h4 h8
  go_enter Try.func14, Try.ntmps14
  go_wp2_with (at_make; refine wpList_make_full _ rfl (.tmp 9) (.tmp 9) 34 rfl w.heap.size 40 i0 _ 1 Try.underlying34 hi hz0 hz1 .i64 .i64 (A : Int) (A : Int) A rfl rfl rfl rfl (by rw [hz2]; omega) (by unfold maxLen; omega) (Nat.le_refl _) ?_)
  intro w1 hown hgr
  obtain ⟨B, hB⟩ : ∃ B, w.heap.size = B := ⟨_, rfl⟩
  have hAh : AhI edep x w w1 w.heap.size A 0 (madeCells #[.slice Option.none 0 0] A).toList := by
    refine ⟨hown, fun j u hj => by omega, fun j u _ hu => ?_⟩
    have hm := List.mem_of_getElem? hu
    simp only [madeCells, Array.toList_map, List.mem_map] at hm
    obtain ⟨q, _, rfl⟩ := hm
    simp [Nat.mod_one]
  have HAI := Lib.hid hAh
  have HB1 : Hid (Below w.heap.size w w1) := Lib.hid ((Below.refl _ w).grown hgr (Nat.le_refl _) (fun k hk => by cases hk))
  clear hown hgr hAh hi hz0 hz1 hz2
  generalize (madeCells #[Value.slice Option.none 0 0] A).toList = us0 at HAI
  go_wp2
  rw [hB] at HAI ⊢
  have HBB := Lib.hid hB
  clear hB
  go_loopw [13] (fun s13 wr => ∃ (J : Nat) (us : List Value), s13 = .int .i64 (J : Int) ∧ J ≤ A ∧ AhI edep x w wr B A J us ∧ Below w.heap.size w wr) (fun s _ => A - (intOf s).toNat)
  case atStart => exact ⟨0, us0, rfl, by omega, HAI.out, HB1.out⟩
  case round =>
    clear HAI HB1
    obtain ⟨J, us, rfl, hJ, hi, hb⟩ := hrel
    have HI := Lib.hid hi
    have HB := Lib.hid hb
    clear hi hb
    by_cases hlt : J < A
    · obtain ⟨f, hf⟩ : ∃ f, x[J]? = some f := ⟨_, List.getElem?_eq_getElem (by rw [HA.out]; exact hlt)⟩
      obtain ⟨b, o, rfl, hbb, hr⟩ : ∃ b o, p = some ⟨b, o, Option.none⟩ ∧ b < w.heap.size ∧ EvR w b o x := by
        rcases H4.out with ⟨_, e⟩ | h
        · rw [e] at hf; simp at hf
        · exact h
      have HR := Lib.hid hr
      have HF := Lib.hid hf
      clear hr hf
      obtain ⟨wj, rfl⟩ : ∃ wj, wj = wr := ⟨_, rfl⟩
      obtain ⟨qf, mf, cf, hfc⟩ := HR.out.at hbb HF.out
      have HFC := Lib.hid hfc
      obtain ⟨u0, hu0⟩ : ∃ u0, us[J]? = some u0 := ⟨_, List.getElem?_eq_getElem (by have := HI.out.own.1; omega)⟩
      have hu0n := HI.out.rest J u0 (Nat.le_refl _) hu0
      subst hu0n
      have HU0 := Lib.hid hu0
      clear hfc hu0
      go_wp2
      go_loopw [17] (fun s17 wi => ∃ (i : Nat) (u : Value), s17 = .int .i64 (i : Int) ∧ i ≤ J ∧ wi.ownsRow w.heap.size 40 1 (.slice (some ⟨B, 0, Option.none⟩) A A) A (us.set J u) ∧ wi.ownsRow wj.heap.size 3 1 u (ahn edep x J i).length (nvs (ahn edep x J i)) ∧ Below w.heap.size w wi ∧ Exb B wj wi) (fun s _ => J - (intOf s).toNat)
      case atStart =>
        refine ⟨0, .slice Option.none 0 0, rfl, by omega, ?_, by simpa [ahn, nvs] using World.ownsRow_nil _ _ _ _, HB.out, Exb.refl _ _⟩
        rw [set_same HU0.out]; exact HI.out.own
      case round =>
        obtain ⟨i, u, rfl, hiJ, hown, hrow, hbw, hex⟩ := hrel
        have HOWN := Lib.hid hown
        have HROW := Lib.hid hrow
        have HBW := Lib.hid hbw
        have HEX := Lib.hid hex
        clear hown hrow hbw hex
        by_cases hlti : i < J
        · obtain ⟨e, he⟩ : ∃ e, x[i]? = some e := ⟨_, List.getElem?_eq_getElem (by rw [HA.out]; omega)⟩
          obtain ⟨qe, me, ce, hec⟩ := HR.out.at hbb he
          have HE := Lib.hid he
          have HEC := Lib.hid hec
          clear he hec
          obtain ⟨wz, rfl⟩ : ∃ wz, wz = wr := ⟨_, rfl⟩
          have hJl : (J : Int) < (A : Int) := by omega
          have hil : (i : Int) < (A : Int) := by omega
          have keep : ∀ W, Below wz.heap.size wz W → (Below wz.heap.size wz W ∧ W.cell? ⟨b, o + i * 2, Option.none⟩ = some (.int .i64 e.1) ∧ W.cell? ⟨b, o + i * 2 + 1, Option.none⟩ = some (.slice qe me ce) ∧ W.cell? ⟨b, o + J * 2, Option.none⟩ = some (.int .i64 f.1) ∧ W.cell? ⟨b, o + J * 2 + 1, Option.none⟩ = some (.slice qf mf cf)) := fun W k => by
            have kw := HBW.out.trans (k.mono HBW.out.size)
            have h1 := HEC.out W kw
            have h2 := HFC.out W kw
            exact ⟨k, h1.1, h1.2.1, h2.1, h2.2.1⟩
          have K1 : Hid (∀ W, (Below wz.heap.size wz W ∧ W.cell? ⟨b, o + i * 2, Option.none⟩ = some (.int .i64 e.1) ∧ W.cell? ⟨b, o + i * 2 + 1, Option.none⟩ = some (.slice qe me ce) ∧ W.cell? ⟨b, o + J * 2, Option.none⟩ = some (.int .i64 f.1) ∧ W.cell? ⟨b, o + J * 2 + 1, Option.none⟩ = some (.slice qf mf cf)) → Calls Try.prog 17 #[.agg #[.int .i64 e.1, .slice qe me ce], .agg #[.int .i64 f.1, .slice qf mf cf]] W fun r w' => r = .returned (.bool (edep e f)) ∧ (Below wz.heap.size wz w' ∧ w'.cell? ⟨b, o + i * 2, Option.none⟩ = some (.int .i64 e.1) ∧ w'.cell? ⟨b, o + i * 2 + 1, Option.none⟩ = some (.slice qe me ce) ∧ w'.cell? ⟨b, o + J * 2, Option.none⟩ = some (.int .i64 f.1) ∧ w'.cell? ⟨b, o + J * 2 + 1, Option.none⟩ = some (.slice qf mf cf))) := Lib.hid fun W k => by
            have kw := HBW.out.trans (k.1.mono HBW.out.size)
            refine (depend_at e f _ _ W (HEC.out W kw).2.2 (HFC.out W kw).2.2 (H8.out e (List.mem_of_getElem? HE.out)) (H8.out f (List.mem_of_getElem? HF.out))).mono ?_
            rintro r w' ⟨rfl, hb⟩
            exact ⟨rfl, keep w' (k.1.trans (hb.mono k.1.size))⟩
          have hs0 := keep wz.drew ⟨rfl, rfl, rfl, Nat.le_refl _, fun _ _ => rfl⟩
          have KEEP := Lib.hid keep
          clear keep
          go_wp2_with fail
          go_region_held3 (fun w' => (Below wz.heap.size wz w' ∧ w'.cell? ⟨b, o + i * 2, Option.none⟩ = some (.int .i64 e.1) ∧ w'.cell? ⟨b, o + i * 2 + 1, Option.none⟩ = some (.slice qe me ce) ∧ w'.cell? ⟨b, o + J * 2, Option.none⟩ = some (.int .i64 f.1) ∧ w'.cell? ⟨b, o + J * 2 + 1, Option.none⟩ = some (.slice qf mf cf)))
            (first | exact hs0 | assumption)
            (first
              | (go_at_call 17; refine (K1.out _ (by assumption)).mono ?_; rintro e w' ⟨rfl, hsA⟩))
          have HZ : Hid (Below wz.heap.size wz w') := Lib.hid hsA.1
          clear hsA hs0
          rename_i hH
          clear hH
          go_wp2
          go_loopw [6, 7] (fun s6 s7 wk => ∃ (k : Nat) (ok : Bool), s6 = .bool ok ∧ s7 = .int .i64 (k : Int) ∧ i + 1 ≤ k ∧ k ≤ J ∧ ok = hbm edep x i J k ∧ Below wz.heap.size wz wk) (fun _ s _ => J - (intOf s).toNat)
          case atStart => exact ⟨i + 1, edep e f, rfl, by go_num, by omega, by omega, (hbm_start HE.out HF.out).symm, HZ.out⟩
          case round =>
            clear HZ K1
            obtain ⟨k, ok, rfl, rfl, hk1, hkJ, hok, hbk⟩ := hrel
            have HK := Lib.hid hok
            have HBK := Lib.hid hbk
            clear hok hbk
            by_cases hltk : k < J
            · obtain ⟨g, hg⟩ : ∃ g, x[k]? = some g := ⟨_, List.getElem?_eq_getElem (by rw [HA.out]; omega)⟩
              obtain ⟨qg, mg, cg, hgc⟩ := HR.out.at hbb hg
              obtain ⟨uk, huk⟩ : ∃ uk, us[k]? = some uk := ⟨_, List.getElem?_eq_getElem (by have := HI.out.own.1; omega)⟩
              obtain ⟨hns, hnb⟩ := HI.out.rows k uk hltk huk
              have hnz := hns.ex HEX.out hnb
              obtain ⟨pk, ck, huke, _⟩ := id hns
              obtain ⟨mk, hmk⟩ : ∃ mk, (ahd edep x k).length = mk := ⟨_, rfl⟩
              rw [hmk] at huke
              subst huke
              have hml : (ahd edep x k).length ≤ 1000 := by have := ahn_len (dep := edep) (x := x) k k; unfold ahn at this; unfold ahd; omega
              have hkl : (k : Int) < (A : Int) := by omega
              have wr0 : Hid (∃ z, z = wr) := Lib.hid ⟨_, rfl⟩
              have keep : ∀ W, Below wz.heap.size wz W → (Below wz.heap.size wz W ∧ W.cell? ⟨b, o + k * 2, Option.none⟩ = some (.int .i64 g.1) ∧ W.cell? ⟨b, o + k * 2 + 1, Option.none⟩ = some (.slice qg mg cg) ∧ W.cell? ⟨b, o + J * 2, Option.none⟩ = some (.int .i64 f.1) ∧ W.cell? ⟨b, o + J * 2 + 1, Option.none⟩ = some (.slice qf mf cf) ∧ W.cell? ⟨B, k, Option.none⟩ = some (.slice pk mk ck)) := fun W kk => by
                have kw := HBW.out.trans (kk.mono HBW.out.size)
                have h1 := hgc W kw
                have h2 := HFC.out W kw
                refine ⟨kk, h1.1, h1.2.1, h2.1, h2.2.1, ?_⟩
                rw [(own_kept HOWN.out kk).cellAt k (by omega), List.getElem?_set_ne (by omega)]
                exact huk
              have K2 : Hid (∀ W, (Below wz.heap.size wz W ∧ W.cell? ⟨b, o + k * 2, Option.none⟩ = some (.int .i64 g.1) ∧ W.cell? ⟨b, o + k * 2 + 1, Option.none⟩ = some (.slice qg mg cg) ∧ W.cell? ⟨b, o + J * 2, Option.none⟩ = some (.int .i64 f.1) ∧ W.cell? ⟨b, o + J * 2 + 1, Option.none⟩ = some (.slice qf mf cf) ∧ W.cell? ⟨B, k, Option.none⟩ = some (.slice pk mk ck)) → Calls Try.prog 17 #[.agg #[.int .i64 g.1, .slice qg mg cg], .agg #[.int .i64 f.1, .slice qf mf cf]] W fun r w' => r = .returned (.bool (edep g f)) ∧ (Below wz.heap.size wz w' ∧ w'.cell? ⟨b, o + k * 2, Option.none⟩ = some (.int .i64 g.1) ∧ w'.cell? ⟨b, o + k * 2 + 1, Option.none⟩ = some (.slice qg mg cg) ∧ w'.cell? ⟨b, o + J * 2, Option.none⟩ = some (.int .i64 f.1) ∧ w'.cell? ⟨b, o + J * 2 + 1, Option.none⟩ = some (.slice qf mf cf) ∧ w'.cell? ⟨B, k, Option.none⟩ = some (.slice pk mk ck))) := Lib.hid fun W kk => by
                have kw := HBW.out.trans (kk.1.mono HBW.out.size)
                refine (depend_at g f _ _ W (hgc W kw).2.2 (HFC.out W kw).2.2 (H8.out g (List.mem_of_getElem? hg)) (H8.out f (List.mem_of_getElem? HF.out))).mono ?_
                rintro r w' ⟨rfl, hb⟩
                exact ⟨rfl, keep w' (kk.1.trans (hb.mono kk.1.size))⟩
              have K3 : Hid (∀ W, (Below wz.heap.size wz W ∧ W.cell? ⟨b, o + k * 2, Option.none⟩ = some (.int .i64 g.1) ∧ W.cell? ⟨b, o + k * 2 + 1, Option.none⟩ = some (.slice qg mg cg) ∧ W.cell? ⟨b, o + J * 2, Option.none⟩ = some (.int .i64 f.1) ∧ W.cell? ⟨b, o + J * 2 + 1, Option.none⟩ = some (.slice qf mf cf) ∧ W.cell? ⟨B, k, Option.none⟩ = some (.slice pk mk ck)) → Calls Try.prog 15 #[.slice pk mk ck, .int .i64 (i : Int)] W fun r w' => r = .returned (.bool (decide (i ∈ ahd edep x k))) ∧ (Below wz.heap.size wz w' ∧ w'.cell? ⟨b, o + k * 2, Option.none⟩ = some (.int .i64 g.1) ∧ w'.cell? ⟨b, o + k * 2 + 1, Option.none⟩ = some (.slice qg mg cg) ∧ w'.cell? ⟨b, o + J * 2, Option.none⟩ = some (.int .i64 f.1) ∧ w'.cell? ⟨b, o + J * 2 + 1, Option.none⟩ = some (.slice qf mf cf) ∧ w'.cell? ⟨B, k, Option.none⟩ = some (.slice pk mk ck))) := Lib.hid fun W kk => by
                refine (contains_any (ahd edep x k) i _ W (hnz.kept kk.1) hml).mono ?_
                rintro r w' ⟨rfl, rfl⟩
                exact ⟨rfl, kk⟩
              have hstep := hbm_step (dep := edep) (x := x) (i := i) (j := J) (m := k) (by omega) hg HF.out
              have hdc : decide (i ∈ ahd edep x k) = hbd edep x i k := by unfold hbd; exact decide_eq_decide.2 mem_ahd
              rw [hdc] at K3
              have hs0 := keep wr.drew (HBK.out.trans ⟨rfl, rfl, rfl, Nat.le_refl _, fun _ _ => rfl⟩)
              rw [← HK.out] at hstep
              have HST := Lib.hid hstep
              clear keep hstep hdc hgc hg huk hns hnb hnz hmk hml HK wr0
              generalize edep g f = d at *
              generalize hbd edep x i k = c at *
              cases d with
              | false =>
                go_wp2_with fail
                obtain ⟨_, y1, y2, y3, y4, y5⟩ := id hs0
                first
                | go_region_with (first | (go_at_call 17; refine (K2.out _ hs0).mono ?_; rintro r w' ⟨rfl, hsA⟩))
                | fail
                all_goals
                  have HZ : Hid (Below wz.heap.size wz w') := Lib.hid hsA.1
                  clear hsA hs0 y1 y2 y3 y4 y5
                  go_wp2
                  go_roundw
                  case rel => exact ⟨k + 1, ok, rfl, by go_num, by omega, by omega, by rw [HST.out]; simp, HZ.out⟩
                  case measure => simp [intOf]; omega
              | true =>
                cases c with
                | false =>
                  go_wp2_with fail
                  go_region_held3 (fun w' => (Below wz.heap.size wz w' ∧ w'.cell? ⟨b, o + k * 2, Option.none⟩ = some (.int .i64 g.1) ∧ w'.cell? ⟨b, o + k * 2 + 1, Option.none⟩ = some (.slice qg mg cg) ∧ w'.cell? ⟨b, o + J * 2, Option.none⟩ = some (.int .i64 f.1) ∧ w'.cell? ⟨b, o + J * 2 + 1, Option.none⟩ = some (.slice qf mf cf) ∧ w'.cell? ⟨B, k, Option.none⟩ = some (.slice pk mk ck)))
                    (first | exact hs0 | assumption)
                    (first
                      | (go_at_call 15; refine (K3.out _ (by assumption)).mono ?_; rintro r w' ⟨rfl, hsB⟩)
                      | (go_at_call 17; refine (K2.out _ (by assumption)).mono ?_; rintro r w' ⟨rfl, hsA⟩))
                  have HZ : Hid (Below wz.heap.size wz w') := Lib.hid hsB.1
                  clear hsA hs0 hsB
                  rename_i hH
                  clear hH
                  go_wp2
                  go_roundw
                  case rel => exact ⟨k + 1, ok, rfl, by go_num, by omega, by omega, by rw [HST.out]; simp, HZ.out⟩
                  case measure => simp [intOf]; omega
                | true =>
                  go_wp2_with fail
                  go_region_held3 (fun w' => (Below wz.heap.size wz w' ∧ w'.cell? ⟨b, o + k * 2, Option.none⟩ = some (.int .i64 g.1) ∧ w'.cell? ⟨b, o + k * 2 + 1, Option.none⟩ = some (.slice qg mg cg) ∧ w'.cell? ⟨b, o + J * 2, Option.none⟩ = some (.int .i64 f.1) ∧ w'.cell? ⟨b, o + J * 2 + 1, Option.none⟩ = some (.slice qf mf cf) ∧ w'.cell? ⟨B, k, Option.none⟩ = some (.slice pk mk ck)))
                    (first | exact hs0 | assumption)
                    (first
                      | (go_at_call 15; refine (K3.out _ (by assumption)).mono ?_; rintro r w' ⟨rfl, hsB⟩)
                      | (go_at_call 17; refine (K2.out _ (by assumption)).mono ?_; rintro r w' ⟨rfl, hsA⟩))
                  have HZ : Hid (Below wz.heap.size wz w') := Lib.hid hsB.1
                  clear hsA hs0 hsB
                  rename_i hH
                  clear hH
                  go_wp2
                  go_roundw
                  case rel => exact ⟨k + 1, true, rfl, by go_num, by omega, by omega, by rw [HST.out]; simp, HZ.out⟩
                  case measure => simp [intOf]; omega
            · obtain rfl : k = J := by omega
              have hokd : ok = hbd edep x i k := by rw [HK.out, hbm_end hlti]
              have hah := ahn_step (dep := edep) (x := x) k i
              have HO2 := Lib.hid (own_kept HOWN.out HBK.out)
              have HR2 := Lib.hid (own_kept HROW.out HBK.out)
              have HW2 := Lib.hid (HBW.out.trans (HBK.out.mono HBW.out.size))
              have HX2 := Lib.hid (HEX.out.bel HBK.out)
              have HS2 : Hid (wz.heap.size ≤ wr.heap.size) := Lib.hid HBK.out.size
              cases ok with
              | false =>
                rw [← hokd] at hah
                simp only [Bool.false_eq_true, if_false, List.append_nil] at hah
                have HAH := Lib.hid hah
                clear hah hokd HK
                go_wp2
                go_roundw
                case rel => exact ⟨i + 1, u, by go_num, by omega, HO2.out, by rw [HAH.out]; exact HR2.out, HW2.out, HX2.out⟩
                case measure => simp [intOf]; omega
              | true =>
                rw [← hokd] at hah
                simp only [if_true] at hah
                have HAH := Lib.hid hah
                clear hah hokd HK
                obtain ⟨pu, mu, cu, rfl⟩ := own_form HROW.out
                have hul : us.length = A := by have := HI.out.own.1; omega
                have cB : wr.cell? ⟨B, k, Option.none⟩ = some (.slice pu mu cu) := by
                  rw [HO2.out.cellAt k (by omega), List.getElem?_set_self (by omega)]
                have hBz : B < wj.heap.size := (HI.out.own.lt B rfl).2
                have hjz : wj.heap.size ≤ wr.heap.size := HX2.out.size
                have hg := heap_alloc_new wr (Obj.cells #[Value.int .i64 (i : Int)] 3)
                have hll : (ahn edep x k i).length ≤ 1000 := by have := ahn_len (dep := edep) (x := x) k i; omega
                have hWa : Below wr.heap.size wr (wr.alloc (Obj.cells #[Value.int .i64 (i : Int)] 3)) := below_alloc wr _
                obtain ⟨p', m', c', w', hrun, ho', hg'⟩ := app_ns (wr.alloc (Obj.cells #[Value.int .i64 (i : Int)] 3)) wj.heap.size _ (ahn edep x k i) i (own_kept HR2.out hWa) hll (by simp; omega) ⟨wr.heap.size, 0, Option.none⟩ (by rw [add_lit, cell_of_row _ _ _ _ _ _ hg]; rfl)
                have hub : ∀ q, (Value.slice pu mu cu).ownBlock = some q → wj.heap.size ≤ q := fun q hq => (HR2.out.lt q hq).1
                have hown' : w'.ownsRow w.heap.size 40 1 (.slice (some ⟨B, 0, Option.none⟩) A A) A (us.set k (.slice pu mu cu)) :=
                  (own_kept HO2.out hWa).kept hg' (.inr fun e => by have := hub B e.symm; omega)
                have hst := hown'.stored k (.slice p' m' c')
                rw [List.set_set] at hst
                have cB' : w'.cell? ⟨B, k, Option.none⟩ = some (.slice pu mu cu) := by
                  rw [hown'.cellAt k (by omega), List.getElem?_set_self (by omega)]
                have fB' := hown'.frozenAt k
                have hkl2 : (k : Int) < (A : Int) := by omega
                have hrow' : (w'.setCell ⟨B, k, Option.none⟩ (.slice p' m' c')).ownsRow wj.heap.size 3 1 (.slice p' m' c') (ahn edep x k (i + 1)).length (nvs (ahn edep x k (i + 1))) := by
                  rw [HAH.out]
                  exact ho'.kept hst.2 (.inr fun e => by have := (ho'.lt B e).1; omega)
                have hbw' : Below w.heap.size w (w'.setCell ⟨B, k, Option.none⟩ (.slice p' m' c')) :=
                  ((HW2.out.trans (hWa.mono HW2.out.size)).grown hg' (by have := HW2.out.size; simp; omega) (fun q hq => by have := hub q hq; have := HB.out.size; omega)).setCell (by rw [HBB.out]; exact Nat.le_refl _) _
                have hex' : Exb B wj (w'.setCell ⟨B, k, Option.none⟩ (.slice p' m' c')) := by
                  refine ⟨?_, fun q hq hqb => ?_⟩
                  · have := hg'.size; simp at this ⊢; omega
                  · have h1 := hst.2.block q (by have := hg'.size; simp at this; omega) (fun e => hqb (Option.some.inj e))
                    have h2 := hg'.block q (by simp; omega) (fun e => by have := hub q e.symm; omega)
                    rw [h1, h2, hWa.block q (by omega)]
                    exact HX2.out.block q hq hqb
                have HST := Lib.hid hst.1
                have HROW' := Lib.hid hrow'
                have HBW' := Lib.hid hbw'
                have HEX' := Lib.hid hex'
                clear hg hll hWa ho' hg' hub hown' hst hrow' hbw' hex' hul hBz hjz
                go_wp2_with (at_builtin; refine wpList_app rfl (.tmp 59) (.tmp 61) 40 rfl _ _ _ w' rfl rfl hrun ?_)
                go_wp2
                go_roundw
                case rel => exact ⟨i + 1, _, by go_num, by omega, HST.out, HROW'.out, HBW'.out, HEX'.out⟩
                case measure => simp [intOf]; omega
        · obtain rfl : i = J := by omega
          have hBz : B < wj.heap.size := (HI.out.own.lt B rfl).2
          have hul : us.length = A := by have := HI.out.own.1; omega
          have hnew : AhI edep x w wr B A (i + 1) (us.set i u) := by
            refine ⟨HOWN.out, fun j v hj hv => ?_, fun j v hj hv => ?_⟩
            · by_cases hji : i = j
              · subst hji
                rw [List.getElem?_set_self (by omega)] at hv
                obtain rfl := Option.some.inj hv
                exact ⟨ns_of_own HROW.out, fun q hq => by have := (HROW.out.lt q hq).1; omega⟩
              · rw [List.getElem?_set_ne hji] at hv
                obtain ⟨h1, h2⟩ := HI.out.rows j v (by omega) hv
                exact ⟨h1.ex HEX.out h2, h2⟩
            · rw [List.getElem?_set_ne (by omega)] at hv
              exact HI.out.rest j v (by omega) hv
          have HNEW := Lib.hid hnew
          clear hnew hBz hul
          go_wp2
          go_roundw
          case rel => exact ⟨i + 1, _, by go_num, by omega, HNEW.out, HBW.out⟩
          case measure => simp [intOf]; omega
    · obtain rfl : J = A := by omega
      go_wp2
      go_ret
      exact ⟨B, J, us, rfl, rfl, HI.out, HB.out⟩
end Go.Proofs.Ytcbpkagegdfidaa
