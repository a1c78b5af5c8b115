/- The law's All: the races, by definition. -/
import Derived.Test.YtcbpkagegdfidaaRc
import Derived.Test.YtcbpkagegdfidaaAd
set_option linter.unusedSimpArgs false
set_option linter.unusedVariables false
namespace Go.Proofs.Ytcbpkagegdfidaa
open Go.RowKit

set_option maxRecDepth 100000 in
set_option maxHeartbeats 16000000 in
theorem alln_any (x : Evl) (v : Value) (w : World) (hs : EvS w v x) (hl : x.length ≤ 1000) (h8 : ∀ e ∈ x, e.2.length ≤ 1000) :
    Calls Try.prog 12 #[v] w fun e w' => ∃ v', e = .returned v' ∧ RcS w' v' (racs edep (·.1) x x.length) ∧ Below w.heap.size w w' := by
  have HAH := Lib.hid (ahead_any x v w hs hl h8)
  obtain ⟨p, cap, rfl, hcap, hcm, h4⟩ := hs
  obtain ⟨A, hA⟩ : ∃ A, x.length = A := ⟨_, rfl⟩
  rw [hA] at HAH hcap hl ⊢
  have HA := Lib.hid hA
  have H4 := Lib.hid h4
  have H8 := Lib.hid h8
  clear h4 h8 hA
  go_enter Try.func12, Try.ntmps12
  go_wp2_with (go_at_call 14; refine Hid.out ?_)
  refine Lib.hid ?_
  refine HAH.out.mono ?_
  rintro e w1 ⟨B, A1, us, rfl, hAA, hah, hb1⟩
  have hAA2 := hAA.symm
  clear hAA
  subst hAA2
  have HI := Lib.hid hah
  have HB1 := Lib.hid hb1
  clear HAH hah hb1
  go_wp2
  go_loopw [4, 13] (fun s4 s13 wr => ∃ (J : Nat), s13 = .int .i64 (J : Int) ∧ J ≤ A ∧ wr.ownsRow w1.heap.size 30 2 s4 (racs edep (·.1) x J).length (pvs (racs edep (·.1) x J)) ∧ Below w1.heap.size w1 wr) (fun _ s _ => A - (intOf s).toNat)
  case atStart => exact ⟨0, rfl, by omega, by simpa [racs, pvs] using World.ownsRow_nil _ _ _ _, Below.refl _ _⟩
  case round =>
    obtain ⟨J, rfl, hJ, ho, hb⟩ := hrel
    have HO := Lib.hid ho
    have HB := Lib.hid hb
    clear ho hb
    by_cases hltJ : J < A
    · obtain ⟨f, hf⟩ : ∃ f, x[J]? = some f := ⟨_, List.getElem?_eq_getElem (by rw [HA.out]; exact hltJ)⟩
      obtain ⟨b, o, rfl, hbb, hr⟩ : ∃ b o, p = some ⟨b, o, Option.none⟩ ∧ b < w.heap.size ∧ EvR w b o x := by
        rcases H4.out with ⟨_, h⟩ | h
        · rw [h] at hf; simp at hf
        · exact h
      obtain ⟨qf, mf, cf, hfc⟩ := hr.at hbb hf
      have HF := Lib.hid hf
      have HFC := Lib.hid hfc
      have HR := Lib.hid hr
      have hf8 := Lib.hid (H8.out f (List.mem_of_getElem? hf))
      clear hf hfc hr
      go_wp2
      go_loopw [4, 17] (fun s4 s17 wr => ∃ (i : Nat), s17 = .int .i64 (i : Int) ∧ i ≤ J ∧ wr.ownsRow w1.heap.size 30 2 s4 (racs edep (·.1) x J ++ racn edep (·.1) x J i).length (pvs (racs edep (·.1) x J ++ racn edep (·.1) x J i)) ∧ Below w1.heap.size w1 wr) (fun _ s _ => J - (intOf s).toNat)
      case atStart => exact ⟨0, rfl, by omega, by simpa [racn] using HO.out, HB.out⟩
      case round =>
        clear HO HB
        obtain ⟨i, rfl, hi, ho, hb⟩ := hrel
        have HO := Lib.hid ho
        have HB := Lib.hid hb
        clear ho hb
        by_cases hlti : i < J
        · obtain ⟨e, he⟩ : ∃ e, x[i]? = some e := ⟨_, List.getElem?_eq_getElem (by rw [HA.out]; omega)⟩
          obtain ⟨qe, me, ce, hec⟩ := HR.out.at hbb he
          have HE := Lib.hid he
          have HEC := Lib.hid hec
          have he8 := Lib.hid (H8.out e (List.mem_of_getElem? he))
          have hwi : IntKind.i64.wrap ((i : Int) + 1) = (i : Int) + 1 := by rw [IntKind.wrap_i64]; omega
          have hl1 : (J : Int) < (A : Int) := by omega
          have hl2 : (i : Int) < (A : Int) := by omega
          have hl0 : (0 : Int) ≤ (i : Int) := by omega
          have hl3 : (0 : Int) ≤ (J : Int) := by omega
          have hw1w : Below w.heap.size w wr := HB1.out.trans (HB.out.mono HB1.out.size)
          obtain ⟨x1, x2, _⟩ := hec wr hw1w
          obtain ⟨x3, x4, _⟩ := HFC.out wr hw1w
          clear he hec
          obtain ⟨wz, rfl⟩ : ∃ wz, wz = wr := ⟨_, rfl⟩
          have HWZ := Lib.hid hw1w
          clear hw1w
          have keep : ∀ W, Below wz.heap.size wz W → (Below wz.heap.size wz W ∧ W.cell? ⟨b, o + i * 2, Option.none⟩ = some (.int .i64 e.1) ∧ W.cell? ⟨b, o + i * 2 + 1, Option.none⟩ = some (.slice qe me ce) ∧ W.cell? ⟨b, o + J * 2, Option.none⟩ = some (.int .i64 f.1) ∧ W.cell? ⟨b, o + J * 2 + 1, Option.none⟩ = some (.slice qf mf cf)) := fun W k => by
            have kw := HWZ.out.trans (k.mono HWZ.out.size)
            obtain ⟨a1, a2, _⟩ := HEC.out W kw
            obtain ⟨a3, a4, _⟩ := HFC.out W kw
            exact ⟨k, a1, a2, a3, a4⟩
          have K1 : Hid (∀ W, (Below wz.heap.size wz W ∧ W.cell? ⟨b, o + i * 2, Option.none⟩ = some (.int .i64 e.1) ∧ W.cell? ⟨b, o + i * 2 + 1, Option.none⟩ = some (.slice qe me ce) ∧ W.cell? ⟨b, o + J * 2, Option.none⟩ = some (.int .i64 f.1) ∧ W.cell? ⟨b, o + J * 2 + 1, Option.none⟩ = some (.slice qf mf cf)) → Calls Try.prog 17 #[.agg #[.int .i64 e.1, .slice qe me ce], .agg #[.int .i64 f.1, .slice qf mf cf]] W fun r w' => r = .returned (.bool (edep e f)) ∧ (Below wz.heap.size wz w' ∧ w'.cell? ⟨b, o + i * 2, Option.none⟩ = some (.int .i64 e.1) ∧ w'.cell? ⟨b, o + i * 2 + 1, Option.none⟩ = some (.slice qe me ce) ∧ w'.cell? ⟨b, o + J * 2, Option.none⟩ = some (.int .i64 f.1) ∧ w'.cell? ⟨b, o + J * 2 + 1, Option.none⟩ = some (.slice qf mf cf))) := Lib.hid fun W kk => by
            have kw := HWZ.out.trans (kk.1.mono HWZ.out.size)
            refine (depend_at e f _ _ W (HEC.out W kw).2.2 (HFC.out W kw).2.2 he8.out hf8.out).mono ?_
            rintro r w' ⟨rfl, hb⟩
            exact ⟨rfl, keep w' (kk.1.trans (hb.mono kk.1.size))⟩
          have hs0 := keep wz.drew ⟨rfl, rfl, rfl, Nat.le_refl _, fun _ _ => rfl⟩
          clear keep
          by_cases hth : e.1 = f.1
          · have hd0 : (e.1 == f.1) = true := beq_iff_eq.2 hth
            have hd1 : decide (e.1 = f.1) = true := decide_eq_true hth
            have hrac : racd edep (·.1) x i J = false := by
              rw [← Bool.not_eq_true, racd_iff]
              rintro ⟨_, a, c, ha, hc, hne, _⟩
              rw [HE.out] at ha; rw [HF.out] at hc
              cases ha; cases hc
              exact hne hth
            have HRN : Hid (racn edep (·.1) x J (i + 1) = racn edep (·.1) x J i) := Lib.hid (by rw [racn_step, hrac]; simp)
            clear hrac
            clear hs0 K1
            go_wp2_with fail
            go_quiet (fail)
            have HZ : Hid (Below w1.heap.size w1 (wz.drewN nq)) := Lib.hid (HB.out.trans ⟨rfl, rfl, rfl, Nat.le_refl _, fun _ _ => rfl⟩)
            have HO9 : Hid ((wz.drewN nq).ownsRow w1.heap.size 30 2 u4 (racs edep (·.1) x J ++ racn edep (·.1) x J i).length (pvs (racs edep (·.1) x J ++ racn edep (·.1) x J i))) := Lib.hid (own_kept HO.out ⟨rfl, rfl, rfl, Nat.le_refl _, fun _ _ => rfl⟩)
            generalize wz.drewN nq = w9 at HZ HO9 ⊢
            clear x1 x2 x3 x4
            go_wp2
            go_loopw [7, 8] (fun s7 s8 wk => ∃ (k : Nat), s7 = .bool false ∧ s8 = .int .i64 (k : Int) ∧ k ≤ J ∧ wk = w9) (fun _ s _ => J - (intOf s).toNat)
            case atStart => exact ⟨i + 1, by first | rfl | simp, by go_num, by omega, rfl⟩
            case round =>
              obtain ⟨k, rfl, rfl, hk, rfl⟩ := hrel
              by_cases hltk : k < J
              · go_wp2
                go_roundw
                case rel => exact ⟨k + 1, by first | rfl | simp, by go_num, by omega, (by first | rfl | trivial)⟩
                case measure => simp [intOf]; omega
              · obtain rfl : k = J := by omega
                go_wp2
                go_roundw
                case rel => exact ⟨i + 1, by go_num, by omega, by rw [HRN.out]; exact HO9.out, HZ.out⟩
                case measure => simp [intOf]; omega
          · have hd0 : (e.1 == f.1) = false := beq_eq_false_iff_ne.2 hth
            have hd1 : decide (e.1 = f.1) = false := decide_eq_false hth
            have hd2 : (e.1 != f.1) = true := bne_iff_ne.2 hth
            have hthn : decide (e.1 ≠ f.1) = true := decide_eq_true hth
            have HR0 : Hid (racm edep (·.1) x i J (i + 1) = edep e f) := Lib.hid (by rw [racm_start hlti HE.out HF.out, hthn]; rfl)
            clear hthn
            go_wp2_with fail
            go_region_held3 (fun w' => (Below wz.heap.size wz w' ∧ w'.cell? ⟨b, o + i * 2, Option.none⟩ = some (.int .i64 e.1) ∧ w'.cell? ⟨b, o + i * 2 + 1, Option.none⟩ = some (.slice qe me ce) ∧ w'.cell? ⟨b, o + J * 2, Option.none⟩ = some (.int .i64 f.1) ∧ w'.cell? ⟨b, o + J * 2 + 1, Option.none⟩ = some (.slice qf mf cf)))
              (first | exact hs0 | assumption)
              (first
                | (go_at_call 17; refine (K1.out _ (by assumption)).mono ?_; rintro r w' ⟨rfl, hsA⟩))
            have HZ : Hid (Below w1.heap.size w1 w') := Lib.hid (HB.out.trans (hsA.1.mono HB.out.size))
            have HO9 : Hid (w'.ownsRow w1.heap.size 30 2 u4 (racs edep (·.1) x J ++ racn edep (·.1) x J i).length (pvs (racs edep (·.1) x J ++ racn edep (·.1) x J i))) := Lib.hid (own_kept HO.out hsA.1)
            clear hsA hs0 K1 x1 x2 x3 x4
            rename_i hH
            clear hH
            obtain ⟨w9, rfl⟩ : ∃ w9, w9 = w' := ⟨_, rfl⟩
            rw [← HR0.out]
            go_wp2
            go_loopw [7, 8] (fun s7 s8 wk => ∃ (k : Nat), s7 = .bool (racm edep (·.1) x i J k) ∧ s8 = .int .i64 (k : Int) ∧ i + 1 ≤ k ∧ k ≤ J ∧ wk = w9) (fun _ s _ => J - (intOf s).toNat)
            case atStart => exact ⟨i + 1, rfl, by go_num, by omega, by omega, rfl⟩
            case round =>
              obtain ⟨k, rfl, rfl, hk1, hk, rfl⟩ := hrel
              obtain ⟨ok, hok⟩ : ∃ ok, racm edep (·.1) x i J k = ok := ⟨_, rfl⟩
              rw [hok]
              have HOK := Lib.hid hok
              clear hok
              have hus : us.length = A := by have := HI.out.own.1; omega
              by_cases hltk : k < J
              · have hlk : (k : Int) < (A : Int) := by omega
                have hlk0 : (0 : Int) ≤ (k : Int) := by omega
                cases ok with
                | false =>
                  have HST : Hid (racm edep (·.1) x i J (k + 1) = false) := Lib.hid (by rw [racm_step (by omega), HOK.out]; rfl)
                  clear hus
                  go_wp2
                  go_roundw
                  case rel => exact ⟨k + 1, by rw [HST.out], by go_num, by omega, by omega, (by first | rfl | trivial)⟩
                  case measure => simp [intOf]; omega
                | true =>
                  obtain ⟨uk, huk⟩ : ∃ u, us[k]? = some u := ⟨_, List.getElem?_eq_getElem (by omega)⟩
                  obtain ⟨uJ, huJ⟩ : ∃ u, us[J]? = some u := ⟨_, List.getElem?_eq_getElem (by omega)⟩
                  have hbz : Below w1.heap.size w1 wr := HZ.out
                  have hBs : B < w1.heap.size := (HI.out.own.lt B rfl).2
                  have ck : wr.cell? ⟨B, k, Option.none⟩ = some uk := (hbz.cell (p := ⟨B, _, Option.none⟩) hBs).trans (by rw [HI.out.own.cellAt k (by omega), huk])
                  have cJ : wr.cell? ⟨B, J, Option.none⟩ = some uJ := (hbz.cell (p := ⟨B, _, Option.none⟩) hBs).trans (by rw [HI.out.own.cellAt J (by omega), huJ])
                  have hnk := ((HI.out.rows k uk (by omega) huk).1).kept hbz
                  have hnJ := ((HI.out.rows J uJ (by omega) huJ).1).kept hbz
                  obtain ⟨pk, cpk, hke, _⟩ := id hnk
                  obtain ⟨pJ, cpJ, hJe, _⟩ := id hnJ
                  have KC1 := contains_any (ahd edep x k) i _ wr hnk (by have := ahd_len x k; omega)
                  have KC2 := contains_any (ahd edep x J) k _ wr hnJ (by have := ahd_len x J; omega)
                  rw [hbd_mem] at KC1 KC2
                  subst hke
                  subst hJe
                  obtain ⟨c1, hc1⟩ : ∃ c, hbd edep x i k = c := ⟨_, rfl⟩
                  obtain ⟨c2, hc2⟩ : ∃ c, hbd edep x k J = c := ⟨_, rfl⟩
                  rw [hc1] at KC1
                  rw [hc2] at KC2
                  have HST : Hid (racm edep (·.1) x i J (k + 1) = !(c1 && c2)) := Lib.hid (by rw [racm_step (by omega), HOK.out, hc1, hc2]; rfl)
                  have HC1 := Lib.hid KC1
                  have HC2 := Lib.hid KC2
                  generalize (ahd edep x k).length = lk at *
                  generalize (ahd edep x J).length = lJ at *
                  clear KC1 KC2 hc1 hc2 hnk hnJ huk huJ hbz hus
                  cases c1 with
                  | false =>
                    go_wp2_with (go_at_call 15; refine Hid.out ?_)
                    refine Lib.hid ?_
                    refine HC1.out.mono ?_
                    rintro r w' ⟨rfl, rfl⟩
                    go_wp2
                    go_roundw
                    case rel => exact ⟨k + 1, by rw [HST.out]; rfl, by go_num, by omega, by omega, (by first | rfl | trivial)⟩
                    case measure => simp [intOf]; omega
                  | true =>
                    go_wp2_with (go_at_call 15; refine Hid.out ?_)
                    refine Lib.hid ?_
                    refine HC1.out.mono ?_
                    rintro r w' ⟨rfl, rfl⟩
                    go_wp2_with (go_at_call 15; refine Hid.out ?_)
                    refine Lib.hid ?_
                    refine HC2.out.mono ?_
                    rintro r w' ⟨rfl, rfl⟩
                    cases c2 with
                    | false =>
                      go_wp2
                      go_roundw
                      case rel => exact ⟨k + 1, by rw [HST.out]; rfl, by go_num, by omega, by omega, (by first | rfl | trivial)⟩
                      case measure => simp [intOf]; omega
                    | true =>
                      go_wp2
                      go_roundw
                      case rel => exact ⟨k + 1, by rw [HST.out]; rfl, by go_num, by omega, by omega, (by first | rfl | trivial)⟩
                      case measure => simp [intOf]; omega
              · obtain rfl : k = J := by omega
                have hend : racd edep (·.1) x i k = ok := by rw [← racm_end]; exact HOK.out
                have HRN : Hid (racn edep (·.1) x k (i + 1) = racn edep (·.1) x k i ++ (if ok then [(i, k)] else [])) := Lib.hid (by rw [racn_step, hend])
                clear hend hus
                cases ok with
                | false =>
                  have HO10 : Hid (wr.ownsRow w1.heap.size 30 2 u4 (racs edep (·.1) x k ++ racn edep (·.1) x k (i + 1)).length (pvs (racs edep (·.1) x k ++ racn edep (·.1) x k (i + 1)))) := Lib.hid (by rw [HRN.out]; simpa using HO9.out)
                  go_wp2
                  go_roundw
                  case rel => exact ⟨i + 1, by go_num, by omega, HO10.out, HZ.out⟩
                  case measure => simp [intOf]; omega
                | true =>
                  have hg := heap_alloc_new wr (Obj.cells #[Value.int .i64 (i : Int), .int .i64 (k : Int)] 30)
                  have hWa := below_alloc wr (Obj.cells #[Value.int .i64 (i : Int), .int .i64 (k : Int)] 30)
                  have hlen : (racs edep (·.1) x k ++ racn edep (·.1) x k i).length ≤ 1001000 := by
                    rw [List.length_append]
                    have h1 := racs_len x k
                    have h2 := racn_len x k i
                    have h3 : k * k ≤ 1000 * 1000 := Nat.mul_le_mul (by omega) (by omega)
                    omega
                  obtain ⟨p', m', c', w'', hrun, ho', hgr⟩ := app_rc (wr.alloc (Obj.cells #[Value.int .i64 (i : Int), .int .i64 (k : Int)] 30)) w1.heap.size u4 (racs edep (·.1) x k ++ racn edep (·.1) x k i) (i, k) (own_kept HO9.out hWa) hlen (by have := HZ.out.size; simp; omega) ⟨wr.heap.size, 0, Option.none⟩ (by rw [add_lit, cell_of_row _ _ _ _ _ _ hg]; rfl) (by rw [add_lit, cell_of_row _ _ _ _ _ _ hg]; rfl)
                  have HO10 : Hid (w''.ownsRow w1.heap.size 30 2 (.slice p' m' c') (racs edep (·.1) x k ++ racn edep (·.1) x k (i + 1)).length (pvs (racs edep (·.1) x k ++ racn edep (·.1) x k (i + 1)))) := Lib.hid (by rw [HRN.out, ← List.append_assoc]; exact ho')
                  have HZ2 : Hid (Below w1.heap.size w1 w'') := Lib.hid ((HZ.out.trans (hWa.mono HZ.out.size)).grown hgr (by have := HZ.out.size; simp; omega) (fun q hq => (HO9.out.lt q hq).1))
                  clear hg hWa hlen ho' hgr
                  go_wp2_with (at_builtin; refine wpList_app rfl (.tmp 68) (.tmp 72) 28 rfl _ _ _ w'' rfl rfl hrun ?_)
                  clear hrun
                  go_wp2
                  go_roundw
                  case rel => exact ⟨i + 1, by go_num, by omega, HO10.out, HZ2.out⟩
                  case measure => simp [intOf]; omega
        · obtain rfl : i = J := by omega
          have HN : Hid (wr.ownsRow w1.heap.size 30 2 u4 (racs edep (·.1) x (i + 1)).length (pvs (racs edep (·.1) x (i + 1)))) := Lib.hid (by rw [racs_step]; exact HO.out)
          go_wp2
          go_roundw
          case rel => exact ⟨i + 1, by go_num, by omega, HN.out, HB.out⟩
          case measure => simp [intOf]; omega
    · obtain rfl : J = A := by omega
      have HE := Lib.hid (rc_of_own HO.out)
      have HK := Lib.hid (HB1.out.trans (HB.out.mono HB1.out.size))
      go_wp2
      go_ret
      exact ⟨_, rfl, HE.out, HK.out⟩
end Go.Proofs.Ytcbpkagegdfidaa
