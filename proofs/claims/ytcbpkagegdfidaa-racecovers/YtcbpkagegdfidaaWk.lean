/- RaceCovers: what happens ahead of what is just what races, and the order of each thread's events, tell, one behind the other. -/
import Derived.Test.YtcbpkagegdfidaaCw
import Derived.Test.YtcbpkagegdfidaaWf
import Derived.Test.YtcbpkagegdfidaaEi
import Derived.Deep.RegionHeld3
import Derived.BigRegion
import Derived.BigQuiet
set_option linter.unusedSimpArgs false
set_option linter.unusedVariables false
namespace Go.Proofs.Ytcbpkagegdfidaa
open Go.RowKit

set_option maxRecDepth 100000 in
set_option maxHeartbeats 16000000 in
theorem covers_any (HAw : AwC) (HRA : AllC) (l : Evl) (v : Value) (w : World) (hs : ES w v l) (hok : eok l) (hl : l.length ≤ 9223372036854775807) : Calls Try.prog 6 #[v] w fun e w' => e = .returned (.bool true) ∧ Below w.heap.size w w' := by
  obtain ⟨p0, cap0, rfl, hcap0⟩ := hs.form
  obtain ⟨A0, hA0⟩ : ∃ A, l.length = A := ⟨_, rfl⟩
  have HS := Lib.hid hs
  rw [hA0] at HS hcap0 hl ⊢
  have HA0 := Lib.hid hA0
  have HOK := Lib.hid hok
  clear hs hA0 hok
  go_enter Try.func6, Try.ntmps6
  go_wp2_with (go_at_call 7; refine Hid.out ?_)
  refine Lib.hid ?_
  refine (HAw _).mono ?_
  rintro e w1 ⟨rfl, hb⟩
  have HB1 := Lib.hid hb
  clear hb
  have HLT := light_any l 16 _ w1 (HS.out.kept HB1.out) (by rw [HA0.out]; exact hl)
  rw [show (l.all (fun e => decide (e.2.length ≤ 8)) && decide ((l.length : Int) ≤ 16)) = lgt l 16 from rfl] at HLT
  have HL := Lib.hid HLT
  clear HLT
  go_wp2_with (go_at_call 8; refine Hid.out ?_)
  refine Lib.hid ?_
  refine HL.out.mono ?_
  rintro e w2 ⟨rfl, hb⟩
  have HB2 : Hid (Below w.heap.size w w2) := Lib.hid (HB1.out.trans (hb.mono HB1.out.size))
  clear hb HL HB1
  obtain ⟨lt, hlt⟩ : ∃ b, lgt l 16 = b := ⟨_, rfl⟩
  rw [hlt]
  cases lt with
  | false =>
    clear hlt
    go_wp2
    go_ret
    exact ⟨rfl, HB2.out⟩
  | true =>
    obtain ⟨h8, hA24⟩ := lgt_true hlt
    have h24 : A0 ≤ 16 := by rw [HA0.out] at hA24; omega
    have HE1 := Lib.hid (events_any l _ w2 (HS.out.kept HB2.out) (by rw [HA0.out]; omega) HOK.out (fun e he => by have := h8 e he; omega))
    have HK := Lib.hid (evs_k (by rw [HA0.out]; omega) HOK.out h8)
    clear h8 hA24 hlt
    go_wp2_with (go_at_call 9; refine Hid.out ?_)
    refine Lib.hid ?_
    refine HE1.out.mono ?_
    rintro e w3 ⟨v3, rfl, hv3, hb⟩
    have HB3 : Hid (Below w.heap.size w w3) := Lib.hid (HB2.out.trans (hb.mono HB2.out.size))
    clear hb HE1
    obtain ⟨x, hx⟩ : ∃ x, evs l = x := ⟨_, rfl⟩
    have hxl : x.length = A0 := by rw [← hx, evs_len, HA0.out]
    rw [hx] at HK hv3
    have HXL := Lib.hid hxl
    obtain ⟨p3, c3, hve, hc3⟩ : ∃ p c, v3 = .slice p A0 c ∧ A0 ≤ c := by
      obtain ⟨p, c, h1, h2, _⟩ := id hv3
      rw [hxl] at h1 h2
      exact ⟨p, c, h1, h2⟩
    subst hve
    have HV3 := Lib.hid hv3
    have HXE := Lib.hid hx
    clear hv3 hx hxl
    obtain ⟨i0, hi, hz0, hz1, hz2⟩ := sl_info
    go_wp2_with (at_make; refine wpList_make_full _ rfl (.tmp 23) (.tmp 23) 34 rfl w3.heap.size 40 i0 _ 1 Try.underlying34 hi hz0 hz1 .i64 .i64 (A0 : Int) (A0 : Int) A0 rfl rfl rfl rfl (by rw [hz2]; omega) (by unfold maxLen; omega) (Nat.le_refl _) ?_)
    intro w4 hown hgr
    obtain ⟨B, hB⟩ : ∃ B, w3.heap.size = B := ⟨_, rfl⟩
    have hAh : AhI edep x w3 w4 w3.heap.size A0 0 (madeCells #[.slice Option.none 0 0] A0).toList := by
      refine ⟨hown, fun j u hj => by omega, fun j u _ hu => ?_⟩
      have hm := List.mem_of_getElem? hu
      simp only [madeCells, Array.toList_map, List.mem_map] at hm
      obtain ⟨q, _, rfl⟩ := hm
      simp [Nat.mod_one]
    have HAI := Lib.hid hAh
    have HB4 : Hid (Below w3.heap.size w3 w4) := Lib.hid ((Below.refl _ w3).grown hgr (Nat.le_refl _) (fun k hk => by cases hk))
    clear hown hgr hAh hi hz0 hz1 hz2
    generalize (madeCells #[Value.slice Option.none 0 0] A0).toList = us0 at HAI
    rw [hB] at HAI ⊢
    have HBB := Lib.hid hB
    clear hB
    obtain ⟨R, hR⟩ : ∃ R, racs edep (·.1) x x.length = R := ⟨_, rfl⟩
    have hRl : R.length ≤ 1000000 := by
      rw [← hR]
      have h1 := racs_len x x.length
      have h3 : x.length * x.length ≤ 1000 * 1000 := Nat.mul_le_mul (Nat.le_trans HK.out.1 (by omega)) (Nat.le_trans HK.out.1 (by omega))
      omega
    have HRL := Lib.hid hRl
    have HRR := Lib.hid hR
    have HN1 := HRA x _ w4 (HV3.out.kept HB4.out) HK.out
    rw [hR] at HN1
    have HN1 := Lib.hid HN1
    clear hR hRl
    go_wp2_with (go_at_call 11; refine Hid.out ?_)
    refine Lib.hid ?_
    refine HN1.out.mono ?_
    rintro r w5 ⟨v5, rfl, hv5, hb⟩
    have HI5 := Lib.hid (HAI.out.kept hb)
    have HB5 : Hid (Below w3.heap.size w3 w5) := Lib.hid (HB4.out.trans (hb.mono HB4.out.size))
    have hrx : ∀ W, Exb B w5 W → RcS W v5 R := fun W k => rc_ex hv5 HI5.out.own HI5.out.slices k
    obtain ⟨p5, c5, hve, hc5⟩ := hv5.form
    obtain ⟨N, hN⟩ : ∃ N, R.length = N := ⟨_, rfl⟩
    rw [hN] at hve hc5
    subst hve
    have HRX := Lib.hid hrx
    clear hb hv5 HN1 HAI HB4 hrx hN
    go_wp2
    go_loopw [29] (fun s29 wr => ∃ (J : Nat) (us : List Value), s29 = .int .i64 (J : Int) ∧ J ≤ A0 ∧ AhI edep x w3 wr B A0 J us ∧ Below w3.heap.size w3 wr ∧ Exb B w5 wr) (fun s _ => A0 - (intOf s).toNat)
    case atStart => exact ⟨0, us0, rfl, by omega, HI5.out, HB5.out, Exb.refl _ _⟩
    case round =>
      clear HI5 HB5
      obtain ⟨J, us, rfl, hJ, hi, hb, hx⟩ := hrel
      have HI := Lib.hid hi
      have HBJ := Lib.hid hb
      have HXJ := Lib.hid hx
      clear hi hb hx
      obtain ⟨wj, rfl⟩ : ∃ wj, wj = wr := ⟨_, rfl⟩
      by_cases hlt : J < A0
      · obtain ⟨f, hf⟩ : ∃ f, x[J]? = some f := ⟨_, List.getElem?_eq_getElem (by rw [HXL.out]; exact hlt)⟩
        obtain ⟨b0, o0, rfl, hbb, hr⟩ : ∃ b o, p3 = some ⟨b, o, Option.none⟩ ∧ b < w3.heap.size ∧ EvR w3 b o x := by
          obtain ⟨p, c, h1, _, _, h4⟩ := HV3.out
          simp only [Value.slice.injEq] at h1
          rcases h4 with ⟨_, h⟩ | ⟨b, o, h, h5, h6⟩
          · rw [h] at hf; simp at hf
          · exact ⟨b, o, by rw [h1.1, h], h5, h6⟩
        obtain ⟨qf, mf, cf, hfc⟩ := hr.at hbb hf
        have HFC := Lib.hid hfc
        have HF := Lib.hid hf
        have HR := Lib.hid hr
        have HBBS := Lib.hid hbb
        have hBz : Hid (B < wj.heap.size) := Lib.hid (HI.out.own.lt B rfl).2
        have hul : Hid (us.length = A0) := Lib.hid (by have := HI.out.own.1; omega)
        clear hfc hf hr hbb
        obtain ⟨i1, hi1, hy0, hy1, hy2⟩ := in_info
        go_wp2_with (at_make; refine wpList_make_full _ rfl (.tmp 32) (.tmp 32) 40 rfl wj.heap.size 3 i1 _ 1 Try.underlying40 hi1 hy0 hy1 .i64 .i64 (J : Int) (J : Int) J rfl rfl rfl rfl (by rw [hy2]; omega) (by unfold maxLen; omega) (Nat.le_refl _) ?_)
        intro wm hown hgr
        obtain ⟨C, hC⟩ : ∃ C, wj.heap.size = C := ⟨_, rfl⟩
        have HBM : Hid (Below wj.heap.size wj wm) := Lib.hid ((Below.refl _ wj).grown hgr (Nat.le_refl _) (fun k hk => by cases hk))
        have hown2 : wm.ownsRow wj.heap.size 3 1 (.slice (some ⟨wj.heap.size, 0, Option.none⟩) J J) J (mrk (cvd x J J) J) := by
          rw [← mrk_zero (cvd_top x J)]
          exact hown
        rw [hC] at hown2 ⊢
        have HM := Lib.hid hown2
        have HC := Lib.hid hC
        have hne1 : ¬ B = C := by have := hBz.out; omega
        have hne2 : ¬ C = B := fun e => hne1 e.symm
        have hwJ : IntKind.i64.wrap ((J : Int) - 1) = (J : Int) - 1 := by rw [IntKind.wrap_i64]; omega
        clear hown hgr hi1 hy0 hy1 hy2 hown2 hC
        go_wp2
        go_loopw [8] (fun s8 wi => ∃ (n : Nat) (z : Int), s8 = .int .i64 z ∧ z = (n : Int) - 1 ∧ n ≤ J ∧ wi.ownsRow C 3 1 (.slice (some ⟨C, 0, Option.none⟩) J J) J (mrk (cvd x J n) J) ∧ Below wj.heap.size wj wi) (fun s _ => (intOf s + 1).toNat)
        case atStart => exact ⟨J, _, rfl, rfl, Nat.le_refl _, HM.out, HBM.out⟩
        case round =>
          clear HM HBM
          obtain ⟨n, z, rfl, hz, hn, hm, hb⟩ := hrel
          have HM := Lib.hid hm
          have HBI := Lib.hid hb
          clear hm hb
          cases n with
          | succ i =>
            obtain rfl : z = (i : Int) := by omega
            have hiJ : i < J := by omega
            have hi0' : (0 : Int) ≤ (i : Int) := by omega
            have hiJ' : (i : Int) < (J : Int) := by omega
            have hiA' : (i : Int) < (A0 : Int) := by omega
            have hJA' : (J : Int) < (A0 : Int) := by omega
            have hJ0' : (0 : Int) ≤ (J : Int) := by omega
            have hwi : IntKind.i64.wrap ((i : Int) - 1) = (i : Int) - 1 := by rw [IntKind.wrap_i64]; omega
            obtain ⟨e, he⟩ : ∃ e, x[i]? = some e := ⟨_, List.getElem?_eq_getElem (by rw [HXL.out]; omega)⟩
            obtain ⟨qe, me, ce, hec⟩ := HR.out.at HBBS.out he
            have HE := Lib.hid he
            have HEC := Lib.hid hec
            obtain ⟨wz, rfl⟩ : ∃ wz, wz = wr := ⟨_, rfl⟩
            obtain ⟨ui, hui⟩ : ∃ u, us[i]? = some u := ⟨_, List.getElem?_eq_getElem (by rw [hul.out]; omega)⟩
            have hns := (HI.out.rows i ui hiJ hui).1
            obtain ⟨L, hL⟩ : ∃ L, (ahd edep x i).length = L := ⟨_, rfl⟩
            obtain ⟨pk, ck, hue⟩ : ∃ p c, ui = .slice p L c := by
              obtain ⟨p, c, h1, _⟩ := id hns
              exact ⟨p, c, by rw [h1, hL]⟩
            subst hue
            have cBj : Hid (wj.cell? ⟨B, i, Option.none⟩ = some (.slice pk L ck)) := Lib.hid (by rw [HI.out.own.cellAt i (by omega), hui])
            have HNS := Lib.hid hns
            have HL := Lib.hid hL
            have hLi : L ≤ i := by rw [← hL]; exact ahd_len x i
            have kw : Below w3.heap.size w3 wz := HBJ.out.trans (HBI.out.mono HBJ.out.size)
            obtain ⟨x1, x2, _⟩ := hec wz kw
            obtain ⟨x3, x4, _⟩ := HFC.out wz kw
            have HKW := Lib.hid kw
            clear he hec hui hns hL kw hz
            by_cases hth : e.1 = f.1
            · have hd0 : (e.1 == f.1) = true := beq_iff_eq.2 hth
              have hd1 : decide (e.1 = f.1) = true := decide_eq_true hth
              have HCR := Lib.hid (crs_yes hiJ HE.out HF.out (.inl hth))
              clear hth
              go_wp2_with fail
              go_quiet (fail)
              have HZ9 : Hid (Below wj.heap.size wj (wz.drewN nq)) := Lib.hid (HBI.out.trans ⟨rfl, rfl, rfl, Nat.le_refl _, fun _ _ => rfl⟩)
              have HM9 : Hid ((wz.drewN nq).ownsRow C 3 1 (.slice (some ⟨C, 0, Option.none⟩) J J) J (mrk (cvd x J (i + 1)) J)) := Lib.hid (own_kept HM.out ⟨rfl, rfl, rfl, Nat.le_refl _, fun _ _ => rfl⟩)
              generalize wz.drewN nq = w9 at HZ9 HM9 ⊢
              clear x1 x2 x3 x4
              obtain ⟨zi, hzi⟩ := mrk_any (P := cvd x J (i + 1)) hiJ
              have ci : w9.cell? ⟨C, i, Option.none⟩ = some (.int .i64 zi) := by rw [HM9.out.cellAt i (by omega), hzi]
              have fi := HM9.out.frozenAt i
              have cBi : w9.cell? ⟨B, i, Option.none⟩ = some (.slice pk L ck) := (HZ9.out.cell (p := ⟨B, _, Option.none⟩) hBz.out).trans cBj.out
              have HM1 : Hid ((w9.setCell ⟨C, i, Option.none⟩ (.int .i64 1)).ownsRow C 3 1 (.slice (some ⟨C, 0, Option.none⟩) J J) J (mrk (fun q => cvd x J (i + 1) q ∨ q = i) J)) := Lib.hid (by rw [← mrk_set hiJ]; exact (HM9.out.stored i (.int .i64 1)).1)
              have HZ1 : Hid (Below wj.heap.size wj (w9.setCell ⟨C, i, Option.none⟩ (.int .i64 1))) := Lib.hid (HZ9.out.setCell (by rw [HC.out]; exact Nat.le_refl _) _)
              clear hzi
              go_wp2
              generalize w9.setCell ⟨C, i, Option.none⟩ (.int .i64 1) = w1' at HM1 HZ1 ⊢
              clear ci fi cBi
              go_loopw [66] (fun s66 wk => ∃ (m : Nat), s66 = .int .i64 (m : Int) ∧ m ≤ L ∧ wk.ownsRow C 3 1 (.slice (some ⟨C, 0, Option.none⟩) J J) J (mrk (fun q => (cvd x J (i + 1) q ∨ q = i) ∨ q ∈ (ahd edep x i).take m) J) ∧ Below wj.heap.size wj wk) (fun s _ => L - (intOf s).toNat)
              case atStart => exact ⟨0, rfl, by omega, by rw [show mrk (fun q => (cvd x J (i + 1) q ∨ q = i) ∨ q ∈ (ahd edep x i).take 0) J = mrk (fun q => cvd x J (i + 1) q ∨ q = i) J from mrk_congr fun q _ => by simp]; exact HM1.out, HZ1.out⟩
              case round =>
                clear HM1 HZ1
                obtain ⟨m, rfl, hm, hrow, hb⟩ := hrel
                have HROW := Lib.hid hrow
                have HBK := Lib.hid hb
                clear hrow hb
                by_cases hltm : m < L
                · obtain ⟨k, hk⟩ : ∃ k, (ahd edep x i)[m]? = some k := ⟨_, List.getElem?_eq_getElem (by rw [HL.out]; exact hltm)⟩
                  have hki := (mem_ahd.1 (List.mem_of_getElem? hk)).lt
                  have hkJ : k < J := by omega
                  obtain ⟨bk, ok, rfl, hbk, hrk⟩ : ∃ b o, pk = some ⟨b, o, Option.none⟩ ∧ b < wj.heap.size ∧ ∀ (i' n : Nat), (ahd edep x i)[i']? = some n → wj.cell? ⟨b, o + i', Option.none⟩ = some (.int .i64 (n : Int)) := by
                    obtain ⟨p, c, h1, _, h4⟩ := HNS.out
                    simp only [Value.slice.injEq] at h1
                    rcases h4 with ⟨_, h⟩ | ⟨b, o, h, h5, h6⟩
                    · rw [h] at hk; simp at hk
                    · exact ⟨b, o, by rw [h1.1, h], h5, h6⟩
                  have cm : wr.cell? ⟨bk, ok + m, Option.none⟩ = some (.int .i64 (k : Int)) := (HBK.out.cell (p := ⟨bk, _, Option.none⟩) hbk).trans (hrk m k hk)
                  obtain ⟨zk, hzk⟩ := mrk_any (P := fun q => (cvd x J (i + 1) q ∨ q = i) ∨ q ∈ (ahd edep x i).take m) hkJ
                  have ck' : wr.cell? ⟨C, k, Option.none⟩ = some (.int .i64 zk) := by rw [HROW.out.cellAt k (by omega), hzk]
                  have fk := HROW.out.frozenAt k
                  have hkJ' : (k : Int) < (J : Int) := by omega
                  have hk0' : (0 : Int) ≤ (k : Int) := by omega
                  have HM2 : Hid ((wr.setCell ⟨C, k, Option.none⟩ (.int .i64 1)).ownsRow C 3 1 (.slice (some ⟨C, 0, Option.none⟩) J J) J (mrk (fun q => (cvd x J (i + 1) q ∨ q = i) ∨ q ∈ (ahd edep x i).take (m + 1)) J)) := Lib.hid (by
                    rw [show mrk (fun q => (cvd x J (i + 1) q ∨ q = i) ∨ q ∈ (ahd edep x i).take (m + 1)) J = mrk (fun q => ((cvd x J (i + 1) q ∨ q = i) ∨ q ∈ (ahd edep x i).take m) ∨ q = k) J from mrk_congr fun q _ => by
                      rw [show (ahd edep x i).take (m + 1) = (ahd edep x i).take m ++ ((ahd edep x i)[m]?).toList from List.take_add_one, hk]
                      simp only [List.mem_append, Option.mem_toList, Option.mem_def, Option.some.injEq]
                      constructor
                      · rintro (h | h | h)
                        · exact .inl (.inl h)
                        · exact .inl (.inr h)
                        · exact .inr h.symm
                      · rintro ((h | h) | h)
                        · exact .inl h
                        · exact .inr (.inl h)
                        · exact .inr (.inr h.symm), ← mrk_set hkJ]
                    exact (HROW.out.stored k (.int .i64 1)).1)
                  have HZ2 : Hid (Below wj.heap.size wj (wr.setCell ⟨C, k, Option.none⟩ (.int .i64 1))) := Lib.hid (HBK.out.setCell (by rw [HC.out]; exact Nat.le_refl _) _)
                  clear hk hki hbk hrk hzk
                  go_wp2
                  go_roundw
                  case rel => exact ⟨m + 1, by go_num, by omega, HM2.out, HZ2.out⟩
                  case measure => simp [intOf] <;> omega
                · obtain rfl : m = L := by omega
                  have HM3 : Hid (wr.ownsRow C 3 1 (.slice (some ⟨C, 0, Option.none⟩) J J) J (mrk (cvd x J i) J)) := Lib.hid (by
                    rw [show mrk (cvd x J i) J = mrk (fun q => (cvd x J (i + 1) q ∨ q = i) ∨ q ∈ (ahd edep x i).take m) J from mrk_congr fun q _ => by
                      rw [List.take_of_length_le (by rw [HL.out]; exact Nat.le_refl _), cvd_step]
                      constructor
                      · rintro (h | ⟨_, h | h⟩)
                        · exact .inl (.inl h)
                        · exact .inl (.inr h.symm)
                        · exact .inr h
                      · rintro ((h | h) | h)
                        · exact .inl h
                        · exact .inr ⟨HCR.out, .inl h.symm⟩
                        · exact .inr ⟨HCR.out, .inr h⟩]
                    exact HROW.out)
                  go_wp2
                  go_roundw
                  case rel => exact ⟨i, _, rfl, rfl, by omega, HM3.out, HBK.out⟩
                  case measure => simp [intOf] <;> omega
            · have hd0 : (e.1 == f.1) = false := beq_eq_false_iff_ne.2 hth
              have hd1 : decide (e.1 = f.1) = false := decide_eq_false hth
              have keep : ∀ W, Below wz.heap.size wz W → (Below wz.heap.size wz W ∧ W.cell? ⟨b0, o0 + i * 2, Option.none⟩ = some (.int .i64 e.1) ∧ W.cell? ⟨b0, o0 + J * 2, Option.none⟩ = some (.int .i64 f.1)) := fun W k => by
                have kw := HKW.out.trans (k.mono HKW.out.size)
                exact ⟨k, (HEC.out W kw).1, (HFC.out W kw).1⟩
              have K1 := fun W (kk : (Below wz.heap.size wz W ∧ W.cell? ⟨b0, o0 + i * 2, Option.none⟩ = some (.int .i64 e.1) ∧ W.cell? ⟨b0, o0 + J * 2, Option.none⟩ = some (.int .i64 f.1))) => contains_rc R (i, J) _ W (HRX.out W (HXJ.out.bel (HBI.out.trans (kk.1.mono HBI.out.size)))) (by have := HRL.out; omega)
              obtain ⟨c, hc⟩ : ∃ c, decide ((i, J) ∈ R) = c := ⟨_, rfl⟩
              have K2 : Hid (∀ W, (Below wz.heap.size wz W ∧ W.cell? ⟨b0, o0 + i * 2, Option.none⟩ = some (.int .i64 e.1) ∧ W.cell? ⟨b0, o0 + J * 2, Option.none⟩ = some (.int .i64 f.1)) → Calls Try.prog 20 #[.slice p5 N c5, .agg #[.int .i64 (i : Int), .int .i64 (J : Int)]] W fun r w' => r = .returned (.bool c) ∧ (Below wz.heap.size wz w' ∧ w'.cell? ⟨b0, o0 + i * 2, Option.none⟩ = some (.int .i64 e.1) ∧ w'.cell? ⟨b0, o0 + J * 2, Option.none⟩ = some (.int .i64 f.1))) := Lib.hid fun W kk => by
                have h1 := K1 W kk
                rw [hc] at h1
                refine h1.mono ?_
                rintro r w' ⟨rfl, hb⟩
                exact ⟨rfl, keep w' (kk.1.trans (hb.mono kk.1.size))⟩
              have hs0 := keep wz.drew ⟨rfl, rfl, rfl, Nat.le_refl _, fun _ _ => rfl⟩
              have HTH := Lib.hid hth
              have HCC := Lib.hid hc
              clear keep K1 hth hc
              go_wp2_with fail
              go_region_held3 (fun w' => (Below wz.heap.size wz w' ∧ w'.cell? ⟨b0, o0 + i * 2, Option.none⟩ = some (.int .i64 e.1) ∧ w'.cell? ⟨b0, o0 + J * 2, Option.none⟩ = some (.int .i64 f.1)))
                (first | exact hs0 | assumption)
                (first
                  | (go_at_call 20; refine (K2.out _ (by assumption)).mono ?_; rintro r w' ⟨rfl, hsA⟩))
              have HZ9 : Hid (Below wj.heap.size wj w') := Lib.hid (HBI.out.trans (hsA.1.mono HBI.out.size))
              have HM9 : Hid (w'.ownsRow C 3 1 (.slice (some ⟨C, 0, Option.none⟩) J J) J (mrk (cvd x J (i + 1)) J)) := Lib.hid (own_kept HM.out hsA.1)
              clear hsA hs0 K2 x1 x2 x3 x4
              rename_i hH
              clear hH
              obtain ⟨w9, rfl⟩ : ∃ w9, w9 = w' := ⟨_, rfl⟩
              cases c with
              | true =>
                have HCR : Hid (crs x i J) := Lib.hid (crs_yes hiJ HE.out HF.out (.inr (by rw [HRR.out]; exact of_decide_eq_true HCC.out)))
                obtain ⟨zi, hzi⟩ := mrk_any (P := cvd x J (i + 1)) hiJ
                have ci : w9.cell? ⟨C, i, Option.none⟩ = some (.int .i64 zi) := by rw [HM9.out.cellAt i (by omega), hzi]
                have fi := HM9.out.frozenAt i
                have cBi : w9.cell? ⟨B, i, Option.none⟩ = some (.slice pk L ck) := (HZ9.out.cell (p := ⟨B, _, Option.none⟩) hBz.out).trans cBj.out
                have HM1 : Hid ((w9.setCell ⟨C, i, Option.none⟩ (.int .i64 1)).ownsRow C 3 1 (.slice (some ⟨C, 0, Option.none⟩) J J) J (mrk (fun q => cvd x J (i + 1) q ∨ q = i) J)) := Lib.hid (by rw [← mrk_set hiJ]; exact (HM9.out.stored i (.int .i64 1)).1)
                have HZ1 : Hid (Below wj.heap.size wj (w9.setCell ⟨C, i, Option.none⟩ (.int .i64 1))) := Lib.hid (HZ9.out.setCell (by rw [HC.out]; exact Nat.le_refl _) _)
                clear hzi
                go_wp2
                generalize w9.setCell ⟨C, i, Option.none⟩ (.int .i64 1) = w1' at HM1 HZ1 ⊢
                clear ci fi cBi
                go_loopw [66] (fun s66 wk => ∃ (m : Nat), s66 = .int .i64 (m : Int) ∧ m ≤ L ∧ wk.ownsRow C 3 1 (.slice (some ⟨C, 0, Option.none⟩) J J) J (mrk (fun q => (cvd x J (i + 1) q ∨ q = i) ∨ q ∈ (ahd edep x i).take m) J) ∧ Below wj.heap.size wj wk) (fun s _ => L - (intOf s).toNat)
                case atStart => exact ⟨0, rfl, by omega, by rw [show mrk (fun q => (cvd x J (i + 1) q ∨ q = i) ∨ q ∈ (ahd edep x i).take 0) J = mrk (fun q => cvd x J (i + 1) q ∨ q = i) J from mrk_congr fun q _ => by simp]; exact HM1.out, HZ1.out⟩
                case round =>
                  clear HM1 HZ1
                  obtain ⟨m, rfl, hm, hrow, hb⟩ := hrel
                  have HROW := Lib.hid hrow
                  have HBK := Lib.hid hb
                  clear hrow hb
                  by_cases hltm : m < L
                  · obtain ⟨k, hk⟩ : ∃ k, (ahd edep x i)[m]? = some k := ⟨_, List.getElem?_eq_getElem (by rw [HL.out]; exact hltm)⟩
                    have hki := (mem_ahd.1 (List.mem_of_getElem? hk)).lt
                    have hkJ : k < J := by omega
                    obtain ⟨bk, ok, rfl, hbk, hrk⟩ : ∃ b o, pk = some ⟨b, o, Option.none⟩ ∧ b < wj.heap.size ∧ ∀ (i' n : Nat), (ahd edep x i)[i']? = some n → wj.cell? ⟨b, o + i', Option.none⟩ = some (.int .i64 (n : Int)) := by
                      obtain ⟨p, c, h1, _, h4⟩ := HNS.out
                      simp only [Value.slice.injEq] at h1
                      rcases h4 with ⟨_, h⟩ | ⟨b, o, h, h5, h6⟩
                      · rw [h] at hk; simp at hk
                      · exact ⟨b, o, by rw [h1.1, h], h5, h6⟩
                    have cm : wr.cell? ⟨bk, ok + m, Option.none⟩ = some (.int .i64 (k : Int)) := (HBK.out.cell (p := ⟨bk, _, Option.none⟩) hbk).trans (hrk m k hk)
                    obtain ⟨zk, hzk⟩ := mrk_any (P := fun q => (cvd x J (i + 1) q ∨ q = i) ∨ q ∈ (ahd edep x i).take m) hkJ
                    have ck' : wr.cell? ⟨C, k, Option.none⟩ = some (.int .i64 zk) := by rw [HROW.out.cellAt k (by omega), hzk]
                    have fk := HROW.out.frozenAt k
                    have hkJ' : (k : Int) < (J : Int) := by omega
                    have hk0' : (0 : Int) ≤ (k : Int) := by omega
                    have HM2 : Hid ((wr.setCell ⟨C, k, Option.none⟩ (.int .i64 1)).ownsRow C 3 1 (.slice (some ⟨C, 0, Option.none⟩) J J) J (mrk (fun q => (cvd x J (i + 1) q ∨ q = i) ∨ q ∈ (ahd edep x i).take (m + 1)) J)) := Lib.hid (by
                      rw [show mrk (fun q => (cvd x J (i + 1) q ∨ q = i) ∨ q ∈ (ahd edep x i).take (m + 1)) J = mrk (fun q => ((cvd x J (i + 1) q ∨ q = i) ∨ q ∈ (ahd edep x i).take m) ∨ q = k) J from mrk_congr fun q _ => by
                        rw [show (ahd edep x i).take (m + 1) = (ahd edep x i).take m ++ ((ahd edep x i)[m]?).toList from List.take_add_one, hk]
                        simp only [List.mem_append, Option.mem_toList, Option.mem_def, Option.some.injEq]
                        constructor
                        · rintro (h | h | h)
                          · exact .inl (.inl h)
                          · exact .inl (.inr h)
                          · exact .inr h.symm
                        · rintro ((h | h) | h)
                          · exact .inl h
                          · exact .inr (.inl h)
                          · exact .inr (.inr h.symm), ← mrk_set hkJ]
                      exact (HROW.out.stored k (.int .i64 1)).1)
                    have HZ2 : Hid (Below wj.heap.size wj (wr.setCell ⟨C, k, Option.none⟩ (.int .i64 1))) := Lib.hid (HBK.out.setCell (by rw [HC.out]; exact Nat.le_refl _) _)
                    clear hk hki hbk hrk hzk
                    go_wp2
                    go_roundw
                    case rel => exact ⟨m + 1, by go_num, by omega, HM2.out, HZ2.out⟩
                    case measure => simp [intOf] <;> omega
                  · obtain rfl : m = L := by omega
                    have HM3 : Hid (wr.ownsRow C 3 1 (.slice (some ⟨C, 0, Option.none⟩) J J) J (mrk (cvd x J i) J)) := Lib.hid (by
                      rw [show mrk (cvd x J i) J = mrk (fun q => (cvd x J (i + 1) q ∨ q = i) ∨ q ∈ (ahd edep x i).take m) J from mrk_congr fun q _ => by
                        rw [List.take_of_length_le (by rw [HL.out]; exact Nat.le_refl _), cvd_step]
                        constructor
                        · rintro (h | ⟨_, h | h⟩)
                          · exact .inl (.inl h)
                          · exact .inl (.inr h.symm)
                          · exact .inr h
                        · rintro ((h | h) | h)
                          · exact .inl h
                          · exact .inr ⟨HCR.out, .inl h.symm⟩
                          · exact .inr ⟨HCR.out, .inr h⟩]
                      exact HROW.out)
                    go_wp2
                    go_roundw
                    case rel => exact ⟨i, _, rfl, rfl, by omega, HM3.out, HBK.out⟩
                    case measure => simp [intOf] <;> omega
              | false =>
                have HM3 : Hid (w9.ownsRow C 3 1 (.slice (some ⟨C, 0, Option.none⟩) J J) J (mrk (cvd x J i) J)) := Lib.hid (by
                  rw [show mrk (cvd x J i) J = mrk (cvd x J (i + 1)) J from mrk_congr fun q _ => by
                    rw [cvd_step]
                    have hno := crs_no HE.out HF.out HTH.out (by rw [HRR.out]; exact of_decide_eq_false HCC.out)
                    exact ⟨fun h => h.elim id fun h => absurd h.1 hno, .inl⟩]
                  exact HM9.out)
                go_wp2
                go_roundw
                case rel => exact ⟨i, _, rfl, rfl, by omega, HM3.out, HZ9.out⟩
                case measure => simp [intOf] <;> omega
          | zero =>
            obtain rfl : z = -1 := by omega
            obtain ⟨wi0, rfl⟩ : ∃ wi0, wi0 = wr := ⟨_, rfl⟩
            have HMF : Hid (wi0.ownsRow C 3 1 (.slice (some ⟨C, 0, Option.none⟩) J J) J (mrk (fun q => q ∈ ahd edep x J) J)) := Lib.hid (by
              rw [show mrk (fun q => q ∈ ahd edep x J) J = mrk (cvd x J 0) J from mrk_congr fun q _ => cvd_end.symm]
              exact HM.out)
            obtain ⟨u0, hu0⟩ : ∃ u0, us[J]? = some u0 := ⟨_, List.getElem?_eq_getElem (by rw [hul.out]; exact hlt)⟩
            have hu0n := HI.out.rest J u0 (Nat.le_refl _) hu0
            subst hu0n
            have HU0 := Lib.hid hu0
            have HBW0 : Hid (Below w3.heap.size w3 wi0) := Lib.hid (HBJ.out.trans (HBI.out.mono HBJ.out.size))
            have hCz : Hid (C < wi0.heap.size) := Lib.hid (HMF.out.lt C rfl).2
            have hBi : Hid (B < wi0.heap.size) := Lib.hid (Nat.lt_of_lt_of_le hBz.out HBI.out.size)
            clear hu0 HM hz
            go_wp2
            go_loopw [76] (fun s76 wi => ∃ (q : Nat) (u : Value), s76 = .int .i64 (q : Int) ∧ q ≤ J ∧ wi.ownsRow w3.heap.size 40 1 (.slice (some ⟨B, 0, Option.none⟩) A0 A0) A0 (us.set J u) ∧ wi.ownsRow wi0.heap.size 3 1 u (ahn edep x J q).length (nvs (ahn edep x J q)) ∧ Below w3.heap.size w3 wi ∧ Exb B wi0 wi) (fun s _ => J - (intOf s).toNat)
            case atStart =>
              refine ⟨0, .slice Option.none 0 0, rfl, by omega, ?_, by simpa [ahn, nvs] using World.ownsRow_nil _ _ _ _, HBW0.out, Exb.refl _ _⟩
              rw [set_same HU0.out]; exact own_kept HI.out.own HBI.out
            case round =>
              obtain ⟨q, u, rfl, hqJ, hown, hrow, hbw, hex⟩ := hrel
              have HOWN := Lib.hid hown
              have HROW := Lib.hid hrow
              have HBW := Lib.hid hbw
              have HEX := Lib.hid hex
              clear hown hrow hbw hex
              by_cases hltq : q < J
              · have cCq : ∀ z, (mrk (fun q => q ∈ ahd edep x J) J)[q]? = some (.int .i64 z) → wr.cell? ⟨C, q, Option.none⟩ = some (.int .i64 z) := fun z hz => (World.cell?_of_block (w := wi0) (HEX.out.block C hCz.out hne2)).trans (by rw [HMF.out.cellAt q (by omega), hz])
                by_cases hq : q ∈ ahd edep x J
                · have cq := cCq 1 (mrk_yes hltq hq)
                  have hah := ahn_step (dep := edep) (x := x) J q
                  rw [← hbd_mem, decide_eq_true hq] at hah
                  simp only [if_true] at hah
                  have HAH := Lib.hid hah
                  clear hah cCq hq
                  obtain ⟨pu, mu, cu, rfl⟩ := own_form HROW.out
                  have cB : wr.cell? ⟨B, J, Option.none⟩ = some (.slice pu mu cu) := by
                    rw [HOWN.out.cellAt J (by omega), List.getElem?_set_self (by rw [hul.out]; omega)]
                  have hg := heap_alloc_new wr (Obj.cells #[Value.int .i64 (q : Int)] 3)
                  have hll : (ahn edep x J q).length ≤ 1000 := by have := ahn_len (dep := edep) (x := x) J q; omega
                  have hWa : Below wr.heap.size wr (wr.alloc (Obj.cells #[Value.int .i64 (q : Int)] 3)) := below_alloc wr _
                  obtain ⟨p', m', c', w', hrun, ho', hg'⟩ := app_ns (wr.alloc (Obj.cells #[Value.int .i64 (q : Int)] 3)) wi0.heap.size _ (ahn edep x J q) q (own_kept HROW.out hWa) hll (by have := HEX.out.size; simp; omega) ⟨wr.heap.size, 0, Option.none⟩ (by rw [add_lit, cell_of_row _ _ _ _ _ _ hg]; rfl)
                  have hub : ∀ k, (Value.slice pu mu cu).ownBlock = some k → wi0.heap.size ≤ k := fun k hk => (HROW.out.lt k hk).1
                  have hown' : w'.ownsRow w3.heap.size 40 1 (.slice (some ⟨B, 0, Option.none⟩) A0 A0) A0 (us.set J (.slice pu mu cu)) :=
                    (own_kept HOWN.out hWa).kept hg' (.inr fun e => by have := hub B e.symm; have := hBi.out; omega)
                  have hst := hown'.stored J (.slice p' m' c')
                  rw [List.set_set] at hst
                  have cB' : w'.cell? ⟨B, J, Option.none⟩ = some (.slice pu mu cu) := by
                    rw [hown'.cellAt J (by omega), List.getElem?_set_self (by rw [hul.out]; omega)]
                  have fB' := hown'.frozenAt J
                  have hJA' : (J : Int) < (A0 : Int) := by omega
                  have hJ0' : (0 : Int) ≤ (J : Int) := by omega
                  have hrow' : (w'.setCell ⟨B, J, Option.none⟩ (.slice p' m' c')).ownsRow wi0.heap.size 3 1 (.slice p' m' c') (ahn edep x J (q + 1)).length (nvs (ahn edep x J (q + 1))) := by
                    rw [HAH.out]
                    exact ho'.kept hst.2 (.inr fun e => by have := (ho'.lt B e).1; have := hBi.out; omega)
                  have hbw' : Below w3.heap.size w3 (w'.setCell ⟨B, J, Option.none⟩ (.slice p' m' c')) :=
                    ((HBW.out.trans (hWa.mono HBW.out.size)).grown hg' (by have := HBW.out.size; simp; omega) (fun k hk => by have := hub k hk; have := HBW0.out.size; omega)).setCell (by rw [HBB.out]; exact Nat.le_refl _) _
                  have hex' : Exb B wi0 (w'.setCell ⟨B, J, Option.none⟩ (.slice p' m' c')) := by
                    refine ⟨?_, fun k hk hkb => ?_⟩
                    · have := hg'.size; have := HEX.out.size; simp at *; omega
                    · have h0 := HEX.out.size
                      have h1 := hst.2.block k (by have := hg'.size; simp at this; omega) (fun e => hkb (Option.some.inj e))
                      have h2 := hg'.block k (by simp; omega) (fun e => by have := hub k e.symm; omega)
                      rw [h1, h2, hWa.block k (by omega)]
                      exact HEX.out.block k hk hkb
                  have HST := Lib.hid hst.1
                  have HROW' := Lib.hid hrow'
                  have HBW' := Lib.hid hbw'
                  have HEX' := Lib.hid hex'
                  clear hg hll hWa ho' hg' hub hown' hst hrow' hbw' hex'
                  go_wp2_with (at_builtin; refine wpList_app rfl (.tmp 88) (.tmp 90) 40 rfl _ _ _ w' rfl rfl hrun ?_)
                  go_wp2
                  go_roundw
                  case rel => exact ⟨q + 1, _, by go_num, by omega, HST.out, HROW'.out, HBW'.out, HEX'.out⟩
                  case measure => simp [intOf] <;> omega
                · have cq := cCq 0 (mrk_no hltq hq)
                  have hah := ahn_step (dep := edep) (x := x) J q
                  rw [← hbd_mem, decide_eq_false hq] at hah
                  simp only [Bool.false_eq_true, if_false, List.append_nil] at hah
                  have HAH := Lib.hid hah
                  clear hah cCq hq
                  go_wp2
                  go_roundw
                  case rel => exact ⟨q + 1, u, by go_num, by omega, HOWN.out, by rw [HAH.out]; exact HROW.out, HBW.out, HEX.out⟩
                  case measure => simp [intOf] <;> omega
              · obtain rfl : q = J := by omega
                have hnew : AhI edep x w3 wr B A0 (q + 1) (us.set q u) := by
                  refine ⟨HOWN.out, fun j v hj hv => ?_, fun j v hj hv => ?_⟩
                  · by_cases hji : q = j
                    · subst hji
                      rw [List.getElem?_set_self (by rw [hul.out]; omega)] at hv
                      obtain rfl := Option.some.inj hv
                      exact ⟨ns_of_own HROW.out, fun k hk => by have := (HROW.out.lt k hk).1; have := hBi.out; omega⟩
                    · rw [List.getElem?_set_ne hji] at hv
                      obtain ⟨h1, h2⟩ := HI.out.rows j v (by omega) hv
                      exact ⟨(h1.kept HBI.out).ex HEX.out h2, h2⟩
                  · rw [List.getElem?_set_ne (by omega)] at hv
                    exact HI.out.rest j v (by omega) hv
                have HNEW := Lib.hid hnew
                have HXN := Lib.hid ((HXJ.out.bel HBI.out).trans HEX.out)
                clear hnew
                go_wp2
                go_roundw
                case rel => exact ⟨q + 1, _, by go_num, by omega, HNEW.out, HBW.out, HXN.out⟩
                case measure => simp [intOf] <;> omega
      · obtain rfl : J = A0 := by omega
        have HAH := Lib.hid (ahead_any x _ wj (HV3.out.kept HBJ.out) (Nat.le_trans HK.out.1 (by omega)) HK.out.mk8)
        go_wp2_with (go_at_call 14; refine Hid.out ?_)
        refine Lib.hid ?_
        refine HAH.out.mono ?_
        rintro r w6 ⟨B2, A1, us2, rfl, hAA, hah, hb⟩
        rw [HXL.out] at hAA
        have hAA2 := hAA.symm
        clear hAA
        subst hAA2
        have HI1 := Lib.hid (HI.out.kept hb)
        have HI2 := Lib.hid hah
        have HB6 : Hid (Below w3.heap.size w3 w6) := Lib.hid (HBJ.out.trans (hb.mono HBJ.out.size))
        have hu1 : Hid (us.length = J) := Lib.hid (by have := HI.out.own.1; omega)
        have hu2 : Hid (us2.length = J) := Lib.hid (by have := hah.own.1; omega)
        clear hah hb HAH
        go_wp2
        go_loopw [99] (fun s99 wk => ∃ (k : Nat), s99 = .int .i64 (k : Int) ∧ k ≤ J ∧ Below w6.heap.size w6 wk) (fun s _ => J - (intOf s).toNat)
        case atStart => exact ⟨0, rfl, by omega, Below.refl _ _⟩
        case round =>
          obtain ⟨k, rfl, hk, hb⟩ := hrel
          have HBK := Lib.hid hb
          clear hb
          by_cases hltk : k < J
          · obtain ⟨u1, hx1⟩ : ∃ u, us[k]? = some u := ⟨_, List.getElem?_eq_getElem (by rw [hu1.out]; exact hltk)⟩
            obtain ⟨u2, hx2⟩ : ∃ u, us2[k]? = some u := ⟨_, List.getElem?_eq_getElem (by rw [hu2.out]; exact hltk)⟩
            have hn1 := (HI1.out.rows k u1 hltk hx1).1
            have hn2 := (HI2.out.rows k u2 hltk hx2).1
            obtain ⟨L, hL⟩ : ∃ L, (ahd edep x k).length = L := ⟨_, rfl⟩
            have hLl : (ahd edep x k).length ≤ 1000 := by have := ahd_len x k; omega
            obtain ⟨p1, c1, hue⟩ : ∃ p c, u1 = .slice p L c := by
              obtain ⟨p, c, h1, _⟩ := id hn1
              exact ⟨p, c, by rw [h1, hL]⟩
            subst hue
            obtain ⟨p2, c2, hue⟩ : ∃ p c, u2 = .slice p L c := by
              obtain ⟨p, c, h1, _⟩ := id hn2
              exact ⟨p, c, by rw [h1, hL]⟩
            subst hue
            have hB1 : B < w6.heap.size := (HI1.out.own.lt B rfl).2
            have hB2 : B2 < w6.heap.size := (HI2.out.own.lt B2 rfl).2
            obtain ⟨wz, rfl⟩ : ∃ wz, wz = wr := ⟨_, rfl⟩
            have keep : ∀ W, Below wz.heap.size wz W → (Below wz.heap.size wz W ∧ W.cell? ⟨B, k, Option.none⟩ = some (.slice p1 L c1) ∧ W.cell? ⟨B2, k, Option.none⟩ = some (.slice p2 L c2)) := fun W kk => by
              have kw := HBK.out.trans (kk.mono HBK.out.size)
              exact ⟨kk, (kw.cell (p := ⟨B, _, Option.none⟩) hB1).trans (by rw [HI1.out.own.cellAt k (by omega), hx1]), (kw.cell (p := ⟨B2, _, Option.none⟩) hB2).trans (by rw [HI2.out.own.cellAt k (by omega), hx2])⟩
            have K1 : Hid (∀ W, (Below wz.heap.size wz W ∧ W.cell? ⟨B, k, Option.none⟩ = some (.slice p1 L c1) ∧ W.cell? ⟨B2, k, Option.none⟩ = some (.slice p2 L c2)) → Calls Try.prog 21 #[.slice p1 L c1, .slice p2 L c2] W fun r w' => r = .returned (.bool true) ∧ (Below wz.heap.size wz w' ∧ w'.cell? ⟨B, k, Option.none⟩ = some (.slice p1 L c1) ∧ w'.cell? ⟨B2, k, Option.none⟩ = some (.slice p2 L c2))) := Lib.hid fun W kk => by
              have kw := HBK.out.trans (kk.1.mono HBK.out.size)
              have h1 := equal_ns _ _ _ _ W (hn1.kept kw) (hn2.kept kw) hLl hLl
              rw [decide_eq_true rfl] at h1
              refine h1.mono ?_
              rintro r w' ⟨rfl, hb⟩
              exact ⟨rfl, keep w' (kk.1.trans (hb.mono kk.1.size))⟩
            have hs0 := keep wz.drew ⟨rfl, rfl, rfl, Nat.le_refl _, fun _ _ => rfl⟩
            have hk0' : (0 : Int) ≤ (k : Int) := by omega
            have hkA' : (k : Int) < (J : Int) := by omega
            clear keep hx1 hx2 hn1 hn2 hL hLl hB1 hB2
            go_wp2_with fail
            go_region_held3 (fun w' => (Below wz.heap.size wz w' ∧ w'.cell? ⟨B, k, Option.none⟩ = some (.slice p1 L c1) ∧ w'.cell? ⟨B2, k, Option.none⟩ = some (.slice p2 L c2)))
              (first | exact hs0 | assumption)
              (first
                | (go_at_call 21; refine (K1.out _ (by assumption)).mono ?_; rintro r w' ⟨rfl, hsA⟩))
            have HZ : Hid (Below w6.heap.size w6 w') := Lib.hid (HBK.out.trans (hsA.1.mono HBK.out.size))
            clear hsA hs0 K1
            rename_i hH
            clear hH
            go_wp2
            go_roundw
            case rel => exact ⟨k + 1, by go_num, by omega, HZ.out⟩
            case measure => simp [intOf] <;> omega
          · obtain rfl : k = J := by omega
            have HW : Hid (Below w.heap.size w wr) := Lib.hid (HB3.out.trans ((HB6.out.trans (HBK.out.mono HB6.out.size)).mono HB3.out.size))
            go_wp2
            go_ret
            exact ⟨rfl, HW.out⟩
end Go.Proofs.Ytcbpkagegdfidaa
