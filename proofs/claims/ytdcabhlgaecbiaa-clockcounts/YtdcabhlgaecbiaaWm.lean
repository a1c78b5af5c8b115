/- ClockCounts: of each event, of each thread how many happen ahead of it, it, too. -/
import Derived.Test.YtdcabhlgaecbiaaCk
set_option linter.unusedSimpArgs false
set_option linter.unusedVariables false
namespace Go.Proofs.Ytdcabhlgaecbiaa
open Go.RowKit

set_option maxRecDepth 100000 in
set_option maxHeartbeats 16000000 in
theorem counts_any (HAw : AwO) (HCk : CkO) (l : Evl) (tt : Int) (ht0 : -128 ≤ tt) (ht1 : tt ≤ 127) (v : Value) (w : World) (hs : ES w v l) (hok : eok l) (hl : l.length ≤ 9223372036854775807) : Calls Try.prog 4 #[v, .int .i8 tt] w fun e w' => e = .returned (.bool true) ∧ Below w.heap.size w w' := by
  obtain ⟨p0, cap0, rfl, hcap0⟩ := hs.form
  obtain ⟨A0, hA0⟩ : ∃ A, l.length = A := ⟨_, rfl⟩
  have HS := Lib.hid hs
  rw [hA0] at HS hcap0 hl ⊢
  have HA0 := Lib.hid hA0
  have HOK := Lib.hid hok
  clear hs hA0 hok
  go_enter Try.func4, Try.ntmps4
  go_wp2_with (go_at_call 7; refine Hid.out ?_)
  refine Lib.hid ?_
  refine (HAw _).mono ?_
  rintro e w1 ⟨rfl, hb⟩
  have HB1 := Lib.hid hb
  clear hb
  have HLT := light_any l 24 _ w1 (HS.out.kept HB1.out) (by rw [HA0.out]; exact hl)
  rw [show (l.all (fun e => decide (e.2.length ≤ 8)) && decide ((l.length : Int) ≤ 24)) = lgt l 24 from rfl] at HLT
  have HL := Lib.hid HLT
  clear HLT
  go_wp2_with (go_at_call 8; refine Hid.out ?_)
  refine Lib.hid ?_
  refine HL.out.mono ?_
  rintro e w2 ⟨rfl, hb⟩
  have HB2 : Hid (Below w.heap.size w w2) := Lib.hid (HB1.out.trans (hb.mono HB1.out.size))
  clear hb HL HB1
  obtain ⟨lt, hlt⟩ : ∃ b, lgt l 24 = b := ⟨_, rfl⟩
  rw [hlt]
  cases lt with
  | false =>
    clear hlt
    go_wp2
    go_ret
    exact ⟨rfl, HB2.out⟩
  | true =>
    obtain ⟨h8, hA24⟩ := lgt_true hlt
    have h24 : A0 ≤ 24 := by rw [HA0.out] at hA24; omega
    have HE1 := Lib.hid (events_any l _ w2 (HS.out.kept HB2.out) (by rw [HA0.out]; omega) HOK.out (fun e he => by have := h8 e he; omega))
    have HK := Lib.hid (evs_k (by rw [HA0.out]; omega) HOK.out h8)
    clear h8 hA24 hlt
    go_wp2_with (go_at_call 9; refine Hid.out ?_)
    refine Lib.hid ?_
    refine HE1.out.mono ?_
    rintro e w3 ⟨v3, rfl, hv3, hb⟩
    have HB3 : Hid (Below w.heap.size w w3) := Lib.hid (HB2.out.trans (hb.mono HB2.out.size))
    clear hb HE1
    obtain ⟨x, hx⟩ : ∃ x, evs l = x := ⟨_, rfl⟩
    have hxl : x.length = A0 := by rw [← hx, evs_len, HA0.out]
    rw [hx] at HK hv3
    have HXL := Lib.hid hxl
    obtain ⟨p3, c3, hve, hc3⟩ : ∃ p c, v3 = .slice p A0 c ∧ A0 ≤ c := by
      obtain ⟨p, c, h1, h2, _⟩ := id hv3
      rw [hxl] at h1 h2
      exact ⟨p, c, h1, h2⟩
    subst hve
    have HV3 := Lib.hid hv3
    have HXE := Lib.hid hx
    clear hv3 hx hxl
    have hwt : IntKind.i64.wrap tt = tt := by rw [IntKind.wrap_i64]; omega
    have HN1 := HCk x tt _ w3 HV3.out HK.out ht0 ht1
    obtain ⟨T, hT⟩ : ∃ T, tt.toNat = T := ⟨_, rfl⟩
    rw [hT] at HN1
    have HN1 := Lib.hid HN1
    have hmax : max tt 0 = (T : Int) := by omega
    have hTl : T ≤ 127 := by omega
    clear hT
    go_wp2_with (go_at_call 14; refine Hid.out ?_)
    refine Lib.hid ?_
    refine HN1.out.mono ?_
    rintro r w4 ⟨v4, rfl, hr4, hb⟩
    have HB4 : Hid (Below w.heap.size w w4) := Lib.hid (HB3.out.trans (hb.mono HB3.out.size))
    have HV34 := Lib.hid (HV3.out.kept hb)
    obtain ⟨p4, c4, hve⟩ : ∃ p c, v4 = .slice p A0 c := by
      obtain ⟨p, c, h1, _⟩ := id hr4
      exact ⟨p, c, by rw [h1, List.length_map, List.length_range, HXL.out]⟩
    subst hve
    have HR4 := Lib.hid hr4
    have HAH := Lib.hid (ahead_any x _ w4 HV34.out (Nat.le_trans HK.out.1 (by omega)) HK.out.mk8)
    clear hb HN1 hr4
    go_wp2_with (go_at_call 11; refine Hid.out ?_)
    refine Lib.hid ?_
    refine HAH.out.mono ?_
    rintro r w5 ⟨B, A1, us, rfl, hAA, hah, hb⟩
    rw [HXL.out] at hAA
    have hAA2 := hAA.symm
    clear hAA
    subst hAA2
    have HB5 : Hid (Below w.heap.size w w5) := Lib.hid (HB4.out.trans (hb.mono HB4.out.size))
    have HV5 := Lib.hid (HV34.out.kept hb)
    have HR5 := Lib.hid (HR4.out.kept hb)
    have HI := Lib.hid hah
    have hus : Hid (us.length = A0) := Lib.hid (by have := hah.own.1; omega)
    have hBs : Hid (B < w5.heap.size) := Lib.hid (hah.own.lt B rfl).2
    clear hah hb HAH
    have hAA0 : ((A0 : Int) != (A0 : Int)) = false := by simp
    go_wp2
    go_loopw [34] (fun s34 wr => ∃ (j : Nat), s34 = .int .i64 (j : Int) ∧ j ≤ A0 ∧ Below w5.heap.size w5 wr) (fun s _ => A0 - (intOf s).toNat)
    case atStart => exact ⟨0, rfl, by omega, Below.refl _ _⟩
    case round =>
      obtain ⟨j, rfl, hj, hb⟩ := hrel
      have HBJ := Lib.hid hb
      clear hb
      obtain ⟨wj, rfl⟩ : ∃ wj, wj = wr := ⟨_, rfl⟩
      by_cases hltj : j < A0
      · obtain ⟨f, hf⟩ : ∃ f, x[j]? = some f := ⟨_, List.getElem?_eq_getElem (by rw [HXL.out]; exact hltj)⟩
        obtain ⟨b0, o0, rfl, hbb, hr⟩ : ∃ b o, p3 = some ⟨b, o, Option.none⟩ ∧ b < w5.heap.size ∧ EvR w5 b o x := by
          obtain ⟨p, c, h1, _, _, h4⟩ := HV5.out
          simp only [Value.slice.injEq] at h1
          rcases h4 with ⟨_, h⟩ | ⟨b, o, h, h5, h6⟩
          · rw [h] at hf; simp at hf
          · exact ⟨b, o, by rw [h1.1, h], h5, h6⟩
        have hlj : ((List.range x.length).map fun j => ckr x j T)[j]? = some (ckr x j T) := by
          rw [List.getElem?_map, List.getElem?_range (by rw [HXL.out]; exact hltj)]
          rfl
        obtain ⟨b4, o4, rfl, hb4, hr4⟩ : ∃ b o, p4 = some ⟨b, o, Option.none⟩ ∧ b < w5.heap.size ∧ ∀ (i : Nat) l, ((List.range x.length).map fun j => ckr x j T)[i]? = some l → ∃ u, w5.cell? ⟨b, o + i, Option.none⟩ = some u ∧ NsS w5 u l := by
          obtain ⟨p, c, h1, h4⟩ := HR5.out
          simp only [Value.slice.injEq] at h1
          rcases h4 with h | ⟨b, o, h, h5, h6⟩
          · rw [h] at hlj; simp at hlj
          · exact ⟨b, o, by rw [h1.1, h], h5, h6⟩
        obtain ⟨u4, hu4, hn4⟩ := hr4 j _ hlj
        obtain ⟨p5, c5, hue⟩ : ∃ p c, u4 = .slice p T c := by
          obtain ⟨p, c, h1, _⟩ := id hn4
          exact ⟨p, c, by rw [h1]; unfold ckr; rw [List.length_map, List.length_range]⟩
        subst hue
        have HN4 := Lib.hid hn4
        have c40 : Hid (∀ W, Below w5.heap.size w5 W → W.cell? ⟨b4, o4 + j, Option.none⟩ = some (.slice p5 T c5)) := Lib.hid fun W k => (k.cell (p := ⟨b4, _, Option.none⟩) hb4).trans hu4
        have hthj : thi x j = f.1 := by
          unfold thi
          obtain ⟨h1, h2⟩ := List.getElem?_eq_some_iff.1 hf
          rw [getElem!_pos x j h1, h2]
        obtain ⟨kf, hkf⟩ : ∃ k : Nat, f.1 = (k : Int) := ⟨f.1.toNat, by have := (HK.out.2 f (List.mem_of_getElem? hf)).2.1; omega⟩
        have hkf5 : kf < 5 := by have := (HK.out.2 f (List.mem_of_getElem? hf)).2.2; omega
        obtain ⟨qf, mf, cf, hfc⟩ := hr.at hbb hf
        obtain ⟨x1, x2, _⟩ := hfc wj HBJ.out
        rw [hkf] at x1
        have HR := Lib.hid hr
        have HBB := Lib.hid hbb
        have HTJ : Hid (thi x j = (kf : Int)) := Lib.hid (by rw [hthj, hkf])
        obtain ⟨uj, huj⟩ : ∃ u, us[j]? = some u := ⟨_, List.getElem?_eq_getElem (by rw [hus.out]; exact hltj)⟩
        have hnj := (HI.out.rows j uj hltj huj).1
        obtain ⟨L, hL⟩ : ∃ L, (ahd edep x j).length = L := ⟨_, rfl⟩
        obtain ⟨pj, cj, hue⟩ : ∃ p c, uj = .slice p L c := by
          obtain ⟨p, c, h1, _⟩ := id hnj
          exact ⟨p, c, by rw [h1, hL]⟩
        subst hue
        have HNJ := Lib.hid hnj
        have HL := Lib.hid hL
        have hLj : L ≤ j := by rw [← hL]; exact ahd_len x j
        have cB0 : Hid (∀ W, Below w5.heap.size w5 W → W.cell? ⟨B, j, Option.none⟩ = some (.slice pj L cj)) := Lib.hid fun W k => (k.cell (p := ⟨B, _, Option.none⟩) hBs.out).trans (by rw [HI.out.own.cellAt j (by omega), huj])
        have y4 := c40.out wj HBJ.out
        have hTT : ((T : Int) != (T : Int)) = false := by simp
        obtain ⟨i1, hi1, hy0, hy1, hy2⟩ := in_info
        clear hf hr hlj hr4 hu4 hn4 hthj hkf hfc huj hnj hL hbb
        go_wp2_with (at_make; refine wpList_make_full _ rfl (.const (.int .i64 5)) (.const (.int .i64 5)) 35 rfl wj.heap.size 3 i1 _ 1 Try.underlying35 hi1 hy0 hy1 .i64 .i64 ((5 : Nat) : Int) ((5 : Nat) : Int) 5 rfl rfl rfl rfl (by rw [hy2]; omega) (by unfold maxLen; omega) (Nat.le_refl _) ?_)
        intro wm hown hgr
        obtain ⟨C, hC⟩ : ∃ C, wj.heap.size = C := ⟨_, rfl⟩
        have HBM : Hid (Below wj.heap.size wj wm) := Lib.hid ((Below.refl _ wj).grown hgr (Nat.le_refl _) (fun k hk => by cases hk))
        have hown2 : wm.ownsRow wj.heap.size 3 1 (.slice (some ⟨wj.heap.size, 0, Option.none⟩) 5 5) 5 (five fun _ => 0) := by
          rw [← five_zero]
          exact hown
        rw [hC] at hown2 ⊢
        have HC := Lib.hid hC
        have hne1 : ¬ b0 = C := by have := HBB.out; have := HBJ.out.size; omega
        have hne2 : ¬ C = b0 := fun e => hne1 e.symm
        have hne3 : ¬ B = C := by have := hBs.out; have := HBJ.out.size; omega
        have hne4 : ¬ C = B := fun e => hne3 e.symm
        have HC5 : Hid (w5.heap.size ≤ C) := Lib.hid (by rw [← hC]; exact HBJ.out.size)
        have hbm5 : Below w5.heap.size w5 wm := HBJ.out.trans (HBM.out.mono HBJ.out.size)
        obtain ⟨x3, x4, _⟩ : wm.cell? ⟨b0, o0 + j * 2, Option.none⟩ = some (.int .i64 (kf : Int)) ∧ True ∧ True := ⟨(HBM.out.cell (p := ⟨b0, _, Option.none⟩) (by show b0 < _; have := HBB.out; have := HBJ.out.size; omega)).trans x1, trivial, trivial⟩
        have yB := cB0.out wm hbm5
        have ck : wm.cell? ⟨C, kf, Option.none⟩ = some (.int .i64 0) := by rw [hown2.cellAt kf (by omega), five_get hkf5]; rfl
        have fk := hown2.frozenAt kf
        have hkf0' : (0 : Int) ≤ (kf : Int) := by omega
        have hkf5' : (kf : Int) < 5 := by omega
        have hw1 : Hid ((wm.setCell ⟨C, kf, Option.none⟩ (.int .i64 1)).ownsRow C 3 1 (.slice (some ⟨C, 0, Option.none⟩) 5 5) 5 (five (cm x j 0))) := Lib.hid (by
          have h1 := (hown2.stored kf (.int .i64 ((0 + 1 : Nat) : Int))).1
          rw [five_set (d := cm x j 0) hkf5 (fun t => by
            unfold cm
            rw [HTJ.out]
            by_cases h : t = kf
            · subst h; simp
            · rw [if_neg h, if_neg (by omega)]; simp)] at h1
          exact h1)
        have HZ1 : Hid (Below wj.heap.size wj (wm.setCell ⟨C, kf, Option.none⟩ (.int .i64 1))) := Lib.hid (HBM.out.setCell (by rw [HC.out]; exact Nat.le_refl _) _)
        clear hown hgr hi1 hy0 hy1 hy2 hown2 hC hbm5 x1 x2 y4
        go_wp2
        generalize wm.setCell ⟨C, kf, Option.none⟩ (.int .i64 1) = w1' at hw1 HZ1 ⊢
        clear x3 yB ck fk
        go_loopw [62] (fun s62 wk => ∃ (m : Nat), s62 = .int .i64 (m : Int) ∧ m ≤ L ∧ wk.ownsRow C 3 1 (.slice (some ⟨C, 0, Option.none⟩) 5 5) 5 (five (cm x j m)) ∧ Below wj.heap.size wj wk) (fun s _ => L - (intOf s).toNat)
        case atStart => exact ⟨0, rfl, by omega, hw1.out, HZ1.out⟩
        case round =>
          clear hw1 HZ1
          obtain ⟨m, rfl, hm, hrow, hb⟩ := hrel
          have HROW := Lib.hid hrow
          have HBK := Lib.hid hb
          clear hrow hb
          obtain ⟨wk, rfl⟩ : ∃ wk, wk = wr := ⟨_, rfl⟩
          by_cases hltm : m < L
          · obtain ⟨i, hi⟩ : ∃ i, (ahd edep x j)[m]? = some i := ⟨_, List.getElem?_eq_getElem (by rw [HL.out]; exact hltm)⟩
            have hij := (mem_ahd.1 (List.mem_of_getElem? hi)).lt
            obtain ⟨bj, oj, rfl, hbj, hrj⟩ : ∃ b o, pj = some ⟨b, o, Option.none⟩ ∧ b < w5.heap.size ∧ ∀ (i' n : Nat), (ahd edep x j)[i']? = some n → w5.cell? ⟨b, o + i', Option.none⟩ = some (.int .i64 (n : Int)) := by
              obtain ⟨p, c, h1, _, h4⟩ := HNJ.out
              simp only [Value.slice.injEq] at h1
              rcases h4 with ⟨_, h⟩ | ⟨b, o, h, h5, h6⟩
              · rw [h] at hi; simp at hi
              · exact ⟨b, o, by rw [h1.1, h], h5, h6⟩
            have kw : Below w5.heap.size w5 wk := HBJ.out.trans (HBK.out.mono HBJ.out.size)
            have cmi : wk.cell? ⟨bj, oj + m, Option.none⟩ = some (.int .i64 (i : Int)) := (kw.cell (p := ⟨bj, _, Option.none⟩) hbj).trans (hrj m i hi)
            obtain ⟨e, he⟩ : ∃ e, x[i]? = some e := ⟨_, List.getElem?_eq_getElem (by rw [HXL.out]; omega)⟩
            have hthi : thi x i = e.1 := by
              unfold thi
              obtain ⟨h1, h2⟩ := List.getElem?_eq_some_iff.1 he
              rw [getElem!_pos x i h1, h2]
            obtain ⟨ke, hke⟩ : ∃ k : Nat, e.1 = (k : Int) := ⟨e.1.toNat, by have := (HK.out.2 e (List.mem_of_getElem? he)).2.1; omega⟩
            have hke5 : ke < 5 := by have := (HK.out.2 e (List.mem_of_getElem? he)).2.2; omega
            obtain ⟨qe, me, ce, hec⟩ := HR.out.at HBB.out he
            have x1 := (hec wk kw).1
            rw [hke] at x1
            have hiA' : (i : Int) < (A0 : Int) := by omega
            have hi0' : (0 : Int) ≤ (i : Int) := by omega
            have hke0' : (0 : Int) ≤ (ke : Int) := by omega
            have hke5' : (ke : Int) < 5 := by omega
            obtain ⟨n, hn⟩ : ∃ n, cm x j m ke = n := ⟨_, rfl⟩
            have hnl : n ≤ m + 1 := by rw [← hn]; exact cm_le x j m ke
            have cke : wk.cell? ⟨C, ke, Option.none⟩ = some (.int .i64 (n : Int)) := by rw [HROW.out.cellAt ke (by omega), five_get hke5, hn]
            have fke := HROW.out.frozenAt ke
            have hwn : IntKind.i64.wrap ((n : Int) + 1) = (n : Int) + 1 := by rw [IntKind.wrap_i64]; omega
            have HM2 : Hid ((wk.setCell ⟨C, ke, Option.none⟩ (.int .i64 ((n : Int) + 1))).ownsRow C 3 1 (.slice (some ⟨C, 0, Option.none⟩) 5 5) 5 (five (cm x j (m + 1)))) := Lib.hid (by
              have h1 := (HROW.out.stored ke (.int .i64 ((cm x j m ke + 1 : Nat) : Int))).1
              rw [five_set (d := cm x j (m + 1)) hke5 (fun t => by
                rw [cm_step hi, hthi, hke]
                by_cases h : t = ke
                · subst h; simp
                · rw [if_neg h, if_neg (by omega)])] at h1
              rw [hn] at h1
              exact h1)
            have HZ2 : Hid (Below wj.heap.size wj (wk.setCell ⟨C, ke, Option.none⟩ (.int .i64 ((n : Int) + 1)))) := Lib.hid (HBK.out.setCell (by rw [HC.out]; exact Nat.le_refl _) _)
            clear hi hij hbj hrj kw he hthi hke hec hn
            go_wp2
            go_roundw
            case rel => exact ⟨m + 1, by go_num, by omega, HM2.out, HZ2.out⟩
            case measure => simp [intOf] <;> omega
          · obtain rfl : m = L := by omega
            have kw : Below w5.heap.size w5 wk := HBJ.out.trans (HBK.out.mono HBJ.out.size)
            have y4 := c40.out wk kw
            have HKW := Lib.hid kw
            have hCz : Hid (C < wk.heap.size) := Lib.hid (HROW.out.lt C rfl).2
            have HCNT : Hid (∀ t : Nat, cnt edep (·.1) x j (t : Int) = cm x j m t) := Lib.hid fun t => cnt_cm (by rw [HXL.out]; exact hltj) HL.out t
            clear kw
            go_wp2
            go_loopw [82] (fun s82 wq => ∃ (q : Nat), s82 = .int .i64 (q : Int) ∧ q ≤ T ∧ wq = wk) (fun s _ => T - (intOf s).toNat)
            case atStart => exact ⟨0, rfl, by omega, rfl⟩
            case round =>
              clear y4
              obtain ⟨q, rfl, hq, rfl⟩ := hrel
              by_cases hltq : q < T
              · have hlq : (ckr x j T)[q]? = some (cnt edep (·.1) x j (q : Int)) := by
                  unfold ckr
                  rw [List.getElem?_map, List.getElem?_range hltq]
                  rfl
                obtain ⟨b5, o5, rfl, hb5, hr5⟩ : ∃ b o, p5 = some ⟨b, o, Option.none⟩ ∧ b < w5.heap.size ∧ ∀ (i' n : Nat), (ckr x j T)[i']? = some n → w5.cell? ⟨b, o + i', Option.none⟩ = some (.int .i64 (n : Int)) := by
                  obtain ⟨p, c, h1, _, h4⟩ := HN4.out
                  simp only [Value.slice.injEq] at h1
                  rcases h4 with ⟨_, h⟩ | ⟨b, o, h, h5, h6⟩
                  · rw [h] at hlq; simp at hlq
                  · exact ⟨b, o, by rw [h1.1, h], h5, h6⟩
                obtain ⟨n, hn⟩ : ∃ n, cnt edep (·.1) x j (q : Int) = n := ⟨_, rfl⟩
                rw [hn] at hlq
                have c5q : wr.cell? ⟨b5, o5 + q, Option.none⟩ = some (.int .i64 (n : Int)) := (HKW.out.cell (p := ⟨b5, _, Option.none⟩) hb5).trans (hr5 q n hlq)
                have hnn : ((n : Int) != (n : Int)) = false := by simp
                by_cases hq5 : q < 5
                · have hq5' : (q : Int) < 5 := by omega
                  have hq0' : (0 : Int) ≤ (q : Int) := by omega
                  have cq : wr.cell? ⟨C, q, Option.none⟩ = some (.int .i64 (n : Int)) := by rw [HROW.out.cellAt q (by omega), five_get hq5, ← HCNT.out, hn]
                  clear hlq hb5 hr5 hn
                  go_wp2
                  go_roundw
                  case rel => exact ⟨q + 1, by go_num, by omega, (by first | rfl | trivial)⟩
                  case measure => simp [intOf] <;> omega
                · have hq5' : ¬ (q : Int) < 5 := by omega
                  have hn0 : n = 0 := by
                    rw [← hn]
                    exact cnt_big fun e he => by have := (HK.out.2 e he).2.2; omega
                  subst hn0
                  clear hlq hb5 hr5 hn
                  go_wp2
                  go_roundw
                  case rel => exact ⟨q + 1, by go_num, by omega, (by first | rfl | trivial)⟩
                  case measure => simp [intOf] <;> omega
              · obtain rfl : q = T := by omega
                go_wp2
                go_roundw
                case rel => exact ⟨j + 1, by go_num, by omega, HKW.out⟩
                case measure => simp [intOf] <;> omega
      · obtain rfl : j = A0 := by omega
        have HR : Hid (Below w.heap.size w wj) := Lib.hid (HB5.out.trans (HBJ.out.mono HB5.out.size))
        go_wp2
        go_ret
        exact ⟨rfl, HR.out⟩
end Go.Proofs.Ytdcabhlgaecbiaa
