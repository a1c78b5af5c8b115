/- RaceTurns: what is left, when the second one comes ahead of the first one. -/
import Derived.Test.YtcbpkagegdfidaaWf
set_option linter.unusedSimpArgs false
set_option linter.unusedVariables false
namespace Go.Proofs.Ytcbpkagegdfidaa
open Go.RowKit

/-- What comes ahead of the second one, and doesn't happen behind the first one. -/
noncomputable def trk (x : Evl) (i n : Nat) : Evl := ((List.range n).filter fun k => decide (k < i) || (decide (i < k) && !hbd edep x i k)).map fun k => x[k]!
theorem trk_step (x : Evl) (i n : Nat) : trk x i (n + 1) = trk x i n ++ (if decide (n < i) || (decide (i < n) && !hbd edep x i n) then [x[n]!] else []) := by
  unfold trk
  rw [List.range_succ, List.filter_append, List.map_append]
  congr 1
  rw [List.filter_cons]
  split <;> rfl
theorem trk_len (x : Evl) (i n : Nat) : (trk x i n).length ≤ n := by
  unfold trk
  rw [List.length_map]
  have := List.length_filter_le (fun k => decide (k < i) || (decide (i < k) && !hbd edep x i k)) (List.range n)
  rwa [List.length_range] at this
theorem trk_mem {x : Evl} {i n : Nat} (hn : n ≤ x.length) {e : Int × List (Int × Bool)} (h : e ∈ trk x i n) : e ∈ x := by
  unfold trk at h
  obtain ⟨k, hk, rfl⟩ := List.mem_map.1 h
  have := List.mem_range.1 (List.mem_filter.1 hk).1
  rw [getElem!_pos x k (by omega)]
  exact List.getElem_mem _
noncomputable def trI (x : Evl) (a b : Int) : Evl := if a < 0 ∨ b ≤ a ∨ (x.length : Int) ≤ b then [] else trk x a.toNat b.toNat ++ [x[b.toNat]!]
def TurnC : Prop := ∀ (x : Evl) (a b : Int) v w, EvS w v x → Evk x → Calls Try.prog 13 #[v, .agg #[.int .i64 a, .int .i64 b]] w fun e w' => ∃ v', e = .returned v' ∧ EvS w' v' (trI x a b) ∧ Below w.heap.size w w'
set_option maxRecDepth 100000 in
set_option maxHeartbeats 16000000 in
theorem turns_any' (HAw : AwC) (HT : TurnC) (l : Evl) (a b : Int) (v : Value) (w : World) (hs : ES w v l) (hok : eok l) (hl : l.length ≤ 9223372036854775807) : Calls Try.prog 4 #[v, .agg #[.int .i64 a, .int .i64 b]] w fun e w' => e = .returned (.bool true) ∧ Below w.heap.size w w' := by
  obtain ⟨p0, cap0, rfl, hcap0⟩ := hs.form
  obtain ⟨A0, hA0⟩ : ∃ A, l.length = A := ⟨_, rfl⟩
  have HS := Lib.hid hs
  rw [hA0] at HS hcap0 hl ⊢
  have HA0 := Lib.hid hA0
  have HOK := Lib.hid hok
  clear hs hA0 hok
  go_enter Try.func4, Try.ntmps4
  go_wp2_with (go_at_call 7; refine Hid.out ?_)
  have hWa := below_alloc w (Obj.cells #[Value.int .i64 a, .int .i64 b] 30)
  have HG0 := Lib.hid (heap_alloc_new w (Obj.cells #[Value.int .i64 a, .int .i64 b] 30))
  have HZ0 : Hid ((w.alloc (Obj.cells #[Value.int .i64 a, .int .i64 b] 30)).heap.size = w.heap.size + 1) := Lib.hid (by simp)
  have HS0 := Lib.hid (HS.out.kept hWa)
  have HWA := Lib.hid hWa
  clear hWa HS
  refine Lib.hid ?_
  generalize w.alloc (Obj.cells #[Value.int .i64 a, .int .i64 b] 30) = w0 at HG0 HZ0 HS0 HWA ⊢
  refine (HAw _).mono ?_
  rintro e w1 ⟨rfl, hb⟩
  have HB1 := Lib.hid hb
  clear hb
  have HLT := light_any l 24 _ w1 (HS0.out.kept HB1.out) (by rw [HA0.out]; exact hl)
  rw [show (l.all (fun e => decide (e.2.length ≤ 8)) && decide ((l.length : Int) ≤ 24)) = lgt l 24 from rfl] at HLT
  have HL := Lib.hid HLT
  clear HLT
  go_wp2_with (go_at_call 8; refine Hid.out ?_)
  refine Lib.hid ?_
  refine HL.out.mono ?_
  rintro e w2 ⟨rfl, hb⟩
  have HB2 : Hid (Below w0.heap.size w0 w2) := Lib.hid (HB1.out.trans (hb.mono HB1.out.size))
  clear hb HL HB1
  obtain ⟨lt, hlt⟩ : ∃ b, lgt l 24 = b := ⟨_, rfl⟩
  rw [hlt]
  cases lt with
  | false =>
    clear hlt
    go_wp2
    go_ret
    exact ⟨rfl, HWA.out.trans (HB2.out.mono HWA.out.size)⟩
  | true =>
    obtain ⟨h8, hA24⟩ := lgt_true hlt
    have h24 : A0 ≤ 24 := by rw [HA0.out] at hA24; omega
    have HE1 := Lib.hid (events_any l _ w2 (HS0.out.kept HB2.out) (by rw [HA0.out]; omega) HOK.out (fun e he => by have := h8 e he; omega))
    have HK := Lib.hid (evs_k (by rw [HA0.out]; omega) HOK.out h8)
    clear h8 hA24 hlt
    go_wp2_with (go_at_call 9; refine Hid.out ?_)
    refine Lib.hid ?_
    refine HE1.out.mono ?_
    rintro e w3 ⟨v3, rfl, hv3, hb⟩
    have HB3 : Hid (Below w0.heap.size w0 w3) := Lib.hid (HB2.out.trans (hb.mono HB2.out.size))
    clear hb HE1
    obtain ⟨x, hx⟩ : ∃ x, evs l = x := ⟨_, rfl⟩
    have hxl : x.length = A0 := by rw [← hx, evs_len, HA0.out]
    rw [hx] at HK hv3
    have HXL := Lib.hid hxl
    obtain ⟨p3, c3, hve, hc3⟩ : ∃ p c, v3 = .slice p A0 c ∧ A0 ≤ c := by
      obtain ⟨p, c, h1, h2, _⟩ := id hv3
      rw [hxl] at h1 h2
      exact ⟨p, c, h1, h2⟩
    subst hve
    have HV3 := Lib.hid hv3
    have HXE := Lib.hid hx
    clear hv3 hx hxl
    have HT1 := Lib.hid (HT x a b _ w3 HV3.out HK.out)
    have box : ∀ W, Below w0.heap.size w0 W → W.cell? ⟨w.heap.size, 0, Option.none⟩ = some (.int .i64 a) ∧ W.cell? ⟨w.heap.size, 1, Option.none⟩ = some (.int .i64 b) := fun W k => by
      have g1 := (k.block w.heap.size (by rw [HZ0.out]; omega)).trans HG0.out
      exact ⟨by rw [cell_of_row _ _ _ _ _ _ g1]; rfl, by rw [cell_of_row _ _ _ _ _ _ g1]; rfl⟩
    have HBOX := Lib.hid box
    obtain ⟨ba, bb⟩ := box w3 HB3.out
    clear box
    go_wp2_with (go_at_call 13; refine Hid.out ?_)
    refine Lib.hid ?_
    refine HT1.out.mono ?_
    rintro e w4 ⟨v4, rfl, hv4, hb⟩
    have HB4 : Hid (Below w0.heap.size w0 w4) := Lib.hid (HB3.out.trans (hb.mono HB3.out.size))
    have HV34 := Lib.hid (HV3.out.kept hb)
    have HV4 := Lib.hid hv4
    obtain ⟨p4, c4, hve⟩ : ∃ p c, v4 = .slice p (trI x a b).length c := by
      obtain ⟨p, c, h1, _⟩ := id hv4
      exact ⟨p, c, h1⟩
    clear ba bb
    obtain ⟨ba, bb⟩ := HBOX.out w4 HB4.out
    clear hb HT1 hv4
    by_cases hbad : a < 0 ∨ b ≤ a ∨ (A0 : Int) ≤ b
    · have htr : trI x a b = [] := by unfold trI; rw [HXL.out, if_pos hbad]
      rw [htr] at hve
      subst hve
      have HR : Hid (Below w.heap.size w w4) := Lib.hid (HWA.out.trans (HB4.out.mono HWA.out.size))
      by_cases h1 : a < 0
      · clear hbad htr
        go_wp2
        go_ret
        exact ⟨rfl, HR.out⟩
      · by_cases h2 : b ≤ a
        · clear hbad htr
          go_wp2
          go_ret
          exact ⟨rfl, HR.out⟩
        · have h3 : (A0 : Int) ≤ b := by omega
          clear hbad htr
          go_wp2
          go_ret
          exact ⟨rfl, HR.out⟩
    · obtain ⟨i, rfl⟩ : ∃ i : Nat, a = (i : Int) := ⟨a.toNat, by omega⟩
      obtain ⟨j, rfl⟩ : ∃ j : Nat, b = (j : Int) := ⟨b.toNat, by omega⟩
      have hij : i < j := by omega
      have hjA : j < A0 := by omega
      have h1 : ¬ (i : Int) < 0 := by omega
      have h2 : ¬ (j : Int) ≤ (i : Int) := by omega
      have h3 : ¬ (A0 : Int) ≤ (j : Int) := by omega
      have htr : trI x i j = trk x i j ++ [x[j]!] := by unfold trI; rw [HXL.out, if_neg (by omega)]; rfl
      rw [htr] at hve
      subst hve
      have HTR := Lib.hid htr
      have hj0 : (0 : Int) ≤ (j : Int) := by omega
      have hj1 : (j : Int) ≤ (A0 : Int) := by omega
      have HAH := Lib.hid (ahead_any x _ w4 HV34.out (by rw [HXL.out]; omega) HK.out.mk8)
      clear htr hbad
      go_wp2_with (go_at_call 14; refine Hid.out ?_)
      refine Lib.hid ?_
      refine HAH.out.mono ?_
      rintro e w5 ⟨B, A1, us, rfl, hAA, hah, hb⟩
      rw [HXL.out] at hAA
      have hAA2 := hAA.symm
      clear hAA
      subst hAA2
      have HB5 : Hid (Below w0.heap.size w0 w5) := Lib.hid (HB4.out.trans (hb.mono HB4.out.size))
      have HV5 := Lib.hid (HV34.out.kept hb)
      have HV45 := Lib.hid (HV4.out.kept hb)
      have HI := Lib.hid hah
      clear ba bb hah hb HAH
      obtain ⟨ba, bb⟩ := HBOX.out w5 HB5.out
      have hus : us.length = A0 := by have := HI.out.own.1; omega
      have HUS := Lib.hid hus
      clear hus
      go_wp2_with fail
      go_loopw [8, 48] (fun s8 s48 wr => ∃ (k : Nat), s48 = .int .i64 (k : Int) ∧ k ≤ j ∧ EvI wr w5.heap.size s8 (trk x i k) ∧ Below w5.heap.size w5 wr) (fun _ s _ => j - (intOf s).toNat)
      case atStart => exact ⟨0, rfl, by omega, by simpa [trk] using EvI.nil _ _, Below.refl _ _⟩
      case round =>
        clear ba bb
        obtain ⟨k, rfl, hk, hi0, hb⟩ := hrel
        have HEI := Lib.hid hi0
        have HB := Lib.hid hb
        have HW0 : Hid (Below w0.heap.size w0 wr) := Lib.hid (HB5.out.trans (hb.mono HB5.out.size))
        clear hi0 hb
        obtain ⟨wz, rfl⟩ : ∃ wz, wz = wr := ⟨_, rfl⟩
        by_cases hltk : k < j
        · obtain ⟨f, hf⟩ : ∃ f, x[k]? = some f := ⟨_, List.getElem?_eq_getElem (by rw [HXL.out]; omega)⟩
          have hfe : x[k]! = f := by obtain ⟨h1, h2⟩ := List.getElem?_eq_some_iff.1 hf; rw [getElem!_pos x k h1, h2]
          obtain ⟨b0, o0, rfl, hbb, hr⟩ : ∃ b o, p3 = some ⟨b, o, Option.none⟩ ∧ b < w5.heap.size ∧ EvR w5 b o x := by
            obtain ⟨p, c, h1, _, _, h4⟩ := HV5.out
            simp only [Value.slice.injEq] at h1
            rcases h4 with ⟨_, h⟩ | ⟨b, o, h, h5, h6⟩
            · rw [h] at hf; simp at hf
            · exact ⟨b, o, by rw [h1.1, h], h5, h6⟩
          obtain ⟨qf, mf, cf, hfc⟩ := hr.at hbb hf
          obtain ⟨c1, c2, hmk⟩ := hfc wz HB.out
          have hmk0 := (hfc w5 (Below.refl _ _)).2.2
          have HFC := Lib.hid hfc
          have HMK0 := Lib.hid hmk0
          have HFE := Lib.hid hfe
          have hk0 : (0 : Int) ≤ (k : Int) := by omega
          have hkj : (k : Int) < (j : Int) := by omega
          have hkA : (k : Int) < (A0 : Int) := by omega
          obtain ⟨W, hW⟩ : ∃ W, wz.alloc (Obj.cells #[Value.int .i64 f.1, .slice qf mf cf] 38) = W := ⟨_, rfl⟩
          have hgW := heap_alloc_new wz (Obj.cells #[Value.int .i64 f.1, .slice qf mf cf] 38)
          have hWb := below_alloc wz (Obj.cells #[Value.int .i64 f.1, .slice qf mf cf] 38)
          rw [hW] at hgW hWb
          have hw0W : Below w0.heap.size w0 W := HW0.out.trans (hWb.mono HW0.out.size)
          obtain ⟨ba, bb⟩ := HBOX.out W hw0W
          have e0 : W.cell? ⟨wz.heap.size, 0, Option.none⟩ = some (.int .i64 f.1) := by rw [cell_of_row _ _ _ _ _ _ hgW]; rfl
          have e1 : W.cell? ⟨wz.heap.size, 1, Option.none⟩ = some (.slice qf mf cf) := by rw [cell_of_row _ _ _ _ _ _ hgW]; rfl
          have HWE := Lib.hid hW
          have HGW := Lib.hid hgW
          have HWB := Lib.hid hWb
          have HW0W := Lib.hid hw0W
          have hstep := trk_step x i k
          rw [HFE.out] at hstep
          have HST := Lib.hid hstep
          clear hf hfe hr hfc hmk hmk0 hW hgW hWb hw0W hstep
          by_cases hki : k < i
          · have hki' : (k : Int) < (i : Int) := by omega
            have hd : decide ((k : Int) < (i : Int)) = true := decide_eq_true hki'
            go_wp2_with fail
            rw [HWE.out]
            go_quiet (fail)
            have HK9 : Hid (Below W.heap.size W (W.drewN nq)) := Lib.hid ⟨rfl, rfl, rfl, Nat.le_refl _, fun _ _ => rfl⟩
            generalize W.drewN nq = w9 at HK9 ⊢
            have f0 : w9.cell? ⟨wz.heap.size, 0, Option.none⟩ = some (.int .i64 f.1) := (HK9.out.cell (p := ⟨wz.heap.size, 0, Option.none⟩) (lt_of_block HGW.out)).trans e0
            have f1 : w9.cell? ⟨wz.heap.size, 1, Option.none⟩ = some (.slice qf mf cf) := (HK9.out.cell (p := ⟨wz.heap.size, 1, Option.none⟩) (lt_of_block HGW.out)).trans e1
            have HBW9 : Hid (Below w5.heap.size w5 w9) := Lib.hid (HB.out.trans ((HWB.out.trans (HK9.out.mono HWB.out.size)).mono HB.out.size))
            have HE9 : Hid (EvI w9 w5.heap.size u8 (trk x i k)) := Lib.hid ((HEI.out.kept HWB.out).kept HK9.out)
            clear e0 e1 ba bb
            have HXT : Hid (trk x i (k + 1) = trk x i k ++ [(f.1, f.2)]) := Lib.hid (by rw [HST.out, if_pos (by simp [hki])])
            have hg := heap_alloc_new w9 (Obj.cells #[Value.int .i64 f.1, .slice qf mf cf] 38)
            have hWc := below_alloc w9 (Obj.cells #[Value.int .i64 f.1, .slice qf mf cf] 38)
            have hlen : (trk x i k).length ≤ 1000 := by have := trk_len x i k; omega
            have hmk9 := (HFC.out w9 HBW9.out).2.2
            obtain ⟨v', w', hrun, hi', hgr⟩ := app_ev (w9.alloc (Obj.cells #[Value.int .i64 f.1, .slice qf mf cf] 38)) w5.heap.size _ (.slice qf mf cf) _ f.1 f.2 (HE9.out.kept hWc) hlen (by have := HBW9.out.size; simp; omega) ⟨w9.heap.size, 0, Option.none⟩ (by rw [add_lit, cell_of_row _ _ _ _ _ _ hg]; rfl) (by rw [add_lit, cell_of_row _ _ _ _ _ _ hg]; rfl) (hmk9.kept hWc)
              (fun g hgq e => by
                have h1 := HMK0.out.blk hgq
                obtain ⟨cs, hown, _⟩ := HE9.out
                have h2 := (hown.lt g e).1
                omega)
            have HI' : Hid (EvI w' w5.heap.size v' (trk x i (k + 1))) := Lib.hid (by rw [HXT.out]; exact hi')
            have HB' : Hid (Below w5.heap.size w5 w') := Lib.hid ((HBW9.out.trans (hWc.mono HBW9.out.size)).grown hgr (by have := HBW9.out.size; simp; omega) (fun g hgq => by
              obtain ⟨cs, hown, _⟩ := HE9.out
              exact (hown.lt g hgq).1))
            clear hg hWc hlen hmk9 hi' hgr
            go_wp2_with (at_builtin; refine wpList_app rfl (.tmp 73) (.tmp 75) 25 rfl _ _ _ w' rfl rfl hrun ?_)
            clear hrun f0 f1
            go_wp2
            go_roundw
            case rel => exact ⟨k + 1, by go_num, by omega, HI'.out, HB'.out⟩
            case measure => simp [intOf]; omega
          · have hki' : ¬ (k : Int) < (i : Int) := by omega
            have hd : decide ((k : Int) < (i : Int)) = false := decide_eq_false hki'
            by_cases hke : k = i
            · subst hke
              have hd2 : decide ((k : Int) < (k : Int)) = false := decide_eq_false (by omega)
              go_wp2_with fail
              rw [HWE.out]
              go_quiet (fail)
              have HK9 : Hid (Below W.heap.size W (W.drewN nq)) := Lib.hid ⟨rfl, rfl, rfl, Nat.le_refl _, fun _ _ => rfl⟩
              generalize W.drewN nq = w9 at HK9 ⊢
              have f0 : w9.cell? ⟨wz.heap.size, 0, Option.none⟩ = some (.int .i64 f.1) := (HK9.out.cell (p := ⟨wz.heap.size, 0, Option.none⟩) (lt_of_block HGW.out)).trans e0
              have f1 : w9.cell? ⟨wz.heap.size, 1, Option.none⟩ = some (.slice qf mf cf) := (HK9.out.cell (p := ⟨wz.heap.size, 1, Option.none⟩) (lt_of_block HGW.out)).trans e1
              have HBW9 : Hid (Below w5.heap.size w5 w9) := Lib.hid (HB.out.trans ((HWB.out.trans (HK9.out.mono HWB.out.size)).mono HB.out.size))
              have HE9 : Hid (EvI w9 w5.heap.size u8 (trk x k k)) := Lib.hid ((HEI.out.kept HWB.out).kept HK9.out)
              clear e0 e1 ba bb
              have HXT : Hid (trk x k (k + 1) = trk x k k) := Lib.hid (by rw [HST.out, if_neg (by simp), List.append_nil])
              clear f0 f1
              go_wp2
              go_roundw
              case rel => exact ⟨k + 1, by go_num, by omega, by rw [HXT.out]; exact HE9.out, HBW9.out⟩
              case measure => simp [intOf]; omega
            · have hik : i < k := by omega
              have hik' : (i : Int) < (k : Int) := by omega
              have hd2 : decide ((i : Int) < (k : Int)) = true := decide_eq_true hik'
              obtain ⟨uk, huk⟩ : ∃ u, us[k]? = some u := ⟨_, List.getElem?_eq_getElem (by rw [HUS.out]; omega)⟩
              have hBs : B < w5.heap.size := (HI.out.own.lt B rfl).2
              have h5W : Below w5.heap.size w5 W := HB.out.trans (HWB.out.mono HB.out.size)
              have ck : W.cell? ⟨B, k, Option.none⟩ = some uk := (h5W.cell (p := ⟨B, _, Option.none⟩) hBs).trans (by rw [HI.out.own.cellAt k (by omega), huk])
              have hnk := (HI.out.rows k uk (by omega) huk).1
              obtain ⟨pk, cpk, hkf, _⟩ := id hnk
              have KC : ∀ W2, Below W.heap.size W W2 → Calls Try.prog 15 #[uk, .int .i64 (i : Int)] W2 fun e w' => e = .returned (.bool (hbd edep x i k)) ∧ w' = W2 := fun W2 kk => by
                have := contains_any (ahd edep x k) i uk W2 ((hnk.kept h5W).kept kk) (by have := ahd_len x k; omega)
                rw [hbd_mem] at this
                exact this.mono fun e w' h => ⟨h.1, h.2.symm⟩
              subst hkf
              have HKC := Lib.hid KC
              obtain ⟨c, hc⟩ : ∃ c, hbd edep x i k = c := ⟨_, rfl⟩
              rw [hc] at HKC HST
              generalize (ahd edep x k).length = lk at HKC ck
              clear huk hBs h5W hnk KC hc
              cases c with
              | false =>
                go_wp2_with fail
                rw [HWE.out]
                go_quiet (first | (go_at_call 15; refine Calls.quiet_of_same (HKC.out _ (by exact ⟨rfl, rfl, rfl, Nat.le_refl _, fun _ _ => rfl⟩))))
                have HK9 : Hid (Below W.heap.size W (W.drewN nq)) := Lib.hid ⟨rfl, rfl, rfl, Nat.le_refl _, fun _ _ => rfl⟩
                generalize W.drewN nq = w9 at HK9 ⊢
                have f0 : w9.cell? ⟨wz.heap.size, 0, Option.none⟩ = some (.int .i64 f.1) := (HK9.out.cell (p := ⟨wz.heap.size, 0, Option.none⟩) (lt_of_block HGW.out)).trans e0
                have f1 : w9.cell? ⟨wz.heap.size, 1, Option.none⟩ = some (.slice qf mf cf) := (HK9.out.cell (p := ⟨wz.heap.size, 1, Option.none⟩) (lt_of_block HGW.out)).trans e1
                have HBW9 : Hid (Below w5.heap.size w5 w9) := Lib.hid (HB.out.trans ((HWB.out.trans (HK9.out.mono HWB.out.size)).mono HB.out.size))
                have HE9 : Hid (EvI w9 w5.heap.size u8 (trk x i k)) := Lib.hid ((HEI.out.kept HWB.out).kept HK9.out)
                clear e0 e1 ba bb
                have HXT : Hid (trk x i (k + 1) = trk x i k ++ [(f.1, f.2)]) := Lib.hid (by rw [HST.out, if_pos (by simp [hik])])
                have hg := heap_alloc_new w9 (Obj.cells #[Value.int .i64 f.1, .slice qf mf cf] 38)
                have hWc := below_alloc w9 (Obj.cells #[Value.int .i64 f.1, .slice qf mf cf] 38)
                have hlen : (trk x i k).length ≤ 1000 := by have := trk_len x i k; omega
                have hmk9 := (HFC.out w9 HBW9.out).2.2
                obtain ⟨v', w', hrun, hi', hgr⟩ := app_ev (w9.alloc (Obj.cells #[Value.int .i64 f.1, .slice qf mf cf] 38)) w5.heap.size _ (.slice qf mf cf) _ f.1 f.2 (HE9.out.kept hWc) hlen (by have := HBW9.out.size; simp; omega) ⟨w9.heap.size, 0, Option.none⟩ (by rw [add_lit, cell_of_row _ _ _ _ _ _ hg]; rfl) (by rw [add_lit, cell_of_row _ _ _ _ _ _ hg]; rfl) (hmk9.kept hWc)
                  (fun g hgq e => by
                    have h1 := HMK0.out.blk hgq
                    obtain ⟨cs, hown, _⟩ := HE9.out
                    have h2 := (hown.lt g e).1
                    omega)
                have HI' : Hid (EvI w' w5.heap.size v' (trk x i (k + 1))) := Lib.hid (by rw [HXT.out]; exact hi')
                have HB' : Hid (Below w5.heap.size w5 w') := Lib.hid ((HBW9.out.trans (hWc.mono HBW9.out.size)).grown hgr (by have := HBW9.out.size; simp; omega) (fun g hgq => by
                  obtain ⟨cs, hown, _⟩ := HE9.out
                  exact (hown.lt g hgq).1))
                clear hg hWc hlen hmk9 hi' hgr
                go_wp2_with (at_builtin; refine wpList_app rfl (.tmp 73) (.tmp 75) 25 rfl _ _ _ w' rfl rfl hrun ?_)
                clear hrun f0 f1
                go_wp2
                go_roundw
                case rel => exact ⟨k + 1, by go_num, by omega, HI'.out, HB'.out⟩
                case measure => simp [intOf]; omega
              | true =>
                go_wp2_with fail
                rw [HWE.out]
                go_quiet (first | (go_at_call 15; refine Calls.quiet_of_same (HKC.out _ (by exact ⟨rfl, rfl, rfl, Nat.le_refl _, fun _ _ => rfl⟩))))
                have HK9 : Hid (Below W.heap.size W (W.drewN nq)) := Lib.hid ⟨rfl, rfl, rfl, Nat.le_refl _, fun _ _ => rfl⟩
                generalize W.drewN nq = w9 at HK9 ⊢
                have f0 : w9.cell? ⟨wz.heap.size, 0, Option.none⟩ = some (.int .i64 f.1) := (HK9.out.cell (p := ⟨wz.heap.size, 0, Option.none⟩) (lt_of_block HGW.out)).trans e0
                have f1 : w9.cell? ⟨wz.heap.size, 1, Option.none⟩ = some (.slice qf mf cf) := (HK9.out.cell (p := ⟨wz.heap.size, 1, Option.none⟩) (lt_of_block HGW.out)).trans e1
                have HBW9 : Hid (Below w5.heap.size w5 w9) := Lib.hid (HB.out.trans ((HWB.out.trans (HK9.out.mono HWB.out.size)).mono HB.out.size))
                have HE9 : Hid (EvI w9 w5.heap.size u8 (trk x i k)) := Lib.hid ((HEI.out.kept HWB.out).kept HK9.out)
                clear e0 e1 ba bb
                have HXT : Hid (trk x i (k + 1) = trk x i k) := Lib.hid (by rw [HST.out, if_neg (by simp [hki]), List.append_nil])
                clear f0 f1
                go_wp2
                go_roundw
                case rel => exact ⟨k + 1, by go_num, by omega, by rw [HXT.out]; exact HE9.out, HBW9.out⟩
                case measure => simp [intOf]; omega
        · obtain rfl : k = j := by omega
          obtain ⟨f, hf⟩ : ∃ f, x[k]? = some f := ⟨_, List.getElem?_eq_getElem (by rw [HXL.out]; omega)⟩
          have hfe : x[k]! = f := by obtain ⟨h1, h2⟩ := List.getElem?_eq_some_iff.1 hf; rw [getElem!_pos x k h1, h2]
          obtain ⟨b0, o0, rfl, hbb, hr⟩ : ∃ b o, p3 = some ⟨b, o, Option.none⟩ ∧ b < w5.heap.size ∧ EvR w5 b o x := by
            obtain ⟨p, c, h1, _, _, h4⟩ := HV5.out
            simp only [Value.slice.injEq] at h1
            rcases h4 with ⟨_, h⟩ | ⟨b, o, h, h5, h6⟩
            · rw [h] at hf; simp at hf
            · exact ⟨b, o, by rw [h1.1, h], h5, h6⟩
          obtain ⟨qf, mf, cf, hfc⟩ := hr.at hbb hf
          obtain ⟨c1, c2, hmk⟩ := hfc wz HB.out
          have hmk0 := (hfc w5 (Below.refl _ _)).2.2
          obtain ⟨ba, bb⟩ := HBOX.out wz HW0.out
          have hk0 : (0 : Int) ≤ (k : Int) := by omega
          have hkA : (k : Int) < (A0 : Int) := by omega
          have hg := heap_alloc_new wz (Obj.cells #[Value.int .i64 f.1, .slice qf mf cf] 38)
          have hWc := below_alloc wz (Obj.cells #[Value.int .i64 f.1, .slice qf mf cf] 38)
          have hlen : (trk x i k).length ≤ 1000 := by have := trk_len x i k; omega
          obtain ⟨v', w', hrun, hi', hgr⟩ := app_ev (wz.alloc (Obj.cells #[Value.int .i64 f.1, .slice qf mf cf] 38)) w5.heap.size _ (.slice qf mf cf) _ f.1 f.2 (HEI.out.kept hWc) hlen (by have := HB.out.size; simp; omega) ⟨wz.heap.size, 0, Option.none⟩ (by rw [add_lit, cell_of_row _ _ _ _ _ _ hg]; rfl) (by rw [add_lit, cell_of_row _ _ _ _ _ _ hg]; rfl) (hmk.kept hWc)
            (fun g hgq e => by
              have h1 := hmk0.blk hgq
              obtain ⟨cs, hown, _⟩ := HEI.out
              have h2 := (hown.lt g e).1
              omega)
          have hb' : Below w5.heap.size w5 w' := (HB.out.trans (hWc.mono HB.out.size)).grown hgr (by have := HB.out.size; simp; omega) (fun g hgq => by
            obtain ⟨cs, hown, _⟩ := HEI.out
            exact (hown.lt g hgq).1)
          have hkt : Evk (trk x i k ++ [(f.1, f.2)]) := HK.out.sub (by have := trk_len x i k; rw [List.length_append]; simp; omega) (fun e he => by
            rcases List.mem_append.1 he with he | he
            · exact trk_mem (by rw [HXL.out]; omega) he
            · simp at he; rw [he]; exact List.mem_of_getElem? hf)
          have htr := HTR.out
          rw [hfe] at htr
          have hv4 := HV45.out.kept hb'
          rw [htr] at hv4
          have HEQ := equal_evs (trk x i k ++ [(f.1, f.2)]) (trk x i k ++ [(f.1, f.2)]) _ _ w' hv4 hi'.evs (Nat.le_trans hkt.1 (by omega)) (Nat.le_trans hkt.1 (by omega)) hkt.mk8 hkt.mk8
          rw [decide_eq_true rfl] at HEQ
          have hl1 : (trk x i k ++ [x[k]!]).length = (trk x i k).length + 1 := by simp
          rw [hl1] at HEQ
          have HEQ := Lib.hid HEQ
          clear hl1
          have HB9 : Hid (Below w.heap.size w w') := Lib.hid (HWA.out.trans ((HB5.out.trans (hb'.mono HB5.out.size)).mono HWA.out.size))
          clear hf hfe hr hfc hmk hmk0 hg hWc hlen hi' hgr hb' hkt htr hv4
          go_wp2_with (at_builtin; refine wpList_app rfl (.tmp 79) (.tmp 85) 25 rfl _ _ _ w' rfl rfl hrun ?_)
          clear hrun c1 c2 ba bb
          go_wp2_with (go_at_call 16; refine Hid.out ?_)
          refine Lib.hid ?_
          refine HEQ.out.mono ?_
          rintro e w6 ⟨rfl, hb⟩
          have HB6 : Hid (Below w.heap.size w w6) := Lib.hid (HB9.out.trans (hb.mono HB9.out.size))
          clear hb HEQ
          go_wp2
          go_ret
          exact ⟨rfl, HB6.out⟩
end Go.Proofs.Ytcbpkagegdfidaa
