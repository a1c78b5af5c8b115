/- ClockTrans: what happens ahead of what happens ahead does; nothing happens ahead of itself, or of what is ahead of it; events of one thread happen one behind the other. -/
import Derived.Test.YtdcabhlgaecbiaaOc
import Derived.Deep.RegionHeld3
import Derived.BigRegion
import Derived.BigQuiet
set_option linter.unusedSimpArgs false
set_option linter.unusedVariables false
namespace Go.Proofs.Ytdcabhlgaecbiaa
open Go.RowKit

set_option maxRecDepth 100000 in
set_option maxHeartbeats 16000000 in
theorem trans_any (Ob : World → Value → Evl → Prop) (HKp : KpO Ob) (HAw : AwO) (HNw : NewO Ob) (HBf : BefO Ob) (l : Evl) (v : Value) (w : World) (hs : ES w v l) (hok : eok l) (hl : l.length ≤ 9223372036854775807) : Calls Try.prog 6 #[v] w fun e w' => e = .returned (.bool true) ∧ Below w.heap.size w w' := by
  obtain ⟨p0, cap0, rfl, hcap0⟩ := hs.form
  obtain ⟨A0, hA0⟩ : ∃ A, l.length = A := ⟨_, rfl⟩
  have HS := Lib.hid hs
  rw [hA0] at HS hcap0 hl ⊢
  have HA0 := Lib.hid hA0
  have HOK := Lib.hid hok
  clear hs hA0 hok
  go_enter Try.func6, Try.ntmps6
  go_wp2_with (go_at_call 7; refine Hid.out ?_)
  refine Lib.hid ?_
  refine (HAw _).mono ?_
  rintro e w1 ⟨rfl, hb⟩
  have HB1 := Lib.hid hb
  clear hb
  have HLT := light_any l 16 _ w1 (HS.out.kept HB1.out) (by rw [HA0.out]; exact hl)
  rw [show (l.all (fun e => decide (e.2.length ≤ 8)) && decide ((l.length : Int) ≤ 16)) = lgt l 16 from rfl] at HLT
  have HL := Lib.hid HLT
  clear HLT
  go_wp2_with (go_at_call 8; refine Hid.out ?_)
  refine Lib.hid ?_
  refine HL.out.mono ?_
  rintro e w2 ⟨rfl, hb⟩
  have HB2 : Hid (Below w.heap.size w w2) := Lib.hid (HB1.out.trans (hb.mono HB1.out.size))
  clear hb HL HB1
  obtain ⟨lt, hlt⟩ : ∃ b, lgt l 16 = b := ⟨_, rfl⟩
  rw [hlt]
  cases lt with
  | false =>
    clear hlt
    go_wp2
    go_ret
    exact ⟨rfl, HB2.out⟩
  | true =>
    obtain ⟨h8, hA24⟩ := lgt_true hlt
    have h24 : A0 ≤ 16 := by rw [HA0.out] at hA24; omega
    have HE1 := Lib.hid (events_any l _ w2 (HS.out.kept HB2.out) (by rw [HA0.out]; omega) HOK.out (fun e he => by have := h8 e he; omega))
    have HK := Lib.hid (evs_k (by rw [HA0.out]; omega) HOK.out h8)
    clear h8 hA24 hlt
    go_wp2_with (go_at_call 9; refine Hid.out ?_)
    refine Lib.hid ?_
    refine HE1.out.mono ?_
    rintro e w3 ⟨v3, rfl, hv3, hb⟩
    have HB3 : Hid (Below w.heap.size w w3) := Lib.hid (HB2.out.trans (hb.mono HB2.out.size))
    clear hb HE1
    obtain ⟨x, hx⟩ : ∃ x, evs l = x := ⟨_, rfl⟩
    have hxl : x.length = A0 := by rw [← hx, evs_len, HA0.out]
    rw [hx] at HK hv3
    have HXL := Lib.hid hxl
    obtain ⟨p3, c3, hve, hc3⟩ : ∃ p c, v3 = .slice p A0 c ∧ A0 ≤ c := by
      obtain ⟨p, c, h1, h2, _⟩ := id hv3
      rw [hxl] at h1 h2
      exact ⟨p, c, h1, h2⟩
    subst hve
    have HV3 := Lib.hid hv3
    have HXE := Lib.hid hx
    clear hv3 hx hxl
    have HN1 := Lib.hid (HNw x _ w3 HV3.out HK.out)
    go_wp2_with (go_at_call 10; refine Hid.out ?_)
    refine Lib.hid ?_
    refine HN1.out.mono ?_
    rintro r w5 ⟨v4, rfl, ⟨po, mo, co, rfl, ho⟩, hb⟩
    have HB5 : Hid (Below w.heap.size w w5) := Lib.hid (HB3.out.trans (hb.mono HB3.out.size))
    have HV35 := Lib.hid (HV3.out.kept hb)
    have HO5 := Lib.hid ho
    clear hb HN1 ho
    have hgz := heap_alloc_new w5 (Obj.cells #[Value.slice po mo co] 29)
    have hWz := below_alloc w5 (Obj.cells #[Value.slice po mo co] 29)
    obtain ⟨w6, hw6⟩ : ∃ w6, w5.alloc (Obj.cells #[Value.slice po mo co] 29) = w6 := ⟨_, rfl⟩
    rw [hw6] at hgz hWz
    have HB6 : Hid (Below w.heap.size w w6) := Lib.hid (HB5.out.trans (hWz.mono HB5.out.size))
    have HO6 := Lib.hid (HKp _ _ _ _ HO5.out hWz)
    have HV36 := Lib.hid (HV35.out.kept hWz)
    obtain ⟨Z, hZ⟩ : ∃ Z, w5.heap.size = Z := ⟨_, rfl⟩
    rw [hZ] at hgz
    have HBOX : Hid (∀ W, Below w6.heap.size w6 W → W.cell? ⟨Z, 0, Option.none⟩ = some (.slice po mo co)) := Lib.hid fun W kk => by
      rw [kk.cell (p := ⟨Z, 0, Option.none⟩) (lt_of_block hgz), cell_of_row _ _ _ _ _ _ hgz]; rfl
    have HCALL : Hid (∀ (i j : Nat) W, Below w6.heap.size w6 W → Calls Try.prog 12 #[.agg #[.slice po mo co], .int .i64 (i : Int), .int .i64 (j : Int)] W fun r w' => r = .returned (.bool (hbd edep x i j)) ∧ Below w6.heap.size w6 w') := Lib.hid fun i j W kk => by
      have h1 := HBf x po mo co (i : Int) (j : Int) W (HKp _ _ _ _ HO6.out kk) HK.out
      rw [hbI_nat] at h1
      refine h1.mono ?_
      rintro r w' ⟨rfl, hb⟩
      exact ⟨rfl, kk.trans (hb.mono kk.size)⟩
    have HW6 := Lib.hid hw6
    have HZE := Lib.hid hZ
    clear hgz hWz hw6 hZ
    go_wp2
    rw [HW6.out, HZE.out]
    go_loopw [19] (fun s19 wr => ∃ (i : Nat), s19 = .int .i64 (i : Int) ∧ i ≤ A0 ∧ Below w6.heap.size w6 wr) (fun s _ => A0 - (intOf s).toNat)
    case atStart => exact ⟨0, rfl, by omega, Below.refl _ _⟩
    case round =>
      obtain ⟨i, rfl, hi, hb⟩ := hrel
      have HBI := Lib.hid hb
      clear hb
      by_cases hlti : i < A0
      · go_wp2
        go_loopw [24] (fun s24 wr => ∃ (j : Nat), s24 = .int .i64 (j : Int) ∧ j ≤ A0 ∧ Below w6.heap.size w6 wr) (fun s _ => A0 - (intOf s).toNat)
        case atStart => exact ⟨0, rfl, by omega, HBI.out⟩
        case round =>
          clear HBI
          obtain ⟨j, rfl, hj, hb⟩ := hrel
          have HBJ := Lib.hid hb
          clear hb
          by_cases hltj : j < A0
          · obtain ⟨e, he⟩ : ∃ e, x[i]? = some e := ⟨_, List.getElem?_eq_getElem (by rw [HXL.out]; exact hlti)⟩
            obtain ⟨f, hf⟩ : ∃ f, x[j]? = some f := ⟨_, List.getElem?_eq_getElem (by rw [HXL.out]; exact hltj)⟩
            obtain ⟨b0, o0, rfl, hbb, hr⟩ : ∃ b o, p3 = some ⟨b, o, Option.none⟩ ∧ b < w6.heap.size ∧ EvR w6 b o x := by
              obtain ⟨p, c, h1, _, _, h4⟩ := HV36.out
              simp only [Value.slice.injEq] at h1
              rcases h4 with ⟨_, h⟩ | ⟨b, o, h, h5, h6⟩
              · rw [h] at he; simp at he
              · exact ⟨b, o, by rw [h1.1, h], h5, h6⟩
            obtain ⟨qe, me, ce, hec⟩ := hr.at hbb he
            obtain ⟨qf, mf, cf, hfc⟩ := hr.at hbb hf
            obtain ⟨wz, rfl⟩ : ∃ wz, wz = wr := ⟨_, rfl⟩
            have keep : ∀ W, Below wz.heap.size wz W → (Below wz.heap.size wz W ∧ W.cell? ⟨Z, 0, Option.none⟩ = some (.slice po mo co) ∧ W.cell? ⟨b0, o0 + i * 2, Option.none⟩ = some (.int .i64 e.1) ∧ W.cell? ⟨b0, o0 + j * 2, Option.none⟩ = some (.int .i64 f.1)) := fun W kk => by
              have kw := HBJ.out.trans (kk.mono HBJ.out.size)
              exact ⟨kk, HBOX.out W kw, (hec W kw).1, (hfc W kw).1⟩
            have K1 : Hid (∀ W, (Below wz.heap.size wz W ∧ W.cell? ⟨Z, 0, Option.none⟩ = some (.slice po mo co) ∧ W.cell? ⟨b0, o0 + i * 2, Option.none⟩ = some (.int .i64 e.1) ∧ W.cell? ⟨b0, o0 + j * 2, Option.none⟩ = some (.int .i64 f.1)) → Calls Try.prog 12 #[.agg #[.slice po mo co], .int .i64 (i : Int), .int .i64 (j : Int)] W fun r w' => r = .returned (.bool (hbd edep x i j)) ∧ (Below wz.heap.size wz w' ∧ w'.cell? ⟨Z, 0, Option.none⟩ = some (.slice po mo co) ∧ w'.cell? ⟨b0, o0 + i * 2, Option.none⟩ = some (.int .i64 e.1) ∧ w'.cell? ⟨b0, o0 + j * 2, Option.none⟩ = some (.int .i64 f.1))) := Lib.hid fun W kk => by
              have kw := HBJ.out.trans (kk.1.mono HBJ.out.size)
              have h1 := HBf x po mo co (i : Int) (j : Int) W (HKp _ _ _ _ HO6.out kw) HK.out
              rw [hbI_nat] at h1
              refine h1.mono ?_
              rintro r w' ⟨rfl, hb⟩
              exact ⟨rfl, keep w' (kk.1.trans (hb.mono kk.1.size))⟩
            have hs0 := keep wz.drew ⟨rfl, rfl, rfl, Nat.le_refl _, fun _ _ => rfl⟩
            have hi0' : (0 : Int) ≤ (i : Int) := by omega
            have hiA' : (i : Int) < (A0 : Int) := by omega
            have hj0' : (0 : Int) ≤ (j : Int) := by omega
            have hjA' : (j : Int) < (A0 : Int) := by omega
            obtain ⟨d, hd⟩ : ∃ d, hbd edep x i j = d := ⟨_, rfl⟩
            rw [hd] at K1
            have hij : d = true → i < j := fun h => hbd_lt (by rw [hd]; exact h)
            have hsame : d = false → i < j → e.1 ≠ f.1 := fun h hlt hth => by
              have := hbd_dep hlt he hf (dep_thr e f hth)
              rw [hd, h] at this
              exact absurd this (by decide)
            clear keep he hf hr hec hfc hd hbb
            cases d with
            | true =>
              have hij := hij rfl
              have hge : decide (j ≤ i) = false := decide_eq_false (by omega)
              have hlt' : decide ((i : Int) < (j : Int)) = true := decide_eq_true (by omega)
              by_cases hth : e.1 = f.1
              · have hd0 : (e.1 == f.1) = true := beq_iff_eq.2 hth
                have hd1 : decide (e.1 = f.1) = true := decide_eq_true hth
                clear hsame hth
                go_wp2_with fail
                go_region_held3 (fun w' => (Below wz.heap.size wz w' ∧ w'.cell? ⟨Z, 0, Option.none⟩ = some (.slice po mo co) ∧ w'.cell? ⟨b0, o0 + i * 2, Option.none⟩ = some (.int .i64 e.1) ∧ w'.cell? ⟨b0, o0 + j * 2, Option.none⟩ = some (.int .i64 f.1)))
                  (first | exact hs0 | assumption)
                  (first
                    | (have h := hsA; clear h; go_at_call 12; refine (K1.out _ (by assumption)).mono ?_; rintro r w' ⟨rfl, hsB⟩)
                    | (go_at_call 12; refine (K1.out _ (by assumption)).mono ?_; rintro r w' ⟨rfl, hsA⟩))
                rename_i hH
                clear hH
                have HZ : Hid (Below w6.heap.size w6 w') := Lib.hid (HBJ.out.trans (hsB.1.mono HBJ.out.size))
                clear hsA hsB hs0 K1
                go_wp2
                go_loopw [63] (fun s63 wr => ∃ (k : Nat), s63 = .int .i64 (k : Int) ∧ k ≤ A0 ∧ Below w6.heap.size w6 wr) (fun s _ => A0 - (intOf s).toNat)
                case atStart => exact ⟨0, rfl, by omega, HZ.out⟩
                case round =>
                  clear HZ
                  obtain ⟨k, rfl, hk, hb⟩ := hrel
                  have HBK := Lib.hid hb
                  clear hb
                  by_cases hltk : k < A0
                  · obtain ⟨d1, hd1⟩ : ∃ d, hbd edep x i j = d := ⟨_, rfl⟩
                    obtain ⟨d2, hd2⟩ : ∃ d, hbd edep x j k = d := ⟨_, rfl⟩
                    obtain ⟨d3, hd3⟩ : ∃ d, hbd edep x i k = d := ⟨_, rfl⟩
                    have C1 := HCALL.out i j
                    have C2 := HCALL.out j k
                    have C3 := HCALL.out i k
                    rw [hd1] at C1
                    rw [hd2] at C2
                    rw [hd3] at C3
                    have hd123 : d1 = true → d2 = true → d3 = true := fun h1 h2 => by rw [← hd3]; exact hbd_trans (by rw [hd1]; exact h1) (by rw [hd2]; exact h2)
                    have C1 := Lib.hid C1
                    have C2 := Lib.hid C2
                    have C3 := Lib.hid C3
                    have cz := HBOX.out wr HBK.out
                    clear hd1 hd2 hd3
                    cases d1 with
                    | false =>
                      clear hd123
                      go_wp2_with (go_at_call 12; refine Hid.out ?_)
                      refine Lib.hid ?_
                      refine (C1.out wr HBK.out).mono ?_
                      rintro r w7 ⟨rfl, hb⟩
                      have HB7 := Lib.hid hb
                      clear hb C1 C2 C3 cz
                      go_wp2
                      go_roundw
                      case rel => exact ⟨k + 1, by go_num, by omega, HB7.out⟩
                      case measure => simp [intOf] <;> omega
                    | true =>
                      cases d2 with
                      | false =>
                        clear hd123
                        go_wp2_with (go_at_call 12; refine Hid.out ?_)
                        refine Lib.hid ?_
                        refine (C1.out wr HBK.out).mono ?_
                        rintro r w7 ⟨rfl, hb⟩
                        have HB7 := Lib.hid hb
                        clear cz
                        have cz := HBOX.out w7 hb
                        clear hb C1
                        go_wp2_with (go_at_call 12; refine Hid.out ?_)
                        refine Lib.hid ?_
                        refine (C2.out w7 HB7.out).mono ?_
                        rintro r w8 ⟨rfl, hb⟩
                        have HB8 := Lib.hid hb
                        clear hb C2 C3 cz
                        go_wp2
                        go_roundw
                        case rel => exact ⟨k + 1, by go_num, by omega, HB8.out⟩
                        case measure => simp [intOf] <;> omega
                      | true =>
                        obtain rfl := hd123 rfl rfl
                        go_wp2_with (go_at_call 12; refine Hid.out ?_)
                        refine Lib.hid ?_
                        refine (C1.out wr HBK.out).mono ?_
                        rintro r w7 ⟨rfl, hb⟩
                        have HB7 := Lib.hid hb
                        clear cz
                        have cz := HBOX.out w7 hb
                        clear hb C1
                        go_wp2_with (go_at_call 12; refine Hid.out ?_)
                        refine Lib.hid ?_
                        refine (C2.out w7 HB7.out).mono ?_
                        rintro r w8 ⟨rfl, hb⟩
                        have HB8 := Lib.hid hb
                        clear cz
                        have cz := HBOX.out w8 hb
                        clear hb C2
                        go_wp2_with (go_at_call 12; refine Hid.out ?_)
                        refine Lib.hid ?_
                        refine (C3.out w8 HB8.out).mono ?_
                        rintro r w9 ⟨rfl, hb⟩
                        have HB9 := Lib.hid hb
                        clear hb C3 cz
                        go_wp2
                        go_roundw
                        case rel => exact ⟨k + 1, by go_num, by omega, HB9.out⟩
                        case measure => simp [intOf] <;> omega
                  · obtain rfl : k = A0 := by omega
                    go_wp2
                    go_roundw
                    case rel => exact ⟨j + 1, by go_num, by omega, HBK.out⟩
                    case measure => simp [intOf] <;> omega
              · have hd0 : (e.1 == f.1) = false := beq_eq_false_iff_ne.2 hth
                have hd1 : decide (e.1 = f.1) = false := decide_eq_false hth
                clear hsame
                go_wp2_with fail
                refine wp_region_held_drew (S := fun w' => (Below wz.heap.size wz w' ∧ w'.cell? ⟨Z, 0, Option.none⟩ = some (.slice po mo co) ∧ w'.cell? ⟨b0, o0 + i * 2, Option.none⟩ = some (.int .i64 e.1) ∧ w'.cell? ⟨b0, o0 + j * 2, Option.none⟩ = some (.int .i64 f.1))) (by kernel_rfl) hs0 (fun hX1 => ?_)
                clear hX1
                refine wpAnyH_take (i := 0) (oi := ⟨_, _, _, _, _, _⟩) (v := .agg #[.slice po mo co]) rfl (by kernel_rfl) (by kernel_rfl) (by kernel_rfl) (fun _ _ _ h => h) (Or.inl ⟨by rfl, fun w hSw => by obtain ⟨_, z1, z2, z3⟩ := hSw; go_simp⟩) hs0 ?_
                try simp only [Act.put, List.setIfInBounds_toArray, List.set_cons_zero, List.set_cons_succ]
                refine wpAnyH_take (i := 1) (oi := ⟨_, _, _, _, _, _⟩) (v := .int .i64 (i : Int)) rfl (by kernel_rfl) (by kernel_rfl) (by kernel_rfl) (fun _ _ _ h => h) (Or.inl ⟨by rfl, fun w hSw => by go_simp⟩) hs0 ?_
                try simp only [Act.put, List.setIfInBounds_toArray, List.set_cons_zero, List.set_cons_succ]
                refine wpAnyH_take (i := 2) (oi := ⟨_, _, _, _, _, _⟩) (v := .int .i64 (j : Int)) rfl (by kernel_rfl) (by kernel_rfl) (by kernel_rfl) (fun _ _ _ h => h) (Or.inl ⟨by rfl, fun w hSw => by go_simp⟩) hs0 ?_
                try simp only [Act.put, List.setIfInBounds_toArray, List.set_cons_zero, List.set_cons_succ]
                refine wpAnyH_ready (rs := [3]) (by kernel_rfl) (by simp) ?_
                refine AllReadyH.cons (o := ⟨_, _, _, _, _, _⟩) rfl (fun K hK => ?_) AllReadyH.nil
                go_simp
                go_at_call 12
                refine (K1.out _ hs0).mono ?_
                rintro r w' ⟨rfl, hsA⟩
                refine hK.out _ _ hsA (fun hX2 => ?_)
                clear hX2
                clear hK K
                try simp only [Act.put, List.setIfInBounds_toArray, List.set_cons_zero, List.set_cons_succ]
                refine wpAnyH_take (i := 4) (oi := ⟨_, _, _, _, _, _⟩) (v := .bool true) rfl (by kernel_rfl) (by kernel_rfl) (by kernel_rfl) (fun _ _ _ h => h) (Or.inl ⟨by rfl, fun w hSw => by go_simp⟩) hsA ?_
                try simp only [Act.put, List.setIfInBounds_toArray, List.set_cons_zero, List.set_cons_succ]
                refine wpAnyH_take (i := 5) (oi := ⟨_, _, _, _, _, _⟩) (v := .int .i64 (i : Int)) rfl (by kernel_rfl) (by kernel_rfl) (by kernel_rfl) (fun _ _ _ h => h) (Or.inl ⟨by rfl, fun w hSw => by go_simp⟩) hsA ?_
                try simp only [Act.put, List.setIfInBounds_toArray, List.set_cons_zero, List.set_cons_succ]
                refine wpAnyH_take (i := 6) (oi := ⟨_, _, _, _, _, _⟩) (v := .int .i64 (j : Int)) rfl (by kernel_rfl) (by kernel_rfl) (by kernel_rfl) (fun _ _ _ h => h) (Or.inl ⟨by rfl, fun w hSw => by go_simp⟩) hsA ?_
                try simp only [Act.put, List.setIfInBounds_toArray, List.set_cons_zero, List.set_cons_succ]
                refine wpAnyH_take (i := 7) (oi := ⟨_, _, _, _, _, _⟩) (v := .bool false) rfl (by kernel_rfl) (by kernel_rfl) (by kernel_rfl) (fun _ _ _ h => h) (Or.inl ⟨by rfl, fun w hSw => by go_simp⟩) hsA ?_
                try simp only [Act.put, List.setIfInBounds_toArray, List.set_cons_zero, List.set_cons_succ]
                refine wpAnyH_take (i := 8) (oi := ⟨_, _, _, _, _, _⟩) (v := .bool false) rfl (by kernel_rfl) (by kernel_rfl) (by kernel_rfl) (fun _ _ _ h => h) (Or.inl ⟨by rfl, fun w hSw => by go_simp⟩) hsA ?_
                try simp only [Act.put, List.setIfInBounds_toArray, List.set_cons_zero, List.set_cons_succ]
                refine wpAnyH_take (i := 9) (oi := ⟨_, _, _, _, _, _⟩) (v := .bool false) rfl (by kernel_rfl) (by kernel_rfl) (by kernel_rfl) (fun _ _ _ h => h) (Or.inl ⟨by rfl, fun w hSw => by go_simp⟩) hsA ?_
                try simp only [Act.put, List.setIfInBounds_toArray, List.set_cons_zero, List.set_cons_succ]
                refine wpAnyH_take (i := 10) (oi := ⟨_, _, _, _, _, _⟩) (v := .int .i64 (i : Int)) rfl (by kernel_rfl) (by kernel_rfl) (by kernel_rfl) (fun _ _ _ h => h) (Or.inl ⟨by rfl, fun w hSw => by go_simp⟩) hsA ?_
                try simp only [Act.put, List.setIfInBounds_toArray, List.set_cons_zero, List.set_cons_succ]
                refine wpAnyH_take (i := 11) (oi := ⟨_, _, _, _, _, _⟩) (v := .int .i64 (j : Int)) rfl (by kernel_rfl) (by kernel_rfl) (by kernel_rfl) (fun _ _ _ h => h) (Or.inl ⟨by rfl, fun w hSw => by go_simp⟩) hsA ?_
                try simp only [Act.put, List.setIfInBounds_toArray, List.set_cons_zero, List.set_cons_succ]
                refine wpAnyH_take (i := 12) (oi := ⟨_, _, _, _, _, _⟩) (v := .bool true) rfl (by kernel_rfl) (by kernel_rfl) (by kernel_rfl) (fun _ _ _ h => h) (Or.inl ⟨by rfl, fun w hSw => by go_simp⟩) hsA ?_
                try simp only [Act.put, List.setIfInBounds_toArray, List.set_cons_zero, List.set_cons_succ]
                refine wpAnyH_take (i := 13) (oi := ⟨_, _, _, _, _, _⟩) (v := .bool true) rfl (by kernel_rfl) (by kernel_rfl) (by kernel_rfl) (fun _ _ _ h => h) (Or.inl ⟨by rfl, fun w hSw => by go_simp⟩) hsA ?_
                try simp only [Act.put, List.setIfInBounds_toArray, List.set_cons_zero, List.set_cons_succ]
                refine wpAnyH_take (i := 14) (oi := ⟨_, _, _, _, _, _⟩) (v := .slice (some ⟨b0, o0, Option.none⟩) A0 c3) rfl (by kernel_rfl) (by kernel_rfl) (by kernel_rfl) (fun _ _ _ h => h) (Or.inl ⟨by rfl, fun w hSw => by go_simp⟩) hsA ?_
                try simp only [Act.put, List.setIfInBounds_toArray, List.set_cons_zero, List.set_cons_succ]
                refine wpAnyH_take (i := 15) (oi := ⟨_, _, _, _, _, _⟩) (v := .int .i64 (i : Int)) rfl (by kernel_rfl) (by kernel_rfl) (by kernel_rfl) (fun _ _ _ h => h) (Or.inl ⟨by rfl, fun w hSw => by go_simp⟩) hsA ?_
                try simp only [Act.put, List.setIfInBounds_toArray, List.set_cons_zero, List.set_cons_succ]
                refine wpAnyH_take (i := 16) (oi := ⟨_, _, _, _, _, _⟩) (v := .pointer (some ⟨b0, o0 + i * 2, Option.none⟩)) rfl (by kernel_rfl) (by kernel_rfl) (by kernel_rfl) (fun _ _ _ h => h) (Or.inl ⟨by rfl, fun w hSw => by go_simp⟩) hsA ?_
                try simp only [Act.put, List.setIfInBounds_toArray, List.set_cons_zero, List.set_cons_succ]
                refine wpAnyH_take (i := 17) (oi := ⟨_, _, _, _, _, _⟩) (v := .pointer (some ⟨b0, o0 + i * 2, Option.none⟩)) rfl (by kernel_rfl) (by kernel_rfl) (by kernel_rfl) (fun _ _ _ h => h) (Or.inl ⟨by rfl, fun w hSw => by go_simp⟩) hsA ?_
                try simp only [Act.put, List.setIfInBounds_toArray, List.set_cons_zero, List.set_cons_succ]
                refine wpAnyH_take (i := 18) (oi := ⟨_, _, _, _, _, _⟩) (v := .int .i64 e.1) rfl (by kernel_rfl) (by kernel_rfl) (by kernel_rfl) (fun _ _ _ h => h) (Or.inl ⟨by rfl, fun w hSw => by obtain ⟨_, z1, z2, z3⟩ := hSw; go_simp⟩) hsA ?_
                try simp only [Act.put, List.setIfInBounds_toArray, List.set_cons_zero, List.set_cons_succ]
                refine wpAnyH_take (i := 19) (oi := ⟨_, _, _, _, _, _⟩) (v := .slice (some ⟨b0, o0, Option.none⟩) A0 c3) rfl (by kernel_rfl) (by kernel_rfl) (by kernel_rfl) (fun _ _ _ h => h) (Or.inl ⟨by rfl, fun w hSw => by go_simp⟩) hsA ?_
                try simp only [Act.put, List.setIfInBounds_toArray, List.set_cons_zero, List.set_cons_succ]
                refine wpAnyH_take (i := 20) (oi := ⟨_, _, _, _, _, _⟩) (v := .int .i64 (j : Int)) rfl (by kernel_rfl) (by kernel_rfl) (by kernel_rfl) (fun _ _ _ h => h) (Or.inl ⟨by rfl, fun w hSw => by go_simp⟩) hsA ?_
                try simp only [Act.put, List.setIfInBounds_toArray, List.set_cons_zero, List.set_cons_succ]
                refine wpAnyH_take (i := 21) (oi := ⟨_, _, _, _, _, _⟩) (v := .pointer (some ⟨b0, o0 + j * 2, Option.none⟩)) rfl (by kernel_rfl) (by kernel_rfl) (by kernel_rfl) (fun _ _ _ h => h) (Or.inl ⟨by rfl, fun w hSw => by go_simp⟩) hsA ?_
                try simp only [Act.put, List.setIfInBounds_toArray, List.set_cons_zero, List.set_cons_succ]
                refine wpAnyH_take (i := 22) (oi := ⟨_, _, _, _, _, _⟩) (v := .pointer (some ⟨b0, o0 + j * 2, Option.none⟩)) rfl (by kernel_rfl) (by kernel_rfl) (by kernel_rfl) (fun _ _ _ h => h) (Or.inl ⟨by rfl, fun w hSw => by go_simp⟩) hsA ?_
                try simp only [Act.put, List.setIfInBounds_toArray, List.set_cons_zero, List.set_cons_succ]
                refine wpAnyH_take (i := 23) (oi := ⟨_, _, _, _, _, _⟩) (v := .int .i64 f.1) rfl (by kernel_rfl) (by kernel_rfl) (by kernel_rfl) (fun _ _ _ h => h) (Or.inl ⟨by rfl, fun w hSw => by obtain ⟨_, z1, z2, z3⟩ := hSw; go_simp⟩) hsA ?_
                try simp only [Act.put, List.setIfInBounds_toArray, List.set_cons_zero, List.set_cons_succ]
                refine wpAnyH_take (i := 24) (oi := ⟨_, _, _, _, _, _⟩) (v := .bool false) rfl (by kernel_rfl) (by kernel_rfl) (by kernel_rfl) (fun _ _ _ h => h) (Or.inl ⟨by rfl, fun w hSw => by go_simp⟩) hsA ?_
                try simp only [Act.put, List.setIfInBounds_toArray, List.set_cons_zero, List.set_cons_succ]
                refine wpAnyH_take (i := 25) (oi := ⟨_, _, _, _, _, _⟩) (v := .bool false) rfl (by kernel_rfl) (by kernel_rfl) (by kernel_rfl) (fun _ _ _ h => h) (Or.inl ⟨by rfl, fun w hSw => by go_simp⟩) hsA ?_
                try simp only [Act.put, List.setIfInBounds_toArray, List.set_cons_zero, List.set_cons_succ]
                refine wpAnyH_take (i := 26) (oi := ⟨_, _, _, _, _, _⟩) (v := .bool false) rfl (by kernel_rfl) (by kernel_rfl) (by kernel_rfl) (fun _ _ _ h => h) (Or.inl ⟨by rfl, fun w hSw => by go_simp⟩) hsA ?_
                try simp only [Act.put, List.setIfInBounds_toArray, List.set_cons_zero, List.set_cons_succ]
                refine wpAnyH_take (i := 27) (oi := ⟨_, _, _, _, _, _⟩) (v := undef) rfl (by kernel_rfl) (by kernel_rfl) (by kernel_rfl) (fun _ _ _ h => h) (Or.inr ⟨by kernel_rfl, rfl⟩) hsA ?_
                try simp only [Act.put, List.setIfInBounds_toArray, List.set_cons_zero, List.set_cons_succ]
                refine wpAnyH_take (i := 28) (oi := ⟨_, _, _, _, _, _⟩) (v := undef) rfl (by kernel_rfl) (by kernel_rfl) (by kernel_rfl) (fun _ _ _ h => h) (Or.inr ⟨by kernel_rfl, rfl⟩) hsA ?_
                try simp only [Act.put, List.setIfInBounds_toArray, List.set_cons_zero, List.set_cons_succ]
                refine wpAnyH_take (i := 29) (oi := ⟨_, _, _, _, _, _⟩) (v := undef) rfl (by kernel_rfl) (by kernel_rfl) (by kernel_rfl) (fun _ _ _ h => h) (Or.inr ⟨by kernel_rfl, rfl⟩) hsA ?_
                try simp only [Act.put, List.setIfInBounds_toArray, List.set_cons_zero, List.set_cons_succ]
                refine wpAnyH_take (i := 30) (oi := ⟨_, _, _, _, _, _⟩) (v := undef) rfl (by kernel_rfl) (by kernel_rfl) (by kernel_rfl) (fun _ _ _ h => h) (Or.inr ⟨by kernel_rfl, rfl⟩) hsA ?_
                try simp only [Act.put, List.setIfInBounds_toArray, List.set_cons_zero, List.set_cons_succ]
                refine wpAnyH_take (i := 31) (oi := ⟨_, _, _, _, _, _⟩) (v := undef) rfl (by kernel_rfl) (by kernel_rfl) (by kernel_rfl) (fun _ _ _ h => h) (Or.inr ⟨by kernel_rfl, rfl⟩) hsA ?_
                try simp only [Act.put, List.setIfInBounds_toArray, List.set_cons_zero, List.set_cons_succ]
                refine wpAnyH_take (i := 32) (oi := ⟨_, _, _, _, _, _⟩) (v := .bool false) rfl (by kernel_rfl) (by kernel_rfl) (by kernel_rfl) (fun _ _ _ h => h) (Or.inl ⟨by rfl, fun w hSw => by go_simp⟩) hsA ?_
                try simp only [Act.put, List.setIfInBounds_toArray, List.set_cons_zero, List.set_cons_succ]
                refine wpAnyH_take (i := 33) (oi := ⟨_, _, _, _, _, _⟩) (v := .bool false) rfl (by kernel_rfl) (by kernel_rfl) (by kernel_rfl) (fun _ _ _ h => h) (Or.inl ⟨by rfl, fun w hSw => by go_simp⟩) hsA ?_
                try simp only [Act.put, List.setIfInBounds_toArray, List.set_cons_zero, List.set_cons_succ]
                refine wpAnyH_done (by kernel_rfl) ?_ _
                have HZ : Hid (Below w6.heap.size w6 w') := Lib.hid (HBJ.out.trans (hsA.1.mono HBJ.out.size))
                clear hsA hs0 K1
                go_wp2
                go_loopw [63] (fun s63 wr => ∃ (k : Nat), s63 = .int .i64 (k : Int) ∧ k ≤ A0 ∧ Below w6.heap.size w6 wr) (fun s _ => A0 - (intOf s).toNat)
                case atStart => exact ⟨0, rfl, by omega, HZ.out⟩
                case round =>
                  clear HZ
                  obtain ⟨k, rfl, hk, hb⟩ := hrel
                  have HBK := Lib.hid hb
                  clear hb
                  by_cases hltk : k < A0
                  · obtain ⟨d1, hd1⟩ : ∃ d, hbd edep x i j = d := ⟨_, rfl⟩
                    obtain ⟨d2, hd2⟩ : ∃ d, hbd edep x j k = d := ⟨_, rfl⟩
                    obtain ⟨d3, hd3⟩ : ∃ d, hbd edep x i k = d := ⟨_, rfl⟩
                    have C1 := HCALL.out i j
                    have C2 := HCALL.out j k
                    have C3 := HCALL.out i k
                    rw [hd1] at C1
                    rw [hd2] at C2
                    rw [hd3] at C3
                    have hd123 : d1 = true → d2 = true → d3 = true := fun h1 h2 => by rw [← hd3]; exact hbd_trans (by rw [hd1]; exact h1) (by rw [hd2]; exact h2)
                    have C1 := Lib.hid C1
                    have C2 := Lib.hid C2
                    have C3 := Lib.hid C3
                    have cz := HBOX.out wr HBK.out
                    clear hd1 hd2 hd3
                    cases d1 with
                    | false =>
                      clear hd123
                      go_wp2_with (go_at_call 12; refine Hid.out ?_)
                      refine Lib.hid ?_
                      refine (C1.out wr HBK.out).mono ?_
                      rintro r w7 ⟨rfl, hb⟩
                      have HB7 := Lib.hid hb
                      clear hb C1 C2 C3 cz
                      go_wp2
                      go_roundw
                      case rel => exact ⟨k + 1, by go_num, by omega, HB7.out⟩
                      case measure => simp [intOf] <;> omega
                    | true =>
                      cases d2 with
                      | false =>
                        clear hd123
                        go_wp2_with (go_at_call 12; refine Hid.out ?_)
                        refine Lib.hid ?_
                        refine (C1.out wr HBK.out).mono ?_
                        rintro r w7 ⟨rfl, hb⟩
                        have HB7 := Lib.hid hb
                        clear cz
                        have cz := HBOX.out w7 hb
                        clear hb C1
                        go_wp2_with (go_at_call 12; refine Hid.out ?_)
                        refine Lib.hid ?_
                        refine (C2.out w7 HB7.out).mono ?_
                        rintro r w8 ⟨rfl, hb⟩
                        have HB8 := Lib.hid hb
                        clear hb C2 C3 cz
                        go_wp2
                        go_roundw
                        case rel => exact ⟨k + 1, by go_num, by omega, HB8.out⟩
                        case measure => simp [intOf] <;> omega
                      | true =>
                        obtain rfl := hd123 rfl rfl
                        go_wp2_with (go_at_call 12; refine Hid.out ?_)
                        refine Lib.hid ?_
                        refine (C1.out wr HBK.out).mono ?_
                        rintro r w7 ⟨rfl, hb⟩
                        have HB7 := Lib.hid hb
                        clear cz
                        have cz := HBOX.out w7 hb
                        clear hb C1
                        go_wp2_with (go_at_call 12; refine Hid.out ?_)
                        refine Lib.hid ?_
                        refine (C2.out w7 HB7.out).mono ?_
                        rintro r w8 ⟨rfl, hb⟩
                        have HB8 := Lib.hid hb
                        clear cz
                        have cz := HBOX.out w8 hb
                        clear hb C2
                        go_wp2_with (go_at_call 12; refine Hid.out ?_)
                        refine Lib.hid ?_
                        refine (C3.out w8 HB8.out).mono ?_
                        rintro r w9 ⟨rfl, hb⟩
                        have HB9 := Lib.hid hb
                        clear hb C3 cz
                        go_wp2
                        go_roundw
                        case rel => exact ⟨k + 1, by go_num, by omega, HB9.out⟩
                        case measure => simp [intOf] <;> omega
                  · obtain rfl : k = A0 := by omega
                    go_wp2
                    go_roundw
                    case rel => exact ⟨j + 1, by go_num, by omega, HBK.out⟩
                    case measure => simp [intOf] <;> omega
            | false =>
              by_cases hlt : i < j
              · have hth := hsame rfl hlt
                have hlt' : decide ((i : Int) < (j : Int)) = true := decide_eq_true (by omega)
                have hd0 : (e.1 == f.1) = false := beq_eq_false_iff_ne.2 hth
                have hd1 : decide (e.1 = f.1) = false := decide_eq_false hth
                clear hsame hij
                go_wp2_with fail
                refine wp_region_held_drew (S := fun w' => (Below wz.heap.size wz w' ∧ w'.cell? ⟨Z, 0, Option.none⟩ = some (.slice po mo co) ∧ w'.cell? ⟨b0, o0 + i * 2, Option.none⟩ = some (.int .i64 e.1) ∧ w'.cell? ⟨b0, o0 + j * 2, Option.none⟩ = some (.int .i64 f.1))) (by kernel_rfl) hs0 (fun hX1 => ?_)
                clear hX1
                refine wpAnyH_take (i := 0) (oi := ⟨_, _, _, _, _, _⟩) (v := .agg #[.slice po mo co]) rfl (by kernel_rfl) (by kernel_rfl) (by kernel_rfl) (fun _ _ _ h => h) (Or.inl ⟨by rfl, fun w hSw => by obtain ⟨_, z1, z2, z3⟩ := hSw; go_simp⟩) hs0 ?_
                try simp only [Act.put, List.setIfInBounds_toArray, List.set_cons_zero, List.set_cons_succ]
                refine wpAnyH_take (i := 1) (oi := ⟨_, _, _, _, _, _⟩) (v := .int .i64 (i : Int)) rfl (by kernel_rfl) (by kernel_rfl) (by kernel_rfl) (fun _ _ _ h => h) (Or.inl ⟨by rfl, fun w hSw => by go_simp⟩) hs0 ?_
                try simp only [Act.put, List.setIfInBounds_toArray, List.set_cons_zero, List.set_cons_succ]
                refine wpAnyH_take (i := 2) (oi := ⟨_, _, _, _, _, _⟩) (v := .int .i64 (j : Int)) rfl (by kernel_rfl) (by kernel_rfl) (by kernel_rfl) (fun _ _ _ h => h) (Or.inl ⟨by rfl, fun w hSw => by go_simp⟩) hs0 ?_
                try simp only [Act.put, List.setIfInBounds_toArray, List.set_cons_zero, List.set_cons_succ]
                refine wpAnyH_ready (rs := [3]) (by kernel_rfl) (by simp) ?_
                refine AllReadyH.cons (o := ⟨_, _, _, _, _, _⟩) rfl (fun K hK => ?_) AllReadyH.nil
                go_simp
                go_at_call 12
                refine (K1.out _ hs0).mono ?_
                rintro r w' ⟨rfl, hsA⟩
                refine hK.out _ _ hsA (fun hX2 => ?_)
                clear hX2
                clear hK K
                try simp only [Act.put, List.setIfInBounds_toArray, List.set_cons_zero, List.set_cons_succ]
                refine wpAnyH_take (i := 4) (oi := ⟨_, _, _, _, _, _⟩) (v := .bool false) rfl (by kernel_rfl) (by kernel_rfl) (by kernel_rfl) (fun _ _ _ h => h) (Or.inl ⟨by rfl, fun w hSw => by go_simp⟩) hsA ?_
                try simp only [Act.put, List.setIfInBounds_toArray, List.set_cons_zero, List.set_cons_succ]
                refine wpAnyH_take (i := 5) (oi := ⟨_, _, _, _, _, _⟩) (v := undef) rfl (by kernel_rfl) (by kernel_rfl) (by kernel_rfl) (fun _ _ _ h => h) (Or.inr ⟨by kernel_rfl, rfl⟩) hsA ?_
                try simp only [Act.put, List.setIfInBounds_toArray, List.set_cons_zero, List.set_cons_succ]
                refine wpAnyH_take (i := 6) (oi := ⟨_, _, _, _, _, _⟩) (v := undef) rfl (by kernel_rfl) (by kernel_rfl) (by kernel_rfl) (fun _ _ _ h => h) (Or.inr ⟨by kernel_rfl, rfl⟩) hsA ?_
                try simp only [Act.put, List.setIfInBounds_toArray, List.set_cons_zero, List.set_cons_succ]
                refine wpAnyH_take (i := 7) (oi := ⟨_, _, _, _, _, _⟩) (v := undef) rfl (by kernel_rfl) (by kernel_rfl) (by kernel_rfl) (fun _ _ _ h => h) (Or.inr ⟨by kernel_rfl, rfl⟩) hsA ?_
                try simp only [Act.put, List.setIfInBounds_toArray, List.set_cons_zero, List.set_cons_succ]
                refine wpAnyH_take (i := 8) (oi := ⟨_, _, _, _, _, _⟩) (v := .bool false) rfl (by kernel_rfl) (by kernel_rfl) (by kernel_rfl) (fun _ _ _ h => h) (Or.inl ⟨by rfl, fun w hSw => by go_simp⟩) hsA ?_
                try simp only [Act.put, List.setIfInBounds_toArray, List.set_cons_zero, List.set_cons_succ]
                refine wpAnyH_take (i := 9) (oi := ⟨_, _, _, _, _, _⟩) (v := .bool false) rfl (by kernel_rfl) (by kernel_rfl) (by kernel_rfl) (fun _ _ _ h => h) (Or.inl ⟨by rfl, fun w hSw => by go_simp⟩) hsA ?_
                try simp only [Act.put, List.setIfInBounds_toArray, List.set_cons_zero, List.set_cons_succ]
                refine wpAnyH_take (i := 10) (oi := ⟨_, _, _, _, _, _⟩) (v := .int .i64 (i : Int)) rfl (by kernel_rfl) (by kernel_rfl) (by kernel_rfl) (fun _ _ _ h => h) (Or.inl ⟨by rfl, fun w hSw => by go_simp⟩) hsA ?_
                try simp only [Act.put, List.setIfInBounds_toArray, List.set_cons_zero, List.set_cons_succ]
                refine wpAnyH_take (i := 11) (oi := ⟨_, _, _, _, _, _⟩) (v := .int .i64 (j : Int)) rfl (by kernel_rfl) (by kernel_rfl) (by kernel_rfl) (fun _ _ _ h => h) (Or.inl ⟨by rfl, fun w hSw => by go_simp⟩) hsA ?_
                try simp only [Act.put, List.setIfInBounds_toArray, List.set_cons_zero, List.set_cons_succ]
                refine wpAnyH_take (i := 12) (oi := ⟨_, _, _, _, _, _⟩) (v := .bool true) rfl (by kernel_rfl) (by kernel_rfl) (by kernel_rfl) (fun _ _ _ h => h) (Or.inl ⟨by rfl, fun w hSw => by go_simp⟩) hsA ?_
                try simp only [Act.put, List.setIfInBounds_toArray, List.set_cons_zero, List.set_cons_succ]
                refine wpAnyH_take (i := 13) (oi := ⟨_, _, _, _, _, _⟩) (v := .bool true) rfl (by kernel_rfl) (by kernel_rfl) (by kernel_rfl) (fun _ _ _ h => h) (Or.inl ⟨by rfl, fun w hSw => by go_simp⟩) hsA ?_
                try simp only [Act.put, List.setIfInBounds_toArray, List.set_cons_zero, List.set_cons_succ]
                refine wpAnyH_take (i := 14) (oi := ⟨_, _, _, _, _, _⟩) (v := .slice (some ⟨b0, o0, Option.none⟩) A0 c3) rfl (by kernel_rfl) (by kernel_rfl) (by kernel_rfl) (fun _ _ _ h => h) (Or.inl ⟨by rfl, fun w hSw => by go_simp⟩) hsA ?_
                try simp only [Act.put, List.setIfInBounds_toArray, List.set_cons_zero, List.set_cons_succ]
                refine wpAnyH_take (i := 15) (oi := ⟨_, _, _, _, _, _⟩) (v := .int .i64 (i : Int)) rfl (by kernel_rfl) (by kernel_rfl) (by kernel_rfl) (fun _ _ _ h => h) (Or.inl ⟨by rfl, fun w hSw => by go_simp⟩) hsA ?_
                try simp only [Act.put, List.setIfInBounds_toArray, List.set_cons_zero, List.set_cons_succ]
                refine wpAnyH_take (i := 16) (oi := ⟨_, _, _, _, _, _⟩) (v := .pointer (some ⟨b0, o0 + i * 2, Option.none⟩)) rfl (by kernel_rfl) (by kernel_rfl) (by kernel_rfl) (fun _ _ _ h => h) (Or.inl ⟨by rfl, fun w hSw => by go_simp⟩) hsA ?_
                try simp only [Act.put, List.setIfInBounds_toArray, List.set_cons_zero, List.set_cons_succ]
                refine wpAnyH_take (i := 17) (oi := ⟨_, _, _, _, _, _⟩) (v := .pointer (some ⟨b0, o0 + i * 2, Option.none⟩)) rfl (by kernel_rfl) (by kernel_rfl) (by kernel_rfl) (fun _ _ _ h => h) (Or.inl ⟨by rfl, fun w hSw => by go_simp⟩) hsA ?_
                try simp only [Act.put, List.setIfInBounds_toArray, List.set_cons_zero, List.set_cons_succ]
                refine wpAnyH_take (i := 18) (oi := ⟨_, _, _, _, _, _⟩) (v := .int .i64 e.1) rfl (by kernel_rfl) (by kernel_rfl) (by kernel_rfl) (fun _ _ _ h => h) (Or.inl ⟨by rfl, fun w hSw => by obtain ⟨_, z1, z2, z3⟩ := hSw; go_simp⟩) hsA ?_
                try simp only [Act.put, List.setIfInBounds_toArray, List.set_cons_zero, List.set_cons_succ]
                refine wpAnyH_take (i := 19) (oi := ⟨_, _, _, _, _, _⟩) (v := .slice (some ⟨b0, o0, Option.none⟩) A0 c3) rfl (by kernel_rfl) (by kernel_rfl) (by kernel_rfl) (fun _ _ _ h => h) (Or.inl ⟨by rfl, fun w hSw => by go_simp⟩) hsA ?_
                try simp only [Act.put, List.setIfInBounds_toArray, List.set_cons_zero, List.set_cons_succ]
                refine wpAnyH_take (i := 20) (oi := ⟨_, _, _, _, _, _⟩) (v := .int .i64 (j : Int)) rfl (by kernel_rfl) (by kernel_rfl) (by kernel_rfl) (fun _ _ _ h => h) (Or.inl ⟨by rfl, fun w hSw => by go_simp⟩) hsA ?_
                try simp only [Act.put, List.setIfInBounds_toArray, List.set_cons_zero, List.set_cons_succ]
                refine wpAnyH_take (i := 21) (oi := ⟨_, _, _, _, _, _⟩) (v := .pointer (some ⟨b0, o0 + j * 2, Option.none⟩)) rfl (by kernel_rfl) (by kernel_rfl) (by kernel_rfl) (fun _ _ _ h => h) (Or.inl ⟨by rfl, fun w hSw => by go_simp⟩) hsA ?_
                try simp only [Act.put, List.setIfInBounds_toArray, List.set_cons_zero, List.set_cons_succ]
                refine wpAnyH_take (i := 22) (oi := ⟨_, _, _, _, _, _⟩) (v := .pointer (some ⟨b0, o0 + j * 2, Option.none⟩)) rfl (by kernel_rfl) (by kernel_rfl) (by kernel_rfl) (fun _ _ _ h => h) (Or.inl ⟨by rfl, fun w hSw => by go_simp⟩) hsA ?_
                try simp only [Act.put, List.setIfInBounds_toArray, List.set_cons_zero, List.set_cons_succ]
                refine wpAnyH_take (i := 23) (oi := ⟨_, _, _, _, _, _⟩) (v := .int .i64 f.1) rfl (by kernel_rfl) (by kernel_rfl) (by kernel_rfl) (fun _ _ _ h => h) (Or.inl ⟨by rfl, fun w hSw => by obtain ⟨_, z1, z2, z3⟩ := hSw; go_simp⟩) hsA ?_
                try simp only [Act.put, List.setIfInBounds_toArray, List.set_cons_zero, List.set_cons_succ]
                refine wpAnyH_take (i := 24) (oi := ⟨_, _, _, _, _, _⟩) (v := .bool false) rfl (by kernel_rfl) (by kernel_rfl) (by kernel_rfl) (fun _ _ _ h => h) (Or.inl ⟨by rfl, fun w hSw => by go_simp⟩) hsA ?_
                try simp only [Act.put, List.setIfInBounds_toArray, List.set_cons_zero, List.set_cons_succ]
                refine wpAnyH_take (i := 25) (oi := ⟨_, _, _, _, _, _⟩) (v := .bool false) rfl (by kernel_rfl) (by kernel_rfl) (by kernel_rfl) (fun _ _ _ h => h) (Or.inl ⟨by rfl, fun w hSw => by go_simp⟩) hsA ?_
                try simp only [Act.put, List.setIfInBounds_toArray, List.set_cons_zero, List.set_cons_succ]
                refine wpAnyH_take (i := 26) (oi := ⟨_, _, _, _, _, _⟩) (v := .bool false) rfl (by kernel_rfl) (by kernel_rfl) (by kernel_rfl) (fun _ _ _ h => h) (Or.inl ⟨by rfl, fun w hSw => by go_simp⟩) hsA ?_
                try simp only [Act.put, List.setIfInBounds_toArray, List.set_cons_zero, List.set_cons_succ]
                refine wpAnyH_take (i := 27) (oi := ⟨_, _, _, _, _, _⟩) (v := undef) rfl (by kernel_rfl) (by kernel_rfl) (by kernel_rfl) (fun _ _ _ h => h) (Or.inr ⟨by kernel_rfl, rfl⟩) hsA ?_
                try simp only [Act.put, List.setIfInBounds_toArray, List.set_cons_zero, List.set_cons_succ]
                refine wpAnyH_take (i := 28) (oi := ⟨_, _, _, _, _, _⟩) (v := undef) rfl (by kernel_rfl) (by kernel_rfl) (by kernel_rfl) (fun _ _ _ h => h) (Or.inr ⟨by kernel_rfl, rfl⟩) hsA ?_
                try simp only [Act.put, List.setIfInBounds_toArray, List.set_cons_zero, List.set_cons_succ]
                refine wpAnyH_take (i := 29) (oi := ⟨_, _, _, _, _, _⟩) (v := undef) rfl (by kernel_rfl) (by kernel_rfl) (by kernel_rfl) (fun _ _ _ h => h) (Or.inr ⟨by kernel_rfl, rfl⟩) hsA ?_
                try simp only [Act.put, List.setIfInBounds_toArray, List.set_cons_zero, List.set_cons_succ]
                refine wpAnyH_take (i := 30) (oi := ⟨_, _, _, _, _, _⟩) (v := undef) rfl (by kernel_rfl) (by kernel_rfl) (by kernel_rfl) (fun _ _ _ h => h) (Or.inr ⟨by kernel_rfl, rfl⟩) hsA ?_
                try simp only [Act.put, List.setIfInBounds_toArray, List.set_cons_zero, List.set_cons_succ]
                refine wpAnyH_take (i := 31) (oi := ⟨_, _, _, _, _, _⟩) (v := undef) rfl (by kernel_rfl) (by kernel_rfl) (by kernel_rfl) (fun _ _ _ h => h) (Or.inr ⟨by kernel_rfl, rfl⟩) hsA ?_
                try simp only [Act.put, List.setIfInBounds_toArray, List.set_cons_zero, List.set_cons_succ]
                refine wpAnyH_take (i := 32) (oi := ⟨_, _, _, _, _, _⟩) (v := .bool false) rfl (by kernel_rfl) (by kernel_rfl) (by kernel_rfl) (fun _ _ _ h => h) (Or.inl ⟨by rfl, fun w hSw => by go_simp⟩) hsA ?_
                try simp only [Act.put, List.setIfInBounds_toArray, List.set_cons_zero, List.set_cons_succ]
                refine wpAnyH_take (i := 33) (oi := ⟨_, _, _, _, _, _⟩) (v := .bool false) rfl (by kernel_rfl) (by kernel_rfl) (by kernel_rfl) (fun _ _ _ h => h) (Or.inl ⟨by rfl, fun w hSw => by go_simp⟩) hsA ?_
                try simp only [Act.put, List.setIfInBounds_toArray, List.set_cons_zero, List.set_cons_succ]
                refine wpAnyH_done (by kernel_rfl) ?_ _
                have HZ : Hid (Below w6.heap.size w6 w') := Lib.hid (HBJ.out.trans (hsA.1.mono HBJ.out.size))
                clear hsA hs0 K1
                go_wp2
                go_loopw [63] (fun s63 wr => ∃ (k : Nat), s63 = .int .i64 (k : Int) ∧ k ≤ A0 ∧ Below w6.heap.size w6 wr) (fun s _ => A0 - (intOf s).toNat)
                case atStart => exact ⟨0, rfl, by omega, HZ.out⟩
                case round =>
                  clear HZ
                  obtain ⟨k, rfl, hk, hb⟩ := hrel
                  have HBK := Lib.hid hb
                  clear hb
                  by_cases hltk : k < A0
                  · obtain ⟨d1, hd1⟩ : ∃ d, hbd edep x i j = d := ⟨_, rfl⟩
                    obtain ⟨d2, hd2⟩ : ∃ d, hbd edep x j k = d := ⟨_, rfl⟩
                    obtain ⟨d3, hd3⟩ : ∃ d, hbd edep x i k = d := ⟨_, rfl⟩
                    have C1 := HCALL.out i j
                    have C2 := HCALL.out j k
                    have C3 := HCALL.out i k
                    rw [hd1] at C1
                    rw [hd2] at C2
                    rw [hd3] at C3
                    have hd123 : d1 = true → d2 = true → d3 = true := fun h1 h2 => by rw [← hd3]; exact hbd_trans (by rw [hd1]; exact h1) (by rw [hd2]; exact h2)
                    have C1 := Lib.hid C1
                    have C2 := Lib.hid C2
                    have C3 := Lib.hid C3
                    have cz := HBOX.out wr HBK.out
                    clear hd1 hd2 hd3
                    cases d1 with
                    | false =>
                      clear hd123
                      go_wp2_with (go_at_call 12; refine Hid.out ?_)
                      refine Lib.hid ?_
                      refine (C1.out wr HBK.out).mono ?_
                      rintro r w7 ⟨rfl, hb⟩
                      have HB7 := Lib.hid hb
                      clear hb C1 C2 C3 cz
                      go_wp2
                      go_roundw
                      case rel => exact ⟨k + 1, by go_num, by omega, HB7.out⟩
                      case measure => simp [intOf] <;> omega
                    | true =>
                      cases d2 with
                      | false =>
                        clear hd123
                        go_wp2_with (go_at_call 12; refine Hid.out ?_)
                        refine Lib.hid ?_
                        refine (C1.out wr HBK.out).mono ?_
                        rintro r w7 ⟨rfl, hb⟩
                        have HB7 := Lib.hid hb
                        clear cz
                        have cz := HBOX.out w7 hb
                        clear hb C1
                        go_wp2_with (go_at_call 12; refine Hid.out ?_)
                        refine Lib.hid ?_
                        refine (C2.out w7 HB7.out).mono ?_
                        rintro r w8 ⟨rfl, hb⟩
                        have HB8 := Lib.hid hb
                        clear hb C2 C3 cz
                        go_wp2
                        go_roundw
                        case rel => exact ⟨k + 1, by go_num, by omega, HB8.out⟩
                        case measure => simp [intOf] <;> omega
                      | true =>
                        obtain rfl := hd123 rfl rfl
                        go_wp2_with (go_at_call 12; refine Hid.out ?_)
                        refine Lib.hid ?_
                        refine (C1.out wr HBK.out).mono ?_
                        rintro r w7 ⟨rfl, hb⟩
                        have HB7 := Lib.hid hb
                        clear cz
                        have cz := HBOX.out w7 hb
                        clear hb C1
                        go_wp2_with (go_at_call 12; refine Hid.out ?_)
                        refine Lib.hid ?_
                        refine (C2.out w7 HB7.out).mono ?_
                        rintro r w8 ⟨rfl, hb⟩
                        have HB8 := Lib.hid hb
                        clear cz
                        have cz := HBOX.out w8 hb
                        clear hb C2
                        go_wp2_with (go_at_call 12; refine Hid.out ?_)
                        refine Lib.hid ?_
                        refine (C3.out w8 HB8.out).mono ?_
                        rintro r w9 ⟨rfl, hb⟩
                        have HB9 := Lib.hid hb
                        clear hb C3 cz
                        go_wp2
                        go_roundw
                        case rel => exact ⟨k + 1, by go_num, by omega, HB9.out⟩
                        case measure => simp [intOf] <;> omega
                  · obtain rfl : k = A0 := by omega
                    go_wp2
                    go_roundw
                    case rel => exact ⟨j + 1, by go_num, by omega, HBK.out⟩
                    case measure => simp [intOf] <;> omega
              · have hlt' : decide ((i : Int) < (j : Int)) = false := decide_eq_false (by omega)
                clear hsame hij
                go_wp2_with fail
                refine wp_region_held_drew (S := fun w' => (Below wz.heap.size wz w' ∧ w'.cell? ⟨Z, 0, Option.none⟩ = some (.slice po mo co) ∧ w'.cell? ⟨b0, o0 + i * 2, Option.none⟩ = some (.int .i64 e.1) ∧ w'.cell? ⟨b0, o0 + j * 2, Option.none⟩ = some (.int .i64 f.1))) (by kernel_rfl) hs0 (fun hX1 => ?_)
                clear hX1
                refine wpAnyH_take (i := 0) (oi := ⟨_, _, _, _, _, _⟩) (v := .agg #[.slice po mo co]) rfl (by kernel_rfl) (by kernel_rfl) (by kernel_rfl) (fun _ _ _ h => h) (Or.inl ⟨by rfl, fun w hSw => by obtain ⟨_, z1, z2, z3⟩ := hSw; go_simp⟩) hs0 ?_
                try simp only [Act.put, List.setIfInBounds_toArray, List.set_cons_zero, List.set_cons_succ]
                refine wpAnyH_take (i := 1) (oi := ⟨_, _, _, _, _, _⟩) (v := .int .i64 (i : Int)) rfl (by kernel_rfl) (by kernel_rfl) (by kernel_rfl) (fun _ _ _ h => h) (Or.inl ⟨by rfl, fun w hSw => by go_simp⟩) hs0 ?_
                try simp only [Act.put, List.setIfInBounds_toArray, List.set_cons_zero, List.set_cons_succ]
                refine wpAnyH_take (i := 2) (oi := ⟨_, _, _, _, _, _⟩) (v := .int .i64 (j : Int)) rfl (by kernel_rfl) (by kernel_rfl) (by kernel_rfl) (fun _ _ _ h => h) (Or.inl ⟨by rfl, fun w hSw => by go_simp⟩) hs0 ?_
                try simp only [Act.put, List.setIfInBounds_toArray, List.set_cons_zero, List.set_cons_succ]
                refine wpAnyH_ready (rs := [3]) (by kernel_rfl) (by simp) ?_
                refine AllReadyH.cons (o := ⟨_, _, _, _, _, _⟩) rfl (fun K hK => ?_) AllReadyH.nil
                go_simp
                go_at_call 12
                refine (K1.out _ hs0).mono ?_
                rintro r w' ⟨rfl, hsA⟩
                refine hK.out _ _ hsA (fun hX2 => ?_)
                clear hX2
                clear hK K
                try simp only [Act.put, List.setIfInBounds_toArray, List.set_cons_zero, List.set_cons_succ]
                refine wpAnyH_take (i := 4) (oi := ⟨_, _, _, _, _, _⟩) (v := .bool false) rfl (by kernel_rfl) (by kernel_rfl) (by kernel_rfl) (fun _ _ _ h => h) (Or.inl ⟨by rfl, fun w hSw => by go_simp⟩) hsA ?_
                try simp only [Act.put, List.setIfInBounds_toArray, List.set_cons_zero, List.set_cons_succ]
                refine wpAnyH_take (i := 5) (oi := ⟨_, _, _, _, _, _⟩) (v := undef) rfl (by kernel_rfl) (by kernel_rfl) (by kernel_rfl) (fun _ _ _ h => h) (Or.inr ⟨by kernel_rfl, rfl⟩) hsA ?_
                try simp only [Act.put, List.setIfInBounds_toArray, List.set_cons_zero, List.set_cons_succ]
                refine wpAnyH_take (i := 6) (oi := ⟨_, _, _, _, _, _⟩) (v := undef) rfl (by kernel_rfl) (by kernel_rfl) (by kernel_rfl) (fun _ _ _ h => h) (Or.inr ⟨by kernel_rfl, rfl⟩) hsA ?_
                try simp only [Act.put, List.setIfInBounds_toArray, List.set_cons_zero, List.set_cons_succ]
                refine wpAnyH_take (i := 7) (oi := ⟨_, _, _, _, _, _⟩) (v := undef) rfl (by kernel_rfl) (by kernel_rfl) (by kernel_rfl) (fun _ _ _ h => h) (Or.inr ⟨by kernel_rfl, rfl⟩) hsA ?_
                try simp only [Act.put, List.setIfInBounds_toArray, List.set_cons_zero, List.set_cons_succ]
                refine wpAnyH_take (i := 8) (oi := ⟨_, _, _, _, _, _⟩) (v := .bool false) rfl (by kernel_rfl) (by kernel_rfl) (by kernel_rfl) (fun _ _ _ h => h) (Or.inl ⟨by rfl, fun w hSw => by go_simp⟩) hsA ?_
                try simp only [Act.put, List.setIfInBounds_toArray, List.set_cons_zero, List.set_cons_succ]
                refine wpAnyH_take (i := 9) (oi := ⟨_, _, _, _, _, _⟩) (v := .bool false) rfl (by kernel_rfl) (by kernel_rfl) (by kernel_rfl) (fun _ _ _ h => h) (Or.inl ⟨by rfl, fun w hSw => by go_simp⟩) hsA ?_
                try simp only [Act.put, List.setIfInBounds_toArray, List.set_cons_zero, List.set_cons_succ]
                refine wpAnyH_take (i := 10) (oi := ⟨_, _, _, _, _, _⟩) (v := .int .i64 (i : Int)) rfl (by kernel_rfl) (by kernel_rfl) (by kernel_rfl) (fun _ _ _ h => h) (Or.inl ⟨by rfl, fun w hSw => by go_simp⟩) hsA ?_
                try simp only [Act.put, List.setIfInBounds_toArray, List.set_cons_zero, List.set_cons_succ]
                refine wpAnyH_take (i := 11) (oi := ⟨_, _, _, _, _, _⟩) (v := .int .i64 (j : Int)) rfl (by kernel_rfl) (by kernel_rfl) (by kernel_rfl) (fun _ _ _ h => h) (Or.inl ⟨by rfl, fun w hSw => by go_simp⟩) hsA ?_
                try simp only [Act.put, List.setIfInBounds_toArray, List.set_cons_zero, List.set_cons_succ]
                refine wpAnyH_take (i := 12) (oi := ⟨_, _, _, _, _, _⟩) (v := .bool false) rfl (by kernel_rfl) (by kernel_rfl) (by kernel_rfl) (fun _ _ _ h => h) (Or.inl ⟨by rfl, fun w hSw => by go_simp⟩) hsA ?_
                try simp only [Act.put, List.setIfInBounds_toArray, List.set_cons_zero, List.set_cons_succ]
                refine wpAnyH_take (i := 13) (oi := ⟨_, _, _, _, _, _⟩) (v := .bool false) rfl (by kernel_rfl) (by kernel_rfl) (by kernel_rfl) (fun _ _ _ h => h) (Or.inl ⟨by rfl, fun w hSw => by go_simp⟩) hsA ?_
                try simp only [Act.put, List.setIfInBounds_toArray, List.set_cons_zero, List.set_cons_succ]
                refine wpAnyH_take (i := 14) (oi := ⟨_, _, _, _, _, _⟩) (v := undef) rfl (by kernel_rfl) (by kernel_rfl) (by kernel_rfl) (fun _ _ _ h => h) (Or.inr ⟨by kernel_rfl, rfl⟩) hsA ?_
                try simp only [Act.put, List.setIfInBounds_toArray, List.set_cons_zero, List.set_cons_succ]
                refine wpAnyH_take (i := 15) (oi := ⟨_, _, _, _, _, _⟩) (v := undef) rfl (by kernel_rfl) (by kernel_rfl) (by kernel_rfl) (fun _ _ _ h => h) (Or.inr ⟨by kernel_rfl, rfl⟩) hsA ?_
                try simp only [Act.put, List.setIfInBounds_toArray, List.set_cons_zero, List.set_cons_succ]
                refine wpAnyH_take (i := 16) (oi := ⟨_, _, _, _, _, _⟩) (v := undef) rfl (by kernel_rfl) (by kernel_rfl) (by kernel_rfl) (fun _ _ _ h => h) (Or.inr ⟨by kernel_rfl, rfl⟩) hsA ?_
                try simp only [Act.put, List.setIfInBounds_toArray, List.set_cons_zero, List.set_cons_succ]
                refine wpAnyH_take (i := 17) (oi := ⟨_, _, _, _, _, _⟩) (v := undef) rfl (by kernel_rfl) (by kernel_rfl) (by kernel_rfl) (fun _ _ _ h => h) (Or.inr ⟨by kernel_rfl, rfl⟩) hsA ?_
                try simp only [Act.put, List.setIfInBounds_toArray, List.set_cons_zero, List.set_cons_succ]
                refine wpAnyH_take (i := 18) (oi := ⟨_, _, _, _, _, _⟩) (v := undef) rfl (by kernel_rfl) (by kernel_rfl) (by kernel_rfl) (fun _ _ _ h => h) (Or.inr ⟨by kernel_rfl, rfl⟩) hsA ?_
                try simp only [Act.put, List.setIfInBounds_toArray, List.set_cons_zero, List.set_cons_succ]
                refine wpAnyH_take (i := 19) (oi := ⟨_, _, _, _, _, _⟩) (v := undef) rfl (by kernel_rfl) (by kernel_rfl) (by kernel_rfl) (fun _ _ _ h => h) (Or.inr ⟨by kernel_rfl, rfl⟩) hsA ?_
                try simp only [Act.put, List.setIfInBounds_toArray, List.set_cons_zero, List.set_cons_succ]
                refine wpAnyH_take (i := 20) (oi := ⟨_, _, _, _, _, _⟩) (v := undef) rfl (by kernel_rfl) (by kernel_rfl) (by kernel_rfl) (fun _ _ _ h => h) (Or.inr ⟨by kernel_rfl, rfl⟩) hsA ?_
                try simp only [Act.put, List.setIfInBounds_toArray, List.set_cons_zero, List.set_cons_succ]
                refine wpAnyH_take (i := 21) (oi := ⟨_, _, _, _, _, _⟩) (v := undef) rfl (by kernel_rfl) (by kernel_rfl) (by kernel_rfl) (fun _ _ _ h => h) (Or.inr ⟨by kernel_rfl, rfl⟩) hsA ?_
                try simp only [Act.put, List.setIfInBounds_toArray, List.set_cons_zero, List.set_cons_succ]
                refine wpAnyH_take (i := 22) (oi := ⟨_, _, _, _, _, _⟩) (v := undef) rfl (by kernel_rfl) (by kernel_rfl) (by kernel_rfl) (fun _ _ _ h => h) (Or.inr ⟨by kernel_rfl, rfl⟩) hsA ?_
                try simp only [Act.put, List.setIfInBounds_toArray, List.set_cons_zero, List.set_cons_succ]
                refine wpAnyH_take (i := 23) (oi := ⟨_, _, _, _, _, _⟩) (v := undef) rfl (by kernel_rfl) (by kernel_rfl) (by kernel_rfl) (fun _ _ _ h => h) (Or.inr ⟨by kernel_rfl, rfl⟩) hsA ?_
                try simp only [Act.put, List.setIfInBounds_toArray, List.set_cons_zero, List.set_cons_succ]
                refine wpAnyH_take (i := 24) (oi := ⟨_, _, _, _, _, _⟩) (v := undef) rfl (by kernel_rfl) (by kernel_rfl) (by kernel_rfl) (fun _ _ _ h => h) (Or.inr ⟨by kernel_rfl, rfl⟩) hsA ?_
                try simp only [Act.put, List.setIfInBounds_toArray, List.set_cons_zero, List.set_cons_succ]
                refine wpAnyH_take (i := 25) (oi := ⟨_, _, _, _, _, _⟩) (v := .bool false) rfl (by kernel_rfl) (by kernel_rfl) (by kernel_rfl) (fun _ _ _ h => h) (Or.inl ⟨by rfl, fun w hSw => by go_simp⟩) hsA ?_
                try simp only [Act.put, List.setIfInBounds_toArray, List.set_cons_zero, List.set_cons_succ]
                refine wpAnyH_take (i := 26) (oi := ⟨_, _, _, _, _, _⟩) (v := .bool false) rfl (by kernel_rfl) (by kernel_rfl) (by kernel_rfl) (fun _ _ _ h => h) (Or.inl ⟨by rfl, fun w hSw => by go_simp⟩) hsA ?_
                try simp only [Act.put, List.setIfInBounds_toArray, List.set_cons_zero, List.set_cons_succ]
                refine wpAnyH_take (i := 27) (oi := ⟨_, _, _, _, _, _⟩) (v := undef) rfl (by kernel_rfl) (by kernel_rfl) (by kernel_rfl) (fun _ _ _ h => h) (Or.inr ⟨by kernel_rfl, rfl⟩) hsA ?_
                try simp only [Act.put, List.setIfInBounds_toArray, List.set_cons_zero, List.set_cons_succ]
                refine wpAnyH_take (i := 28) (oi := ⟨_, _, _, _, _, _⟩) (v := undef) rfl (by kernel_rfl) (by kernel_rfl) (by kernel_rfl) (fun _ _ _ h => h) (Or.inr ⟨by kernel_rfl, rfl⟩) hsA ?_
                try simp only [Act.put, List.setIfInBounds_toArray, List.set_cons_zero, List.set_cons_succ]
                refine wpAnyH_take (i := 29) (oi := ⟨_, _, _, _, _, _⟩) (v := undef) rfl (by kernel_rfl) (by kernel_rfl) (by kernel_rfl) (fun _ _ _ h => h) (Or.inr ⟨by kernel_rfl, rfl⟩) hsA ?_
                try simp only [Act.put, List.setIfInBounds_toArray, List.set_cons_zero, List.set_cons_succ]
                refine wpAnyH_take (i := 30) (oi := ⟨_, _, _, _, _, _⟩) (v := undef) rfl (by kernel_rfl) (by kernel_rfl) (by kernel_rfl) (fun _ _ _ h => h) (Or.inr ⟨by kernel_rfl, rfl⟩) hsA ?_
                try simp only [Act.put, List.setIfInBounds_toArray, List.set_cons_zero, List.set_cons_succ]
                refine wpAnyH_take (i := 31) (oi := ⟨_, _, _, _, _, _⟩) (v := undef) rfl (by kernel_rfl) (by kernel_rfl) (by kernel_rfl) (fun _ _ _ h => h) (Or.inr ⟨by kernel_rfl, rfl⟩) hsA ?_
                try simp only [Act.put, List.setIfInBounds_toArray, List.set_cons_zero, List.set_cons_succ]
                refine wpAnyH_take (i := 32) (oi := ⟨_, _, _, _, _, _⟩) (v := .bool false) rfl (by kernel_rfl) (by kernel_rfl) (by kernel_rfl) (fun _ _ _ h => h) (Or.inl ⟨by rfl, fun w hSw => by go_simp⟩) hsA ?_
                try simp only [Act.put, List.setIfInBounds_toArray, List.set_cons_zero, List.set_cons_succ]
                refine wpAnyH_take (i := 33) (oi := ⟨_, _, _, _, _, _⟩) (v := .bool false) rfl (by kernel_rfl) (by kernel_rfl) (by kernel_rfl) (fun _ _ _ h => h) (Or.inl ⟨by rfl, fun w hSw => by go_simp⟩) hsA ?_
                try simp only [Act.put, List.setIfInBounds_toArray, List.set_cons_zero, List.set_cons_succ]
                refine wpAnyH_done (by kernel_rfl) ?_ _
                have HZ : Hid (Below w6.heap.size w6 w') := Lib.hid (HBJ.out.trans (hsA.1.mono HBJ.out.size))
                clear hsA hs0 K1
                go_wp2
                go_loopw [63] (fun s63 wr => ∃ (k : Nat), s63 = .int .i64 (k : Int) ∧ k ≤ A0 ∧ Below w6.heap.size w6 wr) (fun s _ => A0 - (intOf s).toNat)
                case atStart => exact ⟨0, rfl, by omega, HZ.out⟩
                case round =>
                  clear HZ
                  obtain ⟨k, rfl, hk, hb⟩ := hrel
                  have HBK := Lib.hid hb
                  clear hb
                  by_cases hltk : k < A0
                  · obtain ⟨d1, hd1⟩ : ∃ d, hbd edep x i j = d := ⟨_, rfl⟩
                    obtain ⟨d2, hd2⟩ : ∃ d, hbd edep x j k = d := ⟨_, rfl⟩
                    obtain ⟨d3, hd3⟩ : ∃ d, hbd edep x i k = d := ⟨_, rfl⟩
                    have C1 := HCALL.out i j
                    have C2 := HCALL.out j k
                    have C3 := HCALL.out i k
                    rw [hd1] at C1
                    rw [hd2] at C2
                    rw [hd3] at C3
                    have hd123 : d1 = true → d2 = true → d3 = true := fun h1 h2 => by rw [← hd3]; exact hbd_trans (by rw [hd1]; exact h1) (by rw [hd2]; exact h2)
                    have C1 := Lib.hid C1
                    have C2 := Lib.hid C2
                    have C3 := Lib.hid C3
                    have cz := HBOX.out wr HBK.out
                    clear hd1 hd2 hd3
                    cases d1 with
                    | false =>
                      clear hd123
                      go_wp2_with (go_at_call 12; refine Hid.out ?_)
                      refine Lib.hid ?_
                      refine (C1.out wr HBK.out).mono ?_
                      rintro r w7 ⟨rfl, hb⟩
                      have HB7 := Lib.hid hb
                      clear hb C1 C2 C3 cz
                      go_wp2
                      go_roundw
                      case rel => exact ⟨k + 1, by go_num, by omega, HB7.out⟩
                      case measure => simp [intOf] <;> omega
                    | true =>
                      cases d2 with
                      | false =>
                        clear hd123
                        go_wp2_with (go_at_call 12; refine Hid.out ?_)
                        refine Lib.hid ?_
                        refine (C1.out wr HBK.out).mono ?_
                        rintro r w7 ⟨rfl, hb⟩
                        have HB7 := Lib.hid hb
                        clear cz
                        have cz := HBOX.out w7 hb
                        clear hb C1
                        go_wp2_with (go_at_call 12; refine Hid.out ?_)
                        refine Lib.hid ?_
                        refine (C2.out w7 HB7.out).mono ?_
                        rintro r w8 ⟨rfl, hb⟩
                        have HB8 := Lib.hid hb
                        clear hb C2 C3 cz
                        go_wp2
                        go_roundw
                        case rel => exact ⟨k + 1, by go_num, by omega, HB8.out⟩
                        case measure => simp [intOf] <;> omega
                      | true =>
                        obtain rfl := hd123 rfl rfl
                        go_wp2_with (go_at_call 12; refine Hid.out ?_)
                        refine Lib.hid ?_
                        refine (C1.out wr HBK.out).mono ?_
                        rintro r w7 ⟨rfl, hb⟩
                        have HB7 := Lib.hid hb
                        clear cz
                        have cz := HBOX.out w7 hb
                        clear hb C1
                        go_wp2_with (go_at_call 12; refine Hid.out ?_)
                        refine Lib.hid ?_
                        refine (C2.out w7 HB7.out).mono ?_
                        rintro r w8 ⟨rfl, hb⟩
                        have HB8 := Lib.hid hb
                        clear cz
                        have cz := HBOX.out w8 hb
                        clear hb C2
                        go_wp2_with (go_at_call 12; refine Hid.out ?_)
                        refine Lib.hid ?_
                        refine (C3.out w8 HB8.out).mono ?_
                        rintro r w9 ⟨rfl, hb⟩
                        have HB9 := Lib.hid hb
                        clear hb C3 cz
                        go_wp2
                        go_roundw
                        case rel => exact ⟨k + 1, by go_num, by omega, HB9.out⟩
                        case measure => simp [intOf] <;> omega
                  · obtain rfl : k = A0 := by omega
                    go_wp2
                    go_roundw
                    case rel => exact ⟨j + 1, by go_num, by omega, HBK.out⟩
                    case measure => simp [intOf] <;> omega
          · obtain rfl : j = A0 := by omega
            go_wp2
            go_roundw
            case rel => exact ⟨i + 1, by go_num, by omega, HBJ.out⟩
            case measure => simp [intOf] <;> omega
      · obtain rfl : i = A0 := by omega
        have HR : Hid (Below w.heap.size w wr) := Lib.hid (HB6.out.trans (HBI.out.mono HB6.out.size))
        go_wp2
        go_ret
        exact ⟨rfl, HR.out⟩
end Go.Proofs.Ytdcabhlgaecbiaa
