/- ClockOrders: does one event happen ahead of another one? -/
import Derived.Test.YtdcabhlgaecbiaaOc
set_option linter.unusedSimpArgs false
set_option linter.unusedVariables false
namespace Go.Proofs.Ytdcabhlgaecbiaa
open Go.RowKit

set_option maxRecDepth 100000 in
set_option maxHeartbeats 16000000 in
theorem orders_any (Ob : World → Value → Evl → Prop) (HKp : KpO Ob) (HAw : AwO) (HNw : NewO Ob) (HBf : BefO Ob) (l : Evl) (a b : Int) (v : Value) (w : World) (hs : ES w v l) (hok : eok l) (hl : l.length ≤ 9223372036854775807) : Calls Try.prog 3 #[v, .int .i64 a, .int .i64 b] w fun e w' => e = .returned (.bool true) ∧ Below w.heap.size w w' := by
  obtain ⟨p0, cap0, rfl, hcap0⟩ := hs.form
  obtain ⟨A0, hA0⟩ : ∃ A, l.length = A := ⟨_, rfl⟩
  have HS := Lib.hid hs
  rw [hA0] at HS hcap0 hl ⊢
  have HA0 := Lib.hid hA0
  have HOK := Lib.hid hok
  clear hs hA0 hok
  go_enter Try.func3, Try.ntmps3
  go_wp2_with (go_at_call 7; refine Hid.out ?_)
  refine Lib.hid ?_
  refine (HAw _).mono ?_
  rintro e w1 ⟨rfl, hb⟩
  have HB1 := Lib.hid hb
  clear hb
  have HLT := light_any l 24 _ w1 (HS.out.kept HB1.out) (by rw [HA0.out]; exact hl)
  rw [show (l.all (fun e => decide (e.2.length ≤ 8)) && decide ((l.length : Int) ≤ 24)) = lgt l 24 from rfl] at HLT
  have HL := Lib.hid HLT
  clear HLT
  go_wp2_with (go_at_call 8; refine Hid.out ?_)
  refine Lib.hid ?_
  refine HL.out.mono ?_
  rintro e w2 ⟨rfl, hb⟩
  have HB2 : Hid (Below w.heap.size w w2) := Lib.hid (HB1.out.trans (hb.mono HB1.out.size))
  clear hb HL HB1
  obtain ⟨lt, hlt⟩ : ∃ b, lgt l 24 = b := ⟨_, rfl⟩
  rw [hlt]
  cases lt with
  | false =>
    clear hlt
    go_wp2
    go_ret
    exact ⟨rfl, HB2.out⟩
  | true =>
    obtain ⟨h8, hA24⟩ := lgt_true hlt
    have h24 : A0 ≤ 24 := by rw [HA0.out] at hA24; omega
    have HE1 := Lib.hid (events_any l _ w2 (HS.out.kept HB2.out) (by rw [HA0.out]; omega) HOK.out (fun e he => by have := h8 e he; omega))
    have HK := Lib.hid (evs_k (by rw [HA0.out]; omega) HOK.out h8)
    clear h8 hA24 hlt
    go_wp2_with (go_at_call 9; refine Hid.out ?_)
    refine Lib.hid ?_
    refine HE1.out.mono ?_
    rintro e w3 ⟨v3, rfl, hv3, hb⟩
    have HB3 : Hid (Below w.heap.size w w3) := Lib.hid (HB2.out.trans (hb.mono HB2.out.size))
    clear hb HE1
    obtain ⟨x, hx⟩ : ∃ x, evs l = x := ⟨_, rfl⟩
    have hxl : x.length = A0 := by rw [← hx, evs_len, HA0.out]
    rw [hx] at HK hv3
    have HXL := Lib.hid hxl
    obtain ⟨p3, c3, hve, hc3⟩ : ∃ p c, v3 = .slice p A0 c ∧ A0 ≤ c := by
      obtain ⟨p, c, h1, h2, _⟩ := id hv3
      rw [hxl] at h1 h2
      exact ⟨p, c, h1, h2⟩
    subst hve
    have HV3 := Lib.hid hv3
    have HXE := Lib.hid hx
    clear hv3 hx hxl
    have HN1 := Lib.hid (HNw x _ w3 HV3.out HK.out)
    go_wp2_with (go_at_call 10; refine Hid.out ?_)
    refine Lib.hid ?_
    refine HN1.out.mono ?_
    rintro r w4 ⟨v4, rfl, ⟨po, mo, co, rfl, ho⟩, hb⟩
    have HB4 : Hid (Below w.heap.size w w4) := Lib.hid (HB3.out.trans (hb.mono HB3.out.size))
    have HV34 := Lib.hid (HV3.out.kept hb)
    have HO4 := Lib.hid ho
    have HAH := Lib.hid (ahead_any x _ w4 HV34.out (Nat.le_trans HK.out.1 (by omega)) HK.out.mk8)
    clear hb HN1 ho
    go_wp2_with (go_at_call 11; refine Hid.out ?_)
    refine Lib.hid ?_
    refine HAH.out.mono ?_
    rintro r w5 ⟨B, A1, us, rfl, hAA, hah, hb⟩
    rw [HXL.out] at hAA
    have hAA2 := hAA.symm
    clear hAA
    subst hAA2
    have HB5 : Hid (Below w.heap.size w w5) := Lib.hid (HB4.out.trans (hb.mono HB4.out.size))
    have HO5 := Lib.hid (HKp _ _ _ _ HO4.out hb)
    have HI := Lib.hid hah
    clear hah hb HAH
    have hgz := heap_alloc_new w5 (Obj.cells #[Value.slice po mo co] 29)
    have hWz := below_alloc w5 (Obj.cells #[Value.slice po mo co] 29)
    obtain ⟨w6, hw6⟩ : ∃ w6, w5.alloc (Obj.cells #[Value.slice po mo co] 29) = w6 := ⟨_, rfl⟩
    rw [hw6] at hgz hWz
    have HB6 : Hid (Below w.heap.size w w6) := Lib.hid (HB5.out.trans (hWz.mono HB5.out.size))
    have HO6 := Lib.hid (HKp _ _ _ _ HO5.out hWz)
    obtain ⟨Z, hZ⟩ : ∃ Z, w5.heap.size = Z := ⟨_, rfl⟩
    have hus : Hid (us.length = A0) := Lib.hid (by have := HI.out.own.1; omega)
    have hBs : B < w6.heap.size := Nat.lt_of_lt_of_le (HI.out.own.lt B rfl).2 hWz.size
    have hrow : ∀ W, Below w6.heap.size w6 W → ∀ (k : Nat) u, us[k]? = some u → W.cell? ⟨B, k, Option.none⟩ = some u ∧ NsS W u (ahd edep x k) := fun W kk k u hu => by
      have hk : k < A0 := by rw [← hus.out]; exact (List.getElem?_eq_some_iff.1 hu).1
      refine ⟨?_, (((HI.out.rows k u hk hu).1).kept hWz).kept kk⟩
      rw [kk.cell (p := ⟨B, _, Option.none⟩) hBs, hWz.cell (p := ⟨B, _, Option.none⟩) (HI.out.own.lt B rfl).2, HI.out.own.cellAt k (by omega), hu]
    have HROW := Lib.hid hrow
    rw [hZ] at hgz
    have HBOX : Hid (∀ W, Below w6.heap.size w6 W → W.cell? ⟨Z, 0, Option.none⟩ = some (.slice po mo co)) := Lib.hid fun W kk => by
      rw [kk.cell (p := ⟨Z, 0, Option.none⟩) (lt_of_block hgz), cell_of_row _ _ _ _ _ _ hgz]; rfl
    have HW6 := Lib.hid hw6
    have HZE := Lib.hid hZ
    clear hgz hWz hw6 hrow hBs hZ HI
    go_wp2
    rw [HW6.out, HZE.out]
    go_loopw [25] (fun s25 wr => ∃ (j : Nat), s25 = .int .i64 (j : Int) ∧ j ≤ A0 ∧ Below w6.heap.size w6 wr) (fun s _ => A0 - (intOf s).toNat)
    case atStart => exact ⟨0, rfl, by omega, Below.refl _ _⟩
    case round =>
      obtain ⟨j, rfl, hj, hb⟩ := hrel
      have HBJ := Lib.hid hb
      clear hb
      by_cases hltj : j < A0
      · go_wp2
        go_loopw [30] (fun s30 wr => ∃ (i : Nat), s30 = .int .i64 (i : Int) ∧ i ≤ A0 ∧ Below w6.heap.size w6 wr) (fun s _ => A0 - (intOf s).toNat)
        case atStart => exact ⟨0, rfl, by omega, HBJ.out⟩
        case round =>
          clear HBJ
          obtain ⟨i, rfl, hi, hb⟩ := hrel
          have HBI := Lib.hid hb
          clear hb
          by_cases hlti : i < A0
          · obtain ⟨u, hu⟩ : ∃ u, us[j]? = some u := ⟨_, List.getElem?_eq_getElem (by rw [hus.out]; exact hltj)⟩
            obtain ⟨wz, rfl⟩ : ∃ wz, wz = wr := ⟨_, rfl⟩
            obtain ⟨L, hL⟩ : ∃ L, (ahd edep x j).length = L := ⟨_, rfl⟩
            obtain ⟨pj, cj, hue⟩ : ∃ p c, u = .slice p L c := by
              obtain ⟨p, c, h1, _⟩ := (HROW.out wz HBI.out j u hu).2
              exact ⟨p, c, by rw [h1, hL]⟩
            subst hue
            have keep : ∀ W, Below wz.heap.size wz W → (Below wz.heap.size wz W ∧ W.cell? ⟨Z, 0, Option.none⟩ = some (.slice po mo co) ∧ W.cell? ⟨B, j, Option.none⟩ = some (.slice pj L cj)) := fun W kk => by
              have kw := HBI.out.trans (kk.mono HBI.out.size)
              exact ⟨kk, HBOX.out W kw, (HROW.out W kw j _ hu).1⟩
            have K1 : Hid (∀ W, (Below wz.heap.size wz W ∧ W.cell? ⟨Z, 0, Option.none⟩ = some (.slice po mo co) ∧ W.cell? ⟨B, j, Option.none⟩ = some (.slice pj L cj)) → Calls Try.prog 12 #[.agg #[.slice po mo co], .int .i64 (i : Int), .int .i64 (j : Int)] W fun r w' => r = .returned (.bool (hbd edep x i j)) ∧ (Below wz.heap.size wz w' ∧ w'.cell? ⟨Z, 0, Option.none⟩ = some (.slice po mo co) ∧ w'.cell? ⟨B, j, Option.none⟩ = some (.slice pj L cj))) := Lib.hid fun W kk => by
              have kw := HBI.out.trans (kk.1.mono HBI.out.size)
              have h1 := HBf x po mo co (i : Int) (j : Int) W (HKp _ _ _ _ HO6.out kw) HK.out
              rw [hbI_nat] at h1
              refine h1.mono ?_
              rintro r w' ⟨rfl, hb⟩
              exact ⟨rfl, keep w' (kk.1.trans (hb.mono kk.1.size))⟩
            have K2 : Hid (∀ W, (Below wz.heap.size wz W ∧ W.cell? ⟨Z, 0, Option.none⟩ = some (.slice po mo co) ∧ W.cell? ⟨B, j, Option.none⟩ = some (.slice pj L cj)) → Calls Try.prog 13 #[.slice pj L cj, .int .i64 (i : Int)] W fun r w' => r = .returned (.bool (hbd edep x i j)) ∧ (Below wz.heap.size wz w' ∧ w'.cell? ⟨Z, 0, Option.none⟩ = some (.slice po mo co) ∧ w'.cell? ⟨B, j, Option.none⟩ = some (.slice pj L cj))) := Lib.hid fun W kk => by
              have kw := HBI.out.trans (kk.1.mono HBI.out.size)
              have h1 := contains_any (ahd edep x j) i _ W (HROW.out W kw j _ hu).2 (by have := ahd_len x j; omega)
              rw [hbd_mem] at h1
              refine h1.mono ?_
              rintro r w' ⟨rfl, rfl⟩
              exact ⟨rfl, kk⟩
            have hs0 := keep wz.drew ⟨rfl, rfl, rfl, Nat.le_refl _, fun _ _ => rfl⟩
            have hj0' : (0 : Int) ≤ (j : Int) := by omega
            have hjA' : (j : Int) < (A0 : Int) := by omega
            obtain ⟨d, hd⟩ : ∃ d, hbd edep x i j = d := ⟨_, rfl⟩
            rw [hd] at K1 K2
            have hdd : (d != d) = false := by simp
            clear keep hu hL hd
            go_wp2_with fail
            go_region_held3 (fun w' => (Below wz.heap.size wz w' ∧ w'.cell? ⟨Z, 0, Option.none⟩ = some (.slice po mo co) ∧ w'.cell? ⟨B, j, Option.none⟩ = some (.slice pj L cj)))
              (first | exact hs0 | assumption)
              (first
                | (go_at_call 12; refine (K1.out _ (by assumption)).mono ?_; rintro r w' ⟨rfl, hsA⟩)
                | (go_at_call 13; refine (K2.out _ (by assumption)).mono ?_; rintro r w' ⟨rfl, hsB⟩))
            have HZ : Hid (Below w6.heap.size w6 w') := Lib.hid (HBI.out.trans (hsB.1.mono HBI.out.size))
            clear hsA hsB hs0 K1 K2
            rename_i hH
            clear hH
            go_wp2
            go_roundw
            case rel => exact ⟨i + 1, by go_num, by omega, HZ.out⟩
            case measure => simp [intOf] <;> omega
          · obtain rfl : i = A0 := by omega
            go_wp2
            go_roundw
            case rel => exact ⟨j + 1, by go_num, by omega, HBI.out⟩
            case measure => simp [intOf] <;> omega
      · obtain rfl : j = A0 := by omega
        have HR : Hid (Below w.heap.size w wr) := Lib.hid (HB6.out.trans (HBJ.out.mono HB6.out.size))
        have cz := HBOX.out wr HBJ.out
        have HB1 := Lib.hid (HBf x po mo co a b wr (HKp _ _ _ _ HO6.out HBJ.out) HK.out)
        obtain ⟨d, hd⟩ : ∃ d, hbI x a b = d := ⟨_, rfl⟩
        rw [hd] at HB1
        cases d with
        | false =>
          clear hd
          go_wp2_with (go_at_call 12; refine Hid.out ?_)
          refine Lib.hid ?_
          refine HB1.out.mono ?_
          rintro r w9 ⟨rfl, hb⟩
          have HR9 : Hid (Below w.heap.size w w9) := Lib.hid (HR.out.trans (hb.mono HR.out.size))
          clear hb HB1 cz
          go_wp2
          go_ret
          exact ⟨rfl, HR9.out⟩
        | true =>
          obtain ⟨h0, h1, h2⟩ := hbI_true hd
          rw [HXL.out] at h2
          clear hd
          go_wp2_with (go_at_call 12; refine Hid.out ?_)
          refine Lib.hid ?_
          refine HB1.out.mono ?_
          rintro r w9 ⟨rfl, hb⟩
          have HR9 : Hid (Below w.heap.size w w9) := Lib.hid (HR.out.trans (hb.mono HR.out.size))
          clear hb HB1 cz
          go_wp2
          go_ret
          exact ⟨rfl, HR9.out⟩
end Go.Proofs.Ytdcabhlgaecbiaa
