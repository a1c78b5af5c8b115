/- BraidSwaps: exchanged again and again where they may be: the same but for swaps; exchanged where they mayn't: not, unless they are the same events. -/
import Derived.Test.YtmhaelfmojigoaaWd
import Derived.Deep.RegionHeld3
import Derived.BigRegion
import Derived.BigQuiet
set_option linter.unusedSimpArgs false
set_option linter.unusedVariables false
namespace Go.Proofs.Ytmhaelfmojigoaa
open Go.RowKit

theorem xch_mem {α : Type} {x : List α} {k : Nat} {a b c : α} (ha : x[k]? = some a) (hb : x[k + 1]? = some b) (h : c ∈ xch x k) : c ∈ x := by
  obtain ⟨h1, h2⟩ := xch_split ha hb
  rw [h2] at h
  rw [h1]
  simp only [List.mem_append, List.mem_cons] at h ⊢
  rcases h with h | h | h | h
  · exact .inl h
  · exact .inr (.inr (.inl h))
  · exact .inr (.inl h)
  · exact .inr (.inr (.inr h))
theorem swap_no {y : Evl} {k : Nat} {ok d : Bool} {e f : Int × List (Int × Bool)} (he : y[k]? = some e) (hf : y[k + 1]? = some f) (hd : edep e f = d) (h : ok = true ↔ ∃ a b, y[k]? = some a ∧ y[k + 1]? = some b ∧ edep a b = false) : ok = !d := by
  rw [he, hf] at h
  cases d with
  | false => exact h.2 ⟨e, f, rfl, rfl, hd⟩
  | true =>
    cases ok with
    | false => rfl
    | true =>
      obtain ⟨a, b, h1, h2, h3⟩ := h.1 rfl
      rw [← Option.some.inj h1, ← Option.some.inj h2, hd] at h3
      exact absurd h3 (by decide)
set_option maxRecDepth 100000 in
set_option maxHeartbeats 16000000 in
theorem braidSwaps_any (HAw : AwB) (HSw : SwapC) (HSm : SameC) (HFo : FormC) (l : Evl) (at8 : List Nat) (n8 : Nat) (hn8 : n8 < 256) (v u : Value) (w : World) (hs : ES w v l) (hok : eok l) (hl : l.length ≤ 9223372036854775807) (hu : U8S w u at8) (hul : at8.length ≤ 9223372036854775807) (hu8 : ∀ n ∈ at8, n < 256) : Calls Try.prog 4 #[v, u, .int .u8 (n8 : Int)] w fun e w' => e = .returned (.bool true) ∧ Below w.heap.size w w' := by
  obtain ⟨pu, cu, rfl, hcu⟩ := hu.form
  obtain ⟨U, hU⟩ : ∃ U, at8.length = U := ⟨_, rfl⟩
  rw [hU] at hu hcu hul ⊢
  have HU := Lib.hid hu
  have HUL := Lib.hid hU
  have HU8 := Lib.hid hu8
  clear hu hU hu8
  obtain ⟨p0, cap0, rfl, hcap0⟩ := hs.form
  obtain ⟨A0, hA0⟩ : ∃ A, l.length = A := ⟨_, rfl⟩
  have HS := Lib.hid hs
  rw [hA0] at HS hcap0 hl ⊢
  have HA0 := Lib.hid hA0
  have HOK := Lib.hid hok
  clear hs hA0 hok
  go_enter Try.func4, Try.ntmps4
  go_wp2_with (go_at_call 9; refine Hid.out ?_)
  refine Lib.hid ?_
  refine (HAw _).mono ?_
  rintro e w1 ⟨rfl, hb⟩
  have HB1 := Lib.hid hb
  clear hb
  have HLT := light_any l 20 _ w1 (HS.out.kept HB1.out) (by rw [HA0.out]; exact hl)
  rw [show (l.all (fun e => decide (e.2.length ≤ 8)) && decide ((l.length : Int) ≤ 20)) = lgt l 20 from rfl] at HLT
  have HL := Lib.hid HLT
  clear HLT
  go_wp2_with (go_at_call 10; refine Hid.out ?_)
  refine Lib.hid ?_
  refine HL.out.mono ?_
  rintro e w2 ⟨rfl, hb⟩
  have HB2 : Hid (Below w.heap.size w w2) := Lib.hid (HB1.out.trans (hb.mono HB1.out.size))
  clear hb HL HB1
  obtain ⟨lt, hlt⟩ : ∃ b, lgt l 20 = b := ⟨_, rfl⟩
  rw [hlt]
  cases lt with
  | false =>
    clear hlt
    go_wp2
    go_ret
    exact ⟨rfl, HB2.out⟩
  | true =>
    obtain ⟨h8, hA24⟩ := lgt_true hlt
    have h24 : A0 ≤ 20 := by rw [HA0.out] at hA24; omega
    have HE1 := Lib.hid (events_any l _ w2 (HS.out.kept HB2.out) (by rw [HA0.out]; omega) HOK.out (fun e he => by have := h8 e he; omega))
    have HK := Lib.hid (evs_k (by rw [HA0.out]; omega) HOK.out h8)
    clear h8 hA24 hlt
    by_cases hA2 : A0 < 2
    · have hA2' : (A0 : Int) < 2 := by omega
      clear HE1
      go_wp2
      go_ret
      exact ⟨rfl, HB2.out⟩
    have hA2' : ¬ (A0 : Int) < 2 := by omega
    by_cases hU80 : 80 < U
    · have hU80' : (80 : Int) < (U : Int) := by omega
      clear HE1
      go_wp2
      go_ret
      exact ⟨rfl, HB2.out⟩
    have hU80' : ¬ (80 : Int) < (U : Int) := by omega
    go_wp2_with (go_at_call 11; refine Hid.out ?_)
    refine Lib.hid ?_
    refine HE1.out.mono ?_
    rintro e w3 ⟨v3, rfl, hv3, hb⟩
    have HB3 : Hid (Below w.heap.size w w3) := Lib.hid (HB2.out.trans (hb.mono HB2.out.size))
    clear hb HE1
    obtain ⟨x, hx⟩ : ∃ x, evs l = x := ⟨_, rfl⟩
    have hxl : x.length = A0 := by rw [← hx, evs_len, HA0.out]
    rw [hx] at HK hv3
    have HXL := Lib.hid hxl
    obtain ⟨p3, c3, hve, hc3⟩ : ∃ p c, v3 = .slice p A0 c ∧ A0 ≤ c := by
      obtain ⟨p, c, h1, h2, _⟩ := id hv3
      rw [hxl] at h1 h2
      exact ⟨p, c, h1, h2⟩
    subst hve
    have HV3 := Lib.hid hv3
    have HXE := Lib.hid hx
    clear hv3 hx hxl
    have HN8 := Lib.hid hn8
    clear hn8
    go_wp2
    go_loopw [8, 37] (fun s8 s37 wr => ∃ (i : Nat) (y : Evl), s37 = .int .i64 (i : Int) ∧ i ≤ U ∧ EvS wr s8 y ∧ Tr edep x y ∧ Below w3.heap.size w3 wr) (fun _ s _ => U - (intOf s).toNat)
    case atStart => exact ⟨0, x, rfl, by omega, HV3.out, Tr.refl x, Below.refl _ _⟩
    case round =>
      obtain ⟨i, y, rfl, hi, hy, ht, hb⟩ := hrel
      have hyl : y.length = A0 := by rw [← ht.len, HXL.out]
      obtain ⟨py, cy, hve, hcy⟩ : ∃ p c, u8 = .slice p A0 c ∧ A0 ≤ c := by
        obtain ⟨p, c, h1, h2, _⟩ := id hy
        rw [hyl] at h1 h2
        exact ⟨p, c, h1, h2⟩
      subst hve
      have HKY := Lib.hid (HK.out.tr ht)
      have HY := Lib.hid hy
      have HT := Lib.hid ht
      have HB := Lib.hid hb
      have HYL := Lib.hid hyl
      clear hy ht hb hyl
      obtain ⟨wz, rfl⟩ : ∃ wz, wz = wr := ⟨_, rfl⟩
      by_cases hiu : i < U
      · have hiu' : (i : Int) < (U : Int) := by omega
        obtain ⟨m8, hm8⟩ : ∃ n, at8[i]? = some n := ⟨_, List.getElem?_eq_getElem (by rw [HUL.out]; exact hiu)⟩
        have hm256 := HU8.out m8 (List.mem_of_getElem? hm8)
        obtain ⟨b8, o8, rfl, hb8, hr8⟩ := HU.out.one hm8
        have kw : Below w.heap.size w wz := HB3.out.trans (HB.out.mono HB3.out.size)
        have c8 := hr8 wz kw
        clear hm8 hb8 hr8 kw
        have hw8 : IntKind.i64.wrap (m8 : Int) = (m8 : Int) := by rw [IntKind.wrap_i64]; omega
        have hrm : (m8 : Int).tmod (A0 : Int) = ((m8 % A0 : Nat) : Int) := by rw [Int.tmod_eq_emod_of_nonneg (by omega)]; rfl
        have hA00 : ¬ (A0 : Int) = 0 := by omega
        obtain ⟨k, hk⟩ : ∃ k, m8 % A0 = k := ⟨_, rfl⟩
        rw [hk] at hrm
        have hkA : k < A0 := by rw [← hk]; exact Nat.mod_lt _ (by omega)
        have hwk : IntKind.i64.wrap (k : Int) = (k : Int) := by rw [IntKind.wrap_i64]; omega
        have hwk1 : IntKind.i64.wrap ((k : Int) + 1) = (k : Int) + 1 := by rw [IntKind.wrap_i64]; omega
        have HSW := Lib.hid (HSw y k _ wz HY.out HKY.out (by omega))
        clear hk hm256
        go_wp2_with (go_at_call 18; refine Hid.out ?_)
        refine Lib.hid ?_
        refine HSW.out.mono ?_
        rintro r w4 ⟨v4, ok, rfl, hok4, hv4, hb⟩
        have HB4 : Hid (Below w3.heap.size w3 w4) := Lib.hid (HB.out.trans (hb.mono HB.out.size))
        have HY4 := Lib.hid (HY.out.kept hb)
        clear hb HSW c8 hw8 hrm hA00
        by_cases hk1 : k + 1 < A0
        · have hk0' : (0 : Int) ≤ (k : Int) := by omega
          have hk1' : (0 : Int) ≤ (k : Int) + 1 := by omega
          have hk2' : (k : Int) < (A0 : Int) := by omega
          have hk3' : (k : Int) + 1 < (A0 : Int) := by omega
          have d1 : decide ((k : Int) + 1 < (A0 : Int)) = true := decide_eq_true hk3'
          obtain ⟨e, he⟩ : ∃ e, y[k]? = some e := ⟨_, List.getElem?_eq_getElem (by rw [HYL.out]; omega)⟩
          obtain ⟨f, hf⟩ : ∃ f, y[k + 1]? = some f := ⟨_, List.getElem?_eq_getElem (by rw [HYL.out]; omega)⟩
          obtain ⟨b0, o0, rfl, hbb, hr⟩ : ∃ b o, py = some ⟨b, o, Option.none⟩ ∧ b < w4.heap.size ∧ EvR w4 b o y := by
            obtain ⟨p, c, h1, _, _, h4⟩ := HY4.out
            simp only [Value.slice.injEq] at h1
            rcases h4 with ⟨_, h⟩ | ⟨b, o, h, h5, h6⟩
            · rw [h] at he; simp at he
            · exact ⟨b, o, by rw [h1.1, h], h5, h6⟩
          obtain ⟨qe, me, ce, hec⟩ := hr.at hbb he
          obtain ⟨qf, mf, cf, hfc⟩ := hr.at hbb hf
          have HEC := Lib.hid hec
          have HFC := Lib.hid hfc
          have he8 := Lib.hid (HKY.out.2 e (List.mem_of_getElem? he)).1
          have hf8 := Lib.hid (HKY.out.2 f (List.mem_of_getElem? hf)).1
          have HE := Lib.hid he
          have HF := Lib.hid hf
          have keep : ∀ W, Below w4.heap.size w4 W → (Below w4.heap.size w4 W ∧ W.cell? ⟨b0, o0 + k * 2, Option.none⟩ = some (.int .i64 e.1) ∧ W.cell? ⟨b0, o0 + k * 2 + 1, Option.none⟩ = some (.slice qe me ce) ∧ W.cell? ⟨b0, o0 + (k + 1) * 2, Option.none⟩ = some (.int .i64 f.1) ∧ W.cell? ⟨b0, o0 + (k + 1) * 2 + 1, Option.none⟩ = some (.slice qf mf cf)) := fun W kk => by
            obtain ⟨a1, a2, _⟩ := HEC.out W kk
            obtain ⟨a3, a4, _⟩ := HFC.out W kk
            exact ⟨kk, a1, a2, a3, a4⟩
          have K1 : Hid (∀ W, (Below w4.heap.size w4 W ∧ W.cell? ⟨b0, o0 + k * 2, Option.none⟩ = some (.int .i64 e.1) ∧ W.cell? ⟨b0, o0 + k * 2 + 1, Option.none⟩ = some (.slice qe me ce) ∧ W.cell? ⟨b0, o0 + (k + 1) * 2, Option.none⟩ = some (.int .i64 f.1) ∧ W.cell? ⟨b0, o0 + (k + 1) * 2 + 1, Option.none⟩ = some (.slice qf mf cf)) → Calls Try.prog 19 #[.agg #[.int .i64 e.1, .slice qe me ce], .agg #[.int .i64 f.1, .slice qf mf cf]] W fun r w' => r = .returned (.bool (edep e f)) ∧ (Below w4.heap.size w4 w' ∧ w'.cell? ⟨b0, o0 + k * 2, Option.none⟩ = some (.int .i64 e.1) ∧ w'.cell? ⟨b0, o0 + k * 2 + 1, Option.none⟩ = some (.slice qe me ce) ∧ w'.cell? ⟨b0, o0 + (k + 1) * 2, Option.none⟩ = some (.int .i64 f.1) ∧ w'.cell? ⟨b0, o0 + (k + 1) * 2 + 1, Option.none⟩ = some (.slice qf mf cf))) := Lib.hid fun W kk => by
            refine (depend_at e f _ _ W (HEC.out W kk.1).2.2 (HFC.out W kk.1).2.2 he8.out hf8.out).mono ?_
            rintro r w' ⟨rfl, hb⟩
            exact ⟨rfl, keep w' (kk.1.trans (hb.mono kk.1.size))⟩
          have hs0 := keep w4.drew ⟨rfl, rfl, rfl, Nat.le_refl _, fun _ _ => rfl⟩
          have HKEEP := Lib.hid keep
          obtain ⟨d, hd⟩ : ∃ d, edep e f = d := ⟨_, rfl⟩
          have hsw := swp_in (dep := edep) he hf
          have hokd := swap_no he hf hd hok4
          subst hokd
          rw [hd] at K1 hsw
          have HSX := Lib.hid hsw
          have HV4 := Lib.hid hv4
          clear he hf hr hec hfc keep hd hsw hok4 hv4
          cases d with
          | true =>
            simp only [Bool.not_true, Bool.false_eq_true, if_false] at HV4
            obtain ⟨p4, c4, hve⟩ : ∃ p c, v4 = .slice p 0 c := by
              obtain ⟨p, c, h1, _⟩ := HV4.out
              exact ⟨p, c, h1⟩
            subst hve
            go_wp2_with fail
            go_region_held3 (fun w' => (Below w4.heap.size w4 w' ∧ w'.cell? ⟨b0, o0 + k * 2, Option.none⟩ = some (.int .i64 e.1) ∧ w'.cell? ⟨b0, o0 + k * 2 + 1, Option.none⟩ = some (.slice qe me ce) ∧ w'.cell? ⟨b0, o0 + (k + 1) * 2, Option.none⟩ = some (.int .i64 f.1) ∧ w'.cell? ⟨b0, o0 + (k + 1) * 2 + 1, Option.none⟩ = some (.slice qf mf cf)))
              (first | exact hs0 | assumption)
              (first
                | (go_at_call 19; refine (K1.out _ (by assumption)).mono ?_; rintro r w' ⟨rfl, hsA⟩))
            have HZ7 : Hid (Below w3.heap.size w3 w') := Lib.hid (HB4.out.trans (hsA.1.mono HB4.out.size))
            have HY7 := Lib.hid (HY4.out.kept hsA.1)
            clear hsA hs0 K1
            rename_i hH
            clear hH
            go_wp2_with (go_at_call 20; refine Hid.out ?_)
            refine Lib.hid ?_
            refine (swap_in y k _ w' HY7.out (Nat.le_trans HKY.out.1 (by omega)) (by rw [HYL.out]; omega) HKY.out.mk8).mono ?_
            rintro r w8 ⟨v8, rfl, hv8, hb⟩
            have HZ8 : Hid (Below w3.heap.size w3 w8) := Lib.hid (HZ7.out.trans (hb.mono HZ7.out.size))
            have HV8 : Hid (EvS w8 v8 (swp edep y k)) := Lib.hid hv8
            have HT8 : Hid (Tr edep x (swp edep y k)) := Lib.hid (HT.out.trans (swp_tr y k))
            clear hv8 hb
            go_wp2
            go_roundw
            case rel => exact ⟨i + 1, _, by go_num, by omega, HV8.out, HT8.out, HZ8.out⟩
            case measure => simp [intOf]; omega
          | false =>
            simp only [Bool.not_false, if_true] at HV4
            go_wp2_with fail
            go_region_held3 (fun w' => (Below w4.heap.size w4 w' ∧ w'.cell? ⟨b0, o0 + k * 2, Option.none⟩ = some (.int .i64 e.1) ∧ w'.cell? ⟨b0, o0 + k * 2 + 1, Option.none⟩ = some (.slice qe me ce) ∧ w'.cell? ⟨b0, o0 + (k + 1) * 2, Option.none⟩ = some (.int .i64 f.1) ∧ w'.cell? ⟨b0, o0 + (k + 1) * 2 + 1, Option.none⟩ = some (.slice qf mf cf)))
              (first | exact hs0 | assumption)
              (first
                | (go_at_call 19; refine (K1.out _ (by assumption)).mono ?_; rintro r w' ⟨rfl, hsA⟩))
            have HZ6 : Hid (Below w3.heap.size w3 w') := Lib.hid (HB4.out.trans (hsA.1.mono HB4.out.size))
            have HY6 := Lib.hid (HY4.out.kept hsA.1)
            have HV6 := Lib.hid (HV4.out.kept hsA.1)
            clear hsA hs0 K1
            rename_i hH
            clear hH
            go_wp2_with (go_at_call 20; refine Hid.out ?_)
            refine Lib.hid ?_
            refine (swap_in y k _ w' HY6.out (Nat.le_trans HKY.out.1 (by omega)) (by rw [HYL.out]; omega) HKY.out.mk8).mono ?_
            rintro r w5 ⟨v5, rfl, hv5, hb⟩
            have HZ5 : Hid (Below w3.heap.size w3 w5) := Lib.hid (HZ6.out.trans (hb.mono HZ6.out.size))
            have hsx : swp edep y k = xch y k := by rw [HSX.out]; rfl
            rw [hsx] at hv5
            have htx : Tr edep y (xch y k) := by rw [← hsx]; exact swp_tr y k
            have hkx := HKY.out.tr htx
            have HEQ := equal_evs (xch y k) (xch y k) _ _ w5 (HV6.out.kept hb) hv5 (Nat.le_trans hkx.1 (by omega)) (Nat.le_trans hkx.1 (by omega)) hkx.mk8 hkx.mk8
            rw [decide_eq_true rfl] at HEQ
            have HEQ := Lib.hid HEQ
            have HY5 := Lib.hid (HY6.out.kept hb)
            clear hb hsx htx hkx hv5
            go_wp2_with (go_at_call 15; refine Hid.out ?_)
            refine Lib.hid ?_
            refine HEQ.out.mono ?_
            rintro r w7 ⟨rfl, hb⟩
            have HZ7 : Hid (Below w3.heap.size w3 w7) := Lib.hid (HZ5.out.trans (hb.mono HZ5.out.size))
            have HY7 := Lib.hid (HY5.out.kept hb)
            clear hb HEQ
            go_wp2_with (go_at_call 20; refine Hid.out ?_)
            refine Lib.hid ?_
            refine (swap_in y k _ w7 HY7.out (Nat.le_trans HKY.out.1 (by omega)) (by rw [HYL.out]; omega) HKY.out.mk8).mono ?_
            rintro r w8 ⟨v8, rfl, hv8, hb⟩
            have HZ8 : Hid (Below w3.heap.size w3 w8) := Lib.hid (HZ7.out.trans (hb.mono HZ7.out.size))
            have HV8 : Hid (EvS w8 v8 (swp edep y k)) := Lib.hid hv8
            have HT8 : Hid (Tr edep x (swp edep y k)) := Lib.hid (HT.out.trans (swp_tr y k))
            clear hv8 hb
            go_wp2
            go_roundw
            case rel => exact ⟨i + 1, _, by go_num, by omega, HV8.out, HT8.out, HZ8.out⟩
            case measure => simp [intOf]; omega
        · have hk0' : (0 : Int) ≤ (k : Int) := by omega
          have hk3' : ¬ (k : Int) + 1 < (A0 : Int) := by omega
          have d1 : decide ((k : Int) + 1 < (A0 : Int)) = false := decide_eq_false hk3'
          have hokd : ok = false := by
            cases ok with
            | false => rfl
            | true =>
              obtain ⟨a, b, h1, h2, h3⟩ := hok4.1 rfl
              have := (List.getElem?_eq_some_iff.1 h2).1
              rw [HYL.out] at this
              omega
          subst hokd
          simp only [Bool.false_eq_true, if_false] at hv4
          obtain ⟨p4, c4, hve⟩ : ∃ p c, v4 = .slice p 0 c := by
            obtain ⟨p, c, h1, _⟩ := hv4
            exact ⟨p, c, h1⟩
          subst hve
          clear hv4 hok4
          go_wp2_with fail
          go_quiet (fail)
          have HZ7 : Hid (Below w3.heap.size w3 (w4.drewN nq)) := Lib.hid (HB4.out.trans ⟨rfl, rfl, rfl, Nat.le_refl _, fun _ _ => rfl⟩)
          have HY7 : Hid (EvS (w4.drewN nq) (.slice py A0 cy) y) := Lib.hid (HY4.out.kept ⟨rfl, rfl, rfl, Nat.le_refl _, fun _ _ => rfl⟩)
          generalize w4.drewN nq = w7 at HZ7 HY7 ⊢
          go_wp2_with (go_at_call 20; refine Hid.out ?_)
          refine Lib.hid ?_
          refine (swap_out y k _ w7 HY7.out (Nat.le_trans HKY.out.1 (by omega)) (by rw [HYL.out]; omega) (by omega)).mono ?_
          rintro r w8 ⟨v8, rfl, hv8, hb⟩
          have HZ8 : Hid (Below w3.heap.size w3 w8) := Lib.hid (HZ7.out.trans (hb.mono HZ7.out.size))
          have HV8 : Hid (EvS w8 v8 (swp edep y k)) := Lib.hid hv8.evs
          have HT8 : Hid (Tr edep x (swp edep y k)) := Lib.hid (HT.out.trans (swp_tr y k))
          clear hv8 hb
          go_wp2
          go_roundw
          case rel => exact ⟨i + 1, _, by go_num, by omega, HV8.out, HT8.out, HZ8.out⟩
          case measure => simp [intOf]; omega
      · obtain rfl : i = U := by omega
        have HW5 : Hid (Below w.heap.size w wz) := Lib.hid (HB3.out.trans (HB.out.mono HB3.out.size))
        have HV5 := Lib.hid (HV3.out.kept HB.out)
        have hsm : smb x y = true := smb_iff.2 HT.out
        have HS1 := HSm x y _ _ wz HV5.out HY.out HK.out HKY.out
        rw [hsm] at HS1
        have HS1 := Lib.hid HS1
        clear hsm
        go_wp2_with (go_at_call 21; refine Hid.out ?_)
        refine Lib.hid ?_
        refine HS1.out.mono ?_
        rintro r w6 ⟨rfl, hb⟩
        have HW6 : Hid (Below w.heap.size w w6) := Lib.hid (HW5.out.trans (hb.mono HW5.out.size))
        have HV6 := Lib.hid (HV5.out.kept hb)
        have HY6 := Lib.hid (HY.out.kept hb)
        have HF1 := Lib.hid (HFo x _ w6 HV6.out HK.out)
        clear hb HS1
        go_wp2_with (go_at_call 16; refine Hid.out ?_)
        refine Lib.hid ?_
        refine HF1.out.mono ?_
        rintro r w7 ⟨v7, rfl, hv7, hb⟩
        have HW7 : Hid (Below w.heap.size w w7) := Lib.hid (HW6.out.trans (hb.mono HW6.out.size))
        have HV7 := Lib.hid (HV6.out.kept hb)
        have HY7 := Lib.hid (HY6.out.kept hb)
        have HN7 := Lib.hid hv7
        have HF2 := HFo y _ w7 HY7.out HKY.out
        rw [← tr_nf.1 HT.out] at HF2
        have HF2 := Lib.hid HF2
        clear hb HF1 hv7
        go_wp2_with (go_at_call 16; refine Hid.out ?_)
        refine Lib.hid ?_
        refine HF2.out.mono ?_
        rintro r w8 ⟨v8, rfl, hv8, hb⟩
        have HW8 : Hid (Below w.heap.size w w8) := Lib.hid (HW7.out.trans (hb.mono HW7.out.size))
        have HV8 := Lib.hid (HV7.out.kept hb)
        have HY8 := Lib.hid (HY7.out.kept hb)
        have hkn := HK.out.nf
        have HE2 := equal_evs _ _ _ _ w8 (HN7.out.kept hb) hv8 (Nat.le_trans hkn.1 (by omega)) (Nat.le_trans hkn.1 (by omega)) hkn.mk8 hkn.mk8
        rw [decide_eq_true rfl] at HE2
        have HE2 := Lib.hid HE2
        clear hb HF2 hv8 hkn
        go_wp2_with (go_at_call 15; refine Hid.out ?_)
        refine Lib.hid ?_
        refine HE2.out.mono ?_
        rintro r w9 ⟨rfl, hb⟩
        have HW9 : Hid (Below w.heap.size w w9) := Lib.hid (HW8.out.trans (hb.mono HW8.out.size))
        have HV9 := Lib.hid (HV8.out.kept hb)
        have HY9 := Lib.hid (HY8.out.kept hb)
        clear hb HE2
        have hn8 := HN8.out
        have hw8 : IntKind.i64.wrap (n8 : Int) = (n8 : Int) := by rw [IntKind.wrap_i64]; omega
        have hwm : IntKind.i64.wrap ((A0 : Int) - 1) = (A0 : Int) - 1 := by rw [IntKind.wrap_i64]; omega
        have hm0 : ¬ (A0 : Int) - 1 = 0 := by omega
        have hrm : (n8 : Int).tmod ((A0 : Int) - 1) = ((n8 % (A0 - 1) : Nat) : Int) := by
          rw [Int.tmod_eq_emod_of_nonneg (by omega), show (A0 : Int) - 1 = ((A0 - 1 : Nat) : Int) by omega]; rfl
        obtain ⟨k, hk⟩ : ∃ k, n8 % (A0 - 1) = k := ⟨_, rfl⟩
        rw [hk] at hrm
        have hkA : k + 1 < A0 := by have := Nat.mod_lt n8 (show 0 < A0 - 1 by omega); omega
        have hwk : IntKind.i64.wrap (k : Int) = (k : Int) := by rw [IntKind.wrap_i64]; omega
        have hwk1 : IntKind.i64.wrap ((k : Int) + 1) = (k : Int) + 1 := by rw [IntKind.wrap_i64]; omega
        have hk0 : (0 : Int) ≤ (k : Int) := by omega
        have hk1 : (0 : Int) ≤ (k : Int) + 1 := by omega
        have hk2 : (k : Int) < (A0 : Int) := by omega
        have hk3 : (k : Int) + 1 < (A0 : Int) := by omega
        obtain ⟨e, he⟩ : ∃ e, y[k]? = some e := ⟨_, List.getElem?_eq_getElem (by rw [HYL.out]; omega)⟩
        obtain ⟨f, hf⟩ : ∃ f, y[k + 1]? = some f := ⟨_, List.getElem?_eq_getElem (by rw [HYL.out]; omega)⟩
        obtain ⟨b0, o0, rfl, hbb, hr⟩ : ∃ b o, py = some ⟨b, o, Option.none⟩ ∧ b < w9.heap.size ∧ EvR w9 b o y := by
          obtain ⟨p, c, h1, _, _, h4⟩ := HY9.out
          simp only [Value.slice.injEq] at h1
          rcases h4 with ⟨_, h⟩ | ⟨b, o, h, h5, h6⟩
          · rw [h] at he; simp at he
          · exact ⟨b, o, by rw [h1.1, h], h5, h6⟩
        obtain ⟨qe, me, ce, hec⟩ := hr.at hbb he
        obtain ⟨qf, mf, cf, hfc⟩ := hr.at hbb hf
        have HEC := Lib.hid hec
        have HFC := Lib.hid hfc
        have he8 := Lib.hid (HKY.out.2 e (List.mem_of_getElem? he)).1
        have hf8 := Lib.hid (HKY.out.2 f (List.mem_of_getElem? hf)).1
        have HE := Lib.hid he
        have HF := Lib.hid hf
        have keep : ∀ W, Below w9.heap.size w9 W → (Below w9.heap.size w9 W ∧ W.cell? ⟨b0, o0 + k * 2, Option.none⟩ = some (.int .i64 e.1) ∧ W.cell? ⟨b0, o0 + k * 2 + 1, Option.none⟩ = some (.slice qe me ce) ∧ W.cell? ⟨b0, o0 + (k + 1) * 2, Option.none⟩ = some (.int .i64 f.1) ∧ W.cell? ⟨b0, o0 + (k + 1) * 2 + 1, Option.none⟩ = some (.slice qf mf cf)) := fun W kk => by
          obtain ⟨a1, a2, _⟩ := HEC.out W kk
          obtain ⟨a3, a4, _⟩ := HFC.out W kk
          exact ⟨kk, a1, a2, a3, a4⟩
        have K1 : Hid (∀ W, (Below w9.heap.size w9 W ∧ W.cell? ⟨b0, o0 + k * 2, Option.none⟩ = some (.int .i64 e.1) ∧ W.cell? ⟨b0, o0 + k * 2 + 1, Option.none⟩ = some (.slice qe me ce) ∧ W.cell? ⟨b0, o0 + (k + 1) * 2, Option.none⟩ = some (.int .i64 f.1) ∧ W.cell? ⟨b0, o0 + (k + 1) * 2 + 1, Option.none⟩ = some (.slice qf mf cf)) → Calls Try.prog 19 #[.agg #[.int .i64 e.1, .slice qe me ce], .agg #[.int .i64 f.1, .slice qf mf cf]] W fun r w' => r = .returned (.bool (edep e f)) ∧ (Below w9.heap.size w9 w' ∧ w'.cell? ⟨b0, o0 + k * 2, Option.none⟩ = some (.int .i64 e.1) ∧ w'.cell? ⟨b0, o0 + k * 2 + 1, Option.none⟩ = some (.slice qe me ce) ∧ w'.cell? ⟨b0, o0 + (k + 1) * 2, Option.none⟩ = some (.int .i64 f.1) ∧ w'.cell? ⟨b0, o0 + (k + 1) * 2 + 1, Option.none⟩ = some (.slice qf mf cf))) := Lib.hid fun W kk => by
          refine (depend_at e f _ _ W (HEC.out W kk.1).2.2 (HFC.out W kk.1).2.2 he8.out hf8.out).mono ?_
          rintro r w' ⟨rfl, hb⟩
          exact ⟨rfl, keep w' (kk.1.trans (hb.mono kk.1.size))⟩
        have hs0 := keep w9.drew ⟨rfl, rfl, rfl, Nat.le_refl _, fun _ _ => rfl⟩
        have HKEEP := Lib.hid keep
        have K2 : Hid (∀ W, (Below w9.heap.size w9 W ∧ W.cell? ⟨b0, o0 + k * 2, Option.none⟩ = some (.int .i64 e.1) ∧ W.cell? ⟨b0, o0 + k * 2 + 1, Option.none⟩ = some (.slice qe me ce) ∧ W.cell? ⟨b0, o0 + (k + 1) * 2, Option.none⟩ = some (.int .i64 f.1) ∧ W.cell? ⟨b0, o0 + (k + 1) * 2 + 1, Option.none⟩ = some (.slice qf mf cf)) → Calls Try.prog 22 #[.agg #[.int .i64 e.1, .slice qe me ce], .agg #[.int .i64 f.1, .slice qf mf cf]] W fun r w' => r = .returned (.bool (decide (e.1 = f.1) && decide (e.2 = f.2))) ∧ (Below w9.heap.size w9 w' ∧ w'.cell? ⟨b0, o0 + k * 2, Option.none⟩ = some (.int .i64 e.1) ∧ w'.cell? ⟨b0, o0 + k * 2 + 1, Option.none⟩ = some (.slice qe me ce) ∧ w'.cell? ⟨b0, o0 + (k + 1) * 2, Option.none⟩ = some (.int .i64 f.1) ∧ w'.cell? ⟨b0, o0 + (k + 1) * 2 + 1, Option.none⟩ = some (.slice qf mf cf))) := Lib.hid fun W kk => by
          refine (same_ev e.1 f.1 e.2 f.2 _ _ W (HEC.out W kk.1).2.2 (HFC.out W kk.1).2.2 he8.out hf8.out).mono ?_
          rintro r w' ⟨rfl, hb⟩
          exact ⟨rfl, keep w' (kk.1.trans (hb.mono kk.1.size))⟩
        obtain ⟨d, hd⟩ : ∃ d, edep e f = d := ⟨_, rfl⟩
        obtain ⟨s, hsd⟩ : ∃ s, (decide (e.1 = f.1) && decide (e.2 = f.2)) = s := ⟨_, rfl⟩
        rw [hd] at K1
        rw [hsd] at K2
        clear hk he hf hr hec hfc keep hd hsd
        cases d with
        | false =>
          clear K2
          go_wp2_with fail
          refine wp_region_held_drew (S := fun w' => (Below w9.heap.size w9 w' ∧ w'.cell? ⟨b0, o0 + k * 2, Option.none⟩ = some (.int .i64 e.1) ∧ w'.cell? ⟨b0, o0 + k * 2 + 1, Option.none⟩ = some (.slice qe me ce) ∧ w'.cell? ⟨b0, o0 + (k + 1) * 2, Option.none⟩ = some (.int .i64 f.1) ∧ w'.cell? ⟨b0, o0 + (k + 1) * 2 + 1, Option.none⟩ = some (.slice qf mf cf))) (by kernel_rfl) hs0 (fun hX1 => ?_)
          clear hX1
          refine wpAnyH_take (i := 0) (oi := ⟨_, _, _, _, _, _⟩) (v := .slice (some ⟨b0, o0, Option.none⟩) A0 cy) rfl (by kernel_rfl) (by kernel_rfl) (by kernel_rfl) (fun _ _ _ h => h) (Or.inl ⟨by rfl, fun w hSw => by go_simp⟩) hs0 ?_
          try simp only [Act.put, List.setIfInBounds_toArray, List.set_cons_zero, List.set_cons_succ]
          refine wpAnyH_take (i := 1) (oi := ⟨_, _, _, _, _, _⟩) (v := .int .i64 (k : Int)) rfl (by kernel_rfl) (by kernel_rfl) (by kernel_rfl) (fun _ _ _ h => h) (Or.inl ⟨by rfl, fun w hSw => by go_simp⟩) hs0 ?_
          try simp only [Act.put, List.setIfInBounds_toArray, List.set_cons_zero, List.set_cons_succ]
          refine wpAnyH_take (i := 2) (oi := ⟨_, _, _, _, _, _⟩) (v := .pointer (some ⟨b0, o0 + k * 2, Option.none⟩)) rfl (by kernel_rfl) (by kernel_rfl) (by kernel_rfl) (fun _ _ _ h => h) (Or.inl ⟨by rfl, fun w hSw => by go_simp⟩) hs0 ?_
          try simp only [Act.put, List.setIfInBounds_toArray, List.set_cons_zero, List.set_cons_succ]
          refine wpAnyH_take (i := 3) (oi := ⟨_, _, _, _, _, _⟩) (v := .agg #[.int .i64 e.1, .slice qe me ce]) rfl (by kernel_rfl) (by kernel_rfl) (by kernel_rfl) (fun _ _ _ h => h) (Or.inl ⟨by rfl, fun w hSw => by obtain ⟨_, z1, z2, z3, z4⟩ := hSw; go_simp⟩) hs0 ?_
          try simp only [Act.put, List.setIfInBounds_toArray, List.set_cons_zero, List.set_cons_succ]
          refine wpAnyH_take (i := 4) (oi := ⟨_, _, _, _, _, _⟩) (v := .slice (some ⟨b0, o0, Option.none⟩) A0 cy) rfl (by kernel_rfl) (by kernel_rfl) (by kernel_rfl) (fun _ _ _ h => h) (Or.inl ⟨by rfl, fun w hSw => by go_simp⟩) hs0 ?_
          try simp only [Act.put, List.setIfInBounds_toArray, List.set_cons_zero, List.set_cons_succ]
          refine wpAnyH_take (i := 5) (oi := ⟨_, _, _, _, _, _⟩) (v := .int .i64 (k : Int)) rfl (by kernel_rfl) (by kernel_rfl) (by kernel_rfl) (fun _ _ _ h => h) (Or.inl ⟨by rfl, fun w hSw => by go_simp⟩) hs0 ?_
          try simp only [Act.put, List.setIfInBounds_toArray, List.set_cons_zero, List.set_cons_succ]
          refine wpAnyH_take (i := 6) (oi := ⟨_, _, _, _, _, _⟩) (v := .int .i64 ((k : Int) + 1)) rfl (by kernel_rfl) (by kernel_rfl) (by kernel_rfl) (fun _ _ _ h => h) (Or.inl ⟨by rfl, fun w hSw => by go_simp⟩) hs0 ?_
          try simp only [Act.put, List.setIfInBounds_toArray, List.set_cons_zero, List.set_cons_succ]
          refine wpAnyH_take (i := 7) (oi := ⟨_, _, _, _, _, _⟩) (v := .pointer (some ⟨b0, o0 + (k + 1) * 2, Option.none⟩)) rfl (by kernel_rfl) (by kernel_rfl) (by kernel_rfl) (fun _ _ _ h => h) (Or.inl ⟨by rfl, fun w hSw => by go_simp⟩) hs0 ?_
          try simp only [Act.put, List.setIfInBounds_toArray, List.set_cons_zero, List.set_cons_succ]
          refine wpAnyH_take (i := 8) (oi := ⟨_, _, _, _, _, _⟩) (v := .agg #[.int .i64 f.1, .slice qf mf cf]) rfl (by kernel_rfl) (by kernel_rfl) (by kernel_rfl) (fun _ _ _ h => h) (Or.inl ⟨by rfl, fun w hSw => by obtain ⟨_, z1, z2, z3, z4⟩ := hSw; go_simp⟩) hs0 ?_
          try simp only [Act.put, List.setIfInBounds_toArray, List.set_cons_zero, List.set_cons_succ]
          refine wpAnyH_ready (rs := [9]) (by kernel_rfl) (by simp) ?_
          refine AllReadyH.cons (o := ⟨_, _, _, _, _, _⟩) rfl (fun K hK => ?_) AllReadyH.nil
          go_simp
          go_at_call 19
          refine (K1.out _ hs0).mono ?_
          rintro r w' ⟨rfl, hsA⟩
          refine hK.out _ _ hsA (fun hX2 => ?_)
          clear hX2
          clear hK K
          try simp only [Act.put, List.setIfInBounds_toArray, List.set_cons_zero, List.set_cons_succ]
          refine wpAnyH_take (i := 10) (oi := ⟨_, _, _, _, _, _⟩) (v := .bool true) rfl (by kernel_rfl) (by kernel_rfl) (by kernel_rfl) (fun _ _ _ h => h) (Or.inl ⟨by rfl, fun w hSw => by go_simp⟩) hsA ?_
          try simp only [Act.put, List.setIfInBounds_toArray, List.set_cons_zero, List.set_cons_succ]
          refine wpAnyH_take (i := 11) (oi := ⟨_, _, _, _, _, _⟩) (v := .bool true) rfl (by kernel_rfl) (by kernel_rfl) (by kernel_rfl) (fun _ _ _ h => h) (Or.inl ⟨by rfl, fun w hSw => by go_simp⟩) hsA ?_
          try simp only [Act.put, List.setIfInBounds_toArray, List.set_cons_zero, List.set_cons_succ]
          refine wpAnyH_take (i := 12) (oi := ⟨_, _, _, _, _, _⟩) (v := undef) rfl (by kernel_rfl) (by kernel_rfl) (by kernel_rfl) (fun _ _ _ h => h) (Or.inr ⟨by kernel_rfl, rfl⟩) hsA ?_
          try simp only [Act.put, List.setIfInBounds_toArray, List.set_cons_zero, List.set_cons_succ]
          refine wpAnyH_take (i := 13) (oi := ⟨_, _, _, _, _, _⟩) (v := undef) rfl (by kernel_rfl) (by kernel_rfl) (by kernel_rfl) (fun _ _ _ h => h) (Or.inr ⟨by kernel_rfl, rfl⟩) hsA ?_
          try simp only [Act.put, List.setIfInBounds_toArray, List.set_cons_zero, List.set_cons_succ]
          refine wpAnyH_take (i := 14) (oi := ⟨_, _, _, _, _, _⟩) (v := undef) rfl (by kernel_rfl) (by kernel_rfl) (by kernel_rfl) (fun _ _ _ h => h) (Or.inr ⟨by kernel_rfl, rfl⟩) hsA ?_
          try simp only [Act.put, List.setIfInBounds_toArray, List.set_cons_zero, List.set_cons_succ]
          refine wpAnyH_take (i := 15) (oi := ⟨_, _, _, _, _, _⟩) (v := undef) rfl (by kernel_rfl) (by kernel_rfl) (by kernel_rfl) (fun _ _ _ h => h) (Or.inr ⟨by kernel_rfl, rfl⟩) hsA ?_
          try simp only [Act.put, List.setIfInBounds_toArray, List.set_cons_zero, List.set_cons_succ]
          refine wpAnyH_take (i := 16) (oi := ⟨_, _, _, _, _, _⟩) (v := undef) rfl (by kernel_rfl) (by kernel_rfl) (by kernel_rfl) (fun _ _ _ h => h) (Or.inr ⟨by kernel_rfl, rfl⟩) hsA ?_
          try simp only [Act.put, List.setIfInBounds_toArray, List.set_cons_zero, List.set_cons_succ]
          refine wpAnyH_take (i := 17) (oi := ⟨_, _, _, _, _, _⟩) (v := undef) rfl (by kernel_rfl) (by kernel_rfl) (by kernel_rfl) (fun _ _ _ h => h) (Or.inr ⟨by kernel_rfl, rfl⟩) hsA ?_
          try simp only [Act.put, List.setIfInBounds_toArray, List.set_cons_zero, List.set_cons_succ]
          refine wpAnyH_take (i := 18) (oi := ⟨_, _, _, _, _, _⟩) (v := undef) rfl (by kernel_rfl) (by kernel_rfl) (by kernel_rfl) (fun _ _ _ h => h) (Or.inr ⟨by kernel_rfl, rfl⟩) hsA ?_
          try simp only [Act.put, List.setIfInBounds_toArray, List.set_cons_zero, List.set_cons_succ]
          refine wpAnyH_take (i := 19) (oi := ⟨_, _, _, _, _, _⟩) (v := undef) rfl (by kernel_rfl) (by kernel_rfl) (by kernel_rfl) (fun _ _ _ h => h) (Or.inr ⟨by kernel_rfl, rfl⟩) hsA ?_
          try simp only [Act.put, List.setIfInBounds_toArray, List.set_cons_zero, List.set_cons_succ]
          refine wpAnyH_take (i := 20) (oi := ⟨_, _, _, _, _, _⟩) (v := undef) rfl (by kernel_rfl) (by kernel_rfl) (by kernel_rfl) (fun _ _ _ h => h) (Or.inr ⟨by kernel_rfl, rfl⟩) hsA ?_
          try simp only [Act.put, List.setIfInBounds_toArray, List.set_cons_zero, List.set_cons_succ]
          refine wpAnyH_take (i := 21) (oi := ⟨_, _, _, _, _, _⟩) (v := undef) rfl (by kernel_rfl) (by kernel_rfl) (by kernel_rfl) (fun _ _ _ h => h) (Or.inr ⟨by kernel_rfl, rfl⟩) hsA ?_
          try simp only [Act.put, List.setIfInBounds_toArray, List.set_cons_zero, List.set_cons_succ]
          refine wpAnyH_take (i := 22) (oi := ⟨_, _, _, _, _, _⟩) (v := .bool true) rfl (by kernel_rfl) (by kernel_rfl) (by kernel_rfl) (fun _ _ _ h => h) (Or.inl ⟨by rfl, fun w hSw => by go_simp⟩) hsA ?_
          try simp only [Act.put, List.setIfInBounds_toArray, List.set_cons_zero, List.set_cons_succ]
          refine wpAnyH_done (by kernel_rfl) ?_ _
          have HWR : Hid (Below w.heap.size w w') := Lib.hid (HW9.out.trans (hsA.1.mono HW9.out.size))
          clear hsA hs0
          go_wp2
          go_ret
          exact ⟨rfl, HWR.out⟩
        | true =>
          go_wp2_with fail
          go_region_held3 (fun w' => (Below w9.heap.size w9 w' ∧ w'.cell? ⟨b0, o0 + k * 2, Option.none⟩ = some (.int .i64 e.1) ∧ w'.cell? ⟨b0, o0 + k * 2 + 1, Option.none⟩ = some (.slice qe me ce) ∧ w'.cell? ⟨b0, o0 + (k + 1) * 2, Option.none⟩ = some (.int .i64 f.1) ∧ w'.cell? ⟨b0, o0 + (k + 1) * 2 + 1, Option.none⟩ = some (.slice qf mf cf)))
            (first | exact hs0 | assumption)
            (first
              | (go_at_call 19; refine (K1.out _ (by assumption)).mono ?_; rintro r w' ⟨rfl, hsA⟩)
              | (go_at_call 22; refine (K2.out _ (by assumption)).mono ?_; rintro r w' ⟨rfl, hsB⟩))
          have HWR : Hid (Below w.heap.size w w') := Lib.hid (HW9.out.trans (hsB.1.mono HW9.out.size))
          have HVR := Lib.hid (HV9.out.kept hsB.1)
          have HYR := Lib.hid (HY9.out.kept hsB.1)
          clear hsA hsB hs0 K1 K2
          rename_i hH
          clear hH
          cases s with
          | true =>
            go_wp2
            go_ret
            exact ⟨rfl, HWR.out⟩
          | false =>
            have HCL := Lib.hid (clone_ev y _ w' HYR.out (by rw [HYL.out]; omega))
            go_wp2_with (go_at_call 23; refine Hid.out ?_)
            refine Lib.hid ?_
            refine HCL.out.mono ?_
            rintro r w4 ⟨v4, rfl, hi4, hb⟩
            have HB4 := Lib.hid hb
            have HI4 := Lib.hid hi4
            clear hb HCL
            obtain ⟨cs, hown, hce⟩ := hi4
            rcases id hown.2 with ⟨_, hn⟩ | ⟨g, cap', cur, rfl, hbg, hg, hn, hm, hz, ht⟩
            · rw [HYL.out] at hn; omega
            rw [HYL.out] at hn hown
            obtain ⟨u1, va, u2, ma, na⟩ := hce k e HE.out
            obtain ⟨u3, vb, u4, mb, nb⟩ := hce (k + 1) f HF.out
            obtain ⟨pa, ca, rfl, hpa⟩ := id ma
            obtain ⟨pb, cb, rfl, hpb⟩ := id mb
            clear hpa hpb
            have c0 : w4.cell? ⟨g, k * 2, Option.none⟩ = some (.int .i64 e.1) := by rw [hown.cellAt (k * 2) (by omega), u1]
            have c1 : w4.cell? ⟨g, k * 2 + 1, Option.none⟩ = some (.slice pa e.2.length ca) := by rw [hown.cellAt (k * 2 + 1) (by omega), u2]
            have c2 : w4.cell? ⟨g, (k + 1) * 2, Option.none⟩ = some (.int .i64 f.1) := by rw [hown.cellAt ((k + 1) * 2) (by omega), u3]
            have c3' : w4.cell? ⟨g, (k + 1) * 2 + 1, Option.none⟩ = some (.slice pb f.2.length cb) := by rw [hown.cellAt ((k + 1) * 2 + 1) (by omega), u4]
            have f0 := hown.frozenAt (k * 2)
            have f1 := hown.frozenAt (k * 2 + 1)
            have f2 := hown.frozenAt ((k + 1) * 2)
            have f3 := hown.frozenAt ((k + 1) * 2 + 1)
            have hgs : g < w4.heap.size := lt_of_block hg
            have hV := HI4.out
            rw [HYL.out] at hV
            have HE2 := Lib.hid (xch_ev hV HYL.out HE.out HF.out hn hm c0 c1 c2 c3' hgs)
            have HB5 : Hid (Below w'.heap.size w' ((((w4.setCell ⟨g, k * 2, Option.none⟩ (.int .i64 f.1)).setCell ⟨g, k * 2 + 1, Option.none⟩ (.slice pb f.2.length cb)).setCell ⟨g, (k + 1) * 2, Option.none⟩ (.int .i64 e.1)).setCell ⟨g, (k + 1) * 2 + 1, Option.none⟩ (.slice pa e.2.length ca)).drew) := Lib.hid (bd4 HB4.out hbg)
            rw [HYL.out]
            clear u1 u2 u3 u4 ma mb na nb hown hce hg hz ht hV
            go_wp2_with fail
            go_region
            generalize ((((w4.setCell ⟨g, k * 2, Option.none⟩ (.int .i64 f.1)).setCell ⟨g, k * 2 + 1, Option.none⟩ (.slice pb f.2.length cb)).setCell ⟨g, (k + 1) * 2, Option.none⟩ (.int .i64 e.1)).setCell ⟨g, (k + 1) * 2 + 1, Option.none⟩ (.slice pa e.2.length ca)).drew = w5 at HE2 HB5 ⊢
            clear c0 c1 c2 c3' f0 f1 f2 f3 hw8 hwm hm0 hrm hwk hgs hbg hn hm hk1 hk2 hk3 hwk1 hA2' hn8
            have HV5' := Lib.hid (HVR.out.kept HB5.out)
            have HW5' : Hid (Below w.heap.size w w5) := Lib.hid (HWR.out.trans (HB5.out.mono HWR.out.size))
            obtain ⟨z, hz⟩ : ∃ z, xch y k = z := ⟨_, rfl⟩
            have hzl : z.length = A0 := by rw [← hz, xch_len, HYL.out]
            have hkz : Evk z := HKY.out.sub (by rw [hzl]; omega) (fun c hc => by rw [← hz] at hc; exact xch_mem HE.out HF.out hc)
            rw [hz] at HE2
            have HKZ := Lib.hid hkz
            have HZL := Lib.hid hzl
            obtain ⟨q, hq⟩ : ∃ q, smb x z = q := ⟨_, rfl⟩
            have hq2 : decide (nf edep (·.1) x = nf edep (·.1) z) = q := hq
            have HQ2 := Lib.hid hq2
            have HS1 := HSm x z _ _ w5 HV5'.out HE2.out HK.out HKZ.out
            rw [hq] at HS1
            have HS1 := Lib.hid HS1
            have hqq : (q == q) = true := by simp
            clear hz hzl hkz hq hq2
            go_wp2_with (go_at_call 21; refine Hid.out ?_)
            refine Lib.hid ?_
            refine HS1.out.mono ?_
            rintro r w6 ⟨rfl, hb⟩
            have HW6' : Hid (Below w.heap.size w w6) := Lib.hid (HW5'.out.trans (hb.mono HW5'.out.size))
            have HV6' := Lib.hid (HV5'.out.kept hb)
            have HZ6' := Lib.hid (HE2.out.kept hb)
            have HF1 := Lib.hid (form_any x _ w6 HV6'.out (Nat.le_trans HK.out.1 (by omega)) HK.out.mk8)
            clear hb HS1
            go_wp2_with (go_at_call 17; refine Hid.out ?_)
            refine Lib.hid ?_
            refine HF1.out.mono ?_
            rintro r w7 ⟨v7, rfl, hv7, hb⟩
            have HW7' : Hid (Below w.heap.size w w7) := Lib.hid (HW6'.out.trans (hb.mono HW6'.out.size))
            have HZ7' := Lib.hid (HZ6'.out.kept hb)
            have HN7' := Lib.hid hv7
            have HF2 := Lib.hid (form_any z _ w7 HZ7'.out (Nat.le_trans HKZ.out.1 (by omega)) HKZ.out.mk8)
            clear hb HF1 hv7
            go_wp2_with (go_at_call 17; refine Hid.out ?_)
            refine Lib.hid ?_
            refine HF2.out.mono ?_
            rintro r w8 ⟨v8, rfl, hv8, hb⟩
            have HW8' : Hid (Below w.heap.size w w8) := Lib.hid (HW7'.out.trans (hb.mono HW7'.out.size))
            have hkn := HK.out.nf
            have hkm := HKZ.out.nf
            have HEQ := equal_evs _ _ _ _ w8 (HN7'.out.kept hb) hv8 (Nat.le_trans hkn.1 (by omega)) (Nat.le_trans hkm.1 (by omega)) hkn.mk8 hkm.mk8
            rw [HQ2.out] at HEQ
            have HEQ := Lib.hid HEQ
            clear hb HF2 hv8 hkn hkm
            go_wp2_with (go_at_call 15; refine Hid.out ?_)
            refine Lib.hid ?_
            refine HEQ.out.mono ?_
            rintro r w9' ⟨rfl, hb⟩
            have HW9' : Hid (Below w.heap.size w w9') := Lib.hid (HW8'.out.trans (hb.mono HW8'.out.size))
            clear hb HEQ
            go_wp2
            go_ret
            exact ⟨by simp, HW9'.out⟩
end Go.Proofs.Ytmhaelfmojigoaa
