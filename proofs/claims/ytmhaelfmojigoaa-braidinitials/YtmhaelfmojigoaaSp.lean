/- The law's swap. -/
import Derived.Test.YtmhaelfmojigoaaXc
import Derived.Test.YtmhaelfmojigoaaNb
import Derived.Test.YtmhaelfmojigoaaEk
import Derived.Deep.RegionHeld3
import Derived.BigRegion
set_option linter.unusedSimpArgs false
set_option linter.unusedVariables false
namespace Go.Proofs.Ytmhaelfmojigoaa
open Go.RowKit

set_option maxRecDepth 100000 in
set_option maxHeartbeats 8000000 in
theorem swap_out (x : List (Int × List (Int × Bool))) (i : Nat) (v : Value) (w : World) (hs : EvS w v x) (hl : x.length ≤ 1000) (hi : x.length ≤ i + 1) (hi2 : i ≤ 1000) :
    Calls Try.prog 20 #[v, .int .i64 (i : Int)] w fun e w' => ∃ v', e = .returned v' ∧ EvI w' w.heap.size v' (swp edep x i) ∧ Below w.heap.size w w' := by
  have HC := Lib.hid (clone_ev x v w hs hl)
  obtain ⟨p, cap, rfl, hcap, hcm, h4⟩ := hs
  have HSW := Lib.hid (swp_out (dep := edep) hi)
  obtain ⟨A, hA⟩ : ∃ A, x.length = A := ⟨_, rfl⟩
  rw [hA] at HC hcap hl hi ⊢
  have hlt : decide ((i : Int) + 1 < (A : Int)) = false := decide_eq_false (by omega)
  have h0 : (0 : Int) ≤ (i : Int) := by omega
  clear h4 hA
  go_enter Try.func20, Try.ntmps20
  go_wp2_with (go_at_call 23; refine Hid.out ?_)
  refine Lib.hid ?_
  refine HC.out.mono ?_
  rintro e w1 ⟨v1, rfl, hv, hb⟩
  have HV := Lib.hid hv
  have HB := Lib.hid hb
  clear hv hb
  go_wp2_with fail
  go_quiet (fail)
  have HZ : Hid (EvI (w1.drewN nq) w.heap.size v1 (swp edep x i) ∧ Below w.heap.size w (w1.drewN nq)) := Lib.hid ⟨by rw [HSW.out]; exact HV.out.kept ⟨rfl, rfl, rfl, Nat.le_refl _, fun _ _ => rfl⟩, HB.out.trans ⟨rfl, rfl, rfl, Nat.le_refl _, fun _ _ => rfl⟩⟩
  generalize w1.drewN nq = w9 at HZ ⊢
  go_wp2
  go_ret
  exact ⟨_, rfl, HZ.out.1, HZ.out.2⟩
set_option maxRecDepth 100000 in
set_option maxHeartbeats 16000000 in
theorem swap_in (x : List (Int × List (Int × Bool))) (i : Nat) (v : Value) (w : World) (hs : EvS w v x) (hl : x.length ≤ 1000) (hi : i + 1 < x.length) (h8 : ∀ e ∈ x, e.2.length ≤ 1000) :
    Calls Try.prog 20 #[v, .int .i64 (i : Int)] w fun e w' => ∃ v', e = .returned v' ∧ EvS w' v' (swp edep x i) ∧ Below w.heap.size w w' := by
  have HC := Lib.hid (clone_ev x v w hs hl)
  obtain ⟨p, cap, rfl, hcap, hcm, h4⟩ := hs
  obtain ⟨e, he⟩ : ∃ e, x[i]? = some e := ⟨_, List.getElem?_eq_getElem (by omega)⟩
  obtain ⟨f, hf⟩ : ∃ f, x[i + 1]? = some f := ⟨_, List.getElem?_eq_getElem (by omega)⟩
  have hsw := swp_in (dep := edep) he hf
  obtain ⟨A, hA⟩ : ∃ A, x.length = A := ⟨_, rfl⟩
  rw [hA] at HC hcap hl hi ⊢
  obtain ⟨b0, o0, rfl, hbb, hr⟩ : ∃ b o, p = some ⟨b, o, Option.none⟩ ∧ b < w.heap.size ∧ EvR w b o x := by
    rcases h4 with ⟨_, h⟩ | h
    · rw [h] at he; simp at he
    · exact h
  obtain ⟨qf, mf, cf, hfc⟩ := hr.at hbb he
  obtain ⟨qg, mg, cg, hgc⟩ := hr.at hbb hf
  have hle := h8 e (List.mem_of_getElem? he)
  have hlf := h8 f (List.mem_of_getElem? hf)
  have HE := Lib.hid he
  have HF := Lib.hid hf
  have HSW := Lib.hid hsw
  have HA := Lib.hid hA
  have HFC := Lib.hid hfc
  have HGC := Lib.hid hgc
  have h0 : (0 : Int) ≤ (i : Int) := by omega
  have h1 : (i : Int) + 1 < (A : Int) := by omega
  have h2 : (i : Int) < (A : Int) := by omega
  have h3 : (0 : Int) ≤ (i : Int) + 1 := by omega
  have hw : IntKind.i64.wrap ((i : Int) + 1) = (i : Int) + 1 := by rw [IntKind.wrap_i64]; omega
  have d0 : decide ((0 : Int) ≤ (i : Int)) = true := decide_eq_true h0
  have d1 : decide ((i : Int) + 1 < (A : Int)) = true := decide_eq_true h1
  clear h4 he hf hr hA hsw hfc hgc h8
  go_enter Try.func20, Try.ntmps20
  go_wp2_with (go_at_call 23; refine Hid.out ?_)
  refine Lib.hid ?_
  refine HC.out.mono ?_
  rintro r w1 ⟨v1, rfl, hv, hb⟩
  have HV := Lib.hid hv
  have HB := Lib.hid hb
  have keep : ∀ W, Below w1.heap.size w1 W → (Below w1.heap.size w1 W ∧ W.cell? ⟨b0, o0 + i * 2, Option.none⟩ = some (.int .i64 e.1) ∧ W.cell? ⟨b0, o0 + i * 2 + 1, Option.none⟩ = some (.slice qf mf cf) ∧ W.cell? ⟨b0, o0 + (i + 1) * 2, Option.none⟩ = some (.int .i64 f.1) ∧ W.cell? ⟨b0, o0 + (i + 1) * 2 + 1, Option.none⟩ = some (.slice qg mg cg)) := fun W kk => by
    have kw := hb.trans (kk.mono hb.size)
    have g1 := HFC.out W kw
    have g2 := HGC.out W kw
    exact ⟨kk, g1.1, g1.2.1, g2.1, g2.2.1⟩
  have K2 : Hid (∀ W, (Below w1.heap.size w1 W ∧ W.cell? ⟨b0, o0 + i * 2, Option.none⟩ = some (.int .i64 e.1) ∧ W.cell? ⟨b0, o0 + i * 2 + 1, Option.none⟩ = some (.slice qf mf cf) ∧ W.cell? ⟨b0, o0 + (i + 1) * 2, Option.none⟩ = some (.int .i64 f.1) ∧ W.cell? ⟨b0, o0 + (i + 1) * 2 + 1, Option.none⟩ = some (.slice qg mg cg)) → Calls Try.prog 19 #[.agg #[.int .i64 e.1, .slice qf mf cf], .agg #[.int .i64 f.1, .slice qg mg cg]] W fun r w' => r = .returned (.bool (edep e f)) ∧ (Below w1.heap.size w1 w' ∧ w'.cell? ⟨b0, o0 + i * 2, Option.none⟩ = some (.int .i64 e.1) ∧ w'.cell? ⟨b0, o0 + i * 2 + 1, Option.none⟩ = some (.slice qf mf cf) ∧ w'.cell? ⟨b0, o0 + (i + 1) * 2, Option.none⟩ = some (.int .i64 f.1) ∧ w'.cell? ⟨b0, o0 + (i + 1) * 2 + 1, Option.none⟩ = some (.slice qg mg cg))) := Lib.hid fun W kk => by
    have kw := HB.out.trans (kk.1.mono HB.out.size)
    refine (depend_at e f _ _ W (HFC.out W kw).2.2 (HGC.out W kw).2.2 hle hlf).mono ?_
    rintro r w' ⟨rfl, hb⟩
    exact ⟨rfl, keep w' (kk.1.trans (hb.mono kk.1.size))⟩
  have hs0 := keep w1.drew ⟨rfl, rfl, rfl, Nat.le_refl _, fun _ _ => rfl⟩
  clear keep hv hb hle hlf HC
  obtain ⟨d, hd⟩ : ∃ d, edep e f = d := ⟨_, rfl⟩
  rw [hd] at K2 HSW
  clear hd
  go_wp2_with fail
  go_region_held3 (fun w' => (Below w1.heap.size w1 w' ∧ w'.cell? ⟨b0, o0 + i * 2, Option.none⟩ = some (.int .i64 e.1) ∧ w'.cell? ⟨b0, o0 + i * 2 + 1, Option.none⟩ = some (.slice qf mf cf) ∧ w'.cell? ⟨b0, o0 + (i + 1) * 2, Option.none⟩ = some (.int .i64 f.1) ∧ w'.cell? ⟨b0, o0 + (i + 1) * 2 + 1, Option.none⟩ = some (.slice qg mg cg)))
    (first | exact hs0 | assumption)
    (first
      | (go_at_call 19; refine (K2.out _ (by assumption)).mono ?_; rintro r w' ⟨rfl, hsA⟩))
  have KX : Hid (Below w1.heap.size w1 w') := Lib.hid hsA.1
  have HV2 : Hid (EvI w' w.heap.size v1 x) := Lib.hid (HV.out.kept hsA.1)
  have HB2 : Hid (Below w.heap.size w w') := Lib.hid (HB.out.trans (hsA.1.mono HB.out.size))
  clear hsA hs0
  cases d with
  | true =>
    have HSX : Hid (swp edep x i = x) := Lib.hid (by rw [HSW.out]; rfl)
    go_wp2
    go_ret
    exact ⟨_, rfl, by rw [HSX.out]; exact HV2.out.evs, HB2.out⟩
  | false =>
    have HSX : Hid (swp edep x i = xch x i) := Lib.hid (by rw [HSW.out]; rfl)
    obtain ⟨cs, hown, hce⟩ := HV2.out
    rcases id hown.2 with ⟨_, hn⟩ | ⟨g, cap', cur, rfl, hbg, hg, hn, hm, hz, ht⟩
    · rw [HA.out] at hn; omega
    · have HX := Lib.hid HA.out
      rw [HA.out] at hn hown
      obtain ⟨u1, va, u2, ma, na⟩ := hce i e HE.out
      obtain ⟨u3, vb, u4, mb, nb⟩ := hce (i + 1) f HF.out
      obtain ⟨pa, ca, rfl, _⟩ := id ma
      obtain ⟨pb, cb, rfl, _⟩ := id mb
      have c0 : w'.cell? ⟨g, i * 2, Option.none⟩ = some (.int .i64 e.1) := by rw [hown.cellAt (i * 2) (by omega), u1]
      have c1 : w'.cell? ⟨g, i * 2 + 1, Option.none⟩ = some (.slice pa e.2.length ca) := by rw [hown.cellAt (i * 2 + 1) (by omega), u2]
      have c2 : w'.cell? ⟨g, (i + 1) * 2, Option.none⟩ = some (.int .i64 f.1) := by rw [hown.cellAt ((i + 1) * 2) (by omega), u3]
      have c3 : w'.cell? ⟨g, (i + 1) * 2 + 1, Option.none⟩ = some (.slice pb f.2.length cb) := by rw [hown.cellAt ((i + 1) * 2 + 1) (by omega), u4]
      have f0 := hown.frozenAt (i * 2)
      have f1 := hown.frozenAt (i * 2 + 1)
      have f2 := hown.frozenAt ((i + 1) * 2)
      have f3 := hown.frozenAt ((i + 1) * 2 + 1)
      have hgs : g < w'.heap.size := lt_of_block hg
      have hV := HV2.out
      rw [HA.out] at hV
      have HE2 := Lib.hid (xch_ev hV HA.out HE.out HF.out hn hm c0 c1 c2 c3 hgs)
      have HB3 : Hid (Below w.heap.size w ((((w'.setCell ⟨g, i * 2, Option.none⟩ (.int .i64 f.1)).setCell ⟨g, i * 2 + 1, Option.none⟩ (.slice pb f.2.length cb)).setCell ⟨g, (i + 1) * 2, Option.none⟩ (.int .i64 e.1)).setCell ⟨g, (i + 1) * 2 + 1, Option.none⟩ (.slice pa e.2.length ca)).drew) := Lib.hid (bd4 HB2.out hbg)
      clear u1 u2 u3 u4 ma mb na nb hown hce hg hz ht hV
      rw [HX.out]
      go_wp2_with fail
      go_region
      generalize ((((w'.setCell ⟨g, i * 2, Option.none⟩ (.int .i64 f.1)).setCell ⟨g, i * 2 + 1, Option.none⟩ (.slice pb f.2.length cb)).setCell ⟨g, (i + 1) * 2, Option.none⟩ (.int .i64 e.1)).setCell ⟨g, (i + 1) * 2 + 1, Option.none⟩ (.slice pa e.2.length ca)).drew = X at HE2 HB3 ⊢
      clear c0 c1 c2 c3 f0 f1 f2 f3
      go_wp2
      go_ret
      exact ⟨_, rfl, by rw [HSX.out]; exact HE2.out, HB3.out⟩
end Go.Proofs.Ytmhaelfmojigoaa
