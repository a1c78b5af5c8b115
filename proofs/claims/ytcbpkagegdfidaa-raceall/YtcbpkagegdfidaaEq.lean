/- Events, one by one the same. -/
import Derived.Test.YtcbpkagegdfidaaEk
import Derived.Test.YtcbpkagegdfidaaNb
import Derived.Test.YtcbpkagegdfidaaDe
set_option linter.unusedSimpArgs false
set_option linter.unusedVariables false
namespace Go.Proofs.Ytcbpkagegdfidaa
open Go.RowKit

set_option maxRecDepth 100000 in
set_option maxHeartbeats 6400000 in
theorem eqf_any (x y : List (Int × List (Int × Bool))) (v u : Value) (w : World) (hs : EvS w v x) (hu : EvS w u y) (hl : x.length ≤ 1000) (hl2 : y.length ≤ 1000) (h8 : ∀ e ∈ x, e.2.length ≤ 1000) (h9 : ∀ e ∈ y, e.2.length ≤ 1000) :
    Calls Try.prog 30 #[v, u, .func (.func 31) #[] #[]] w fun e w' => e = .returned (.bool (decide (x = y))) ∧ Below w.heap.size w w' := by
  obtain ⟨p, cap, rfl, hcap, hcm, h4⟩ := hs
  obtain ⟨q, cap2, rfl, hcap2, hcm2, h5⟩ := hu
  obtain ⟨A, hA⟩ : ∃ A, x.length = A := ⟨_, rfl⟩
  obtain ⟨B, hB⟩ : ∃ B, y.length = B := ⟨_, rfl⟩
  rw [hA] at hcap hl ⊢
  rw [hB] at hcap2 hl2 ⊢
  have HA := Lib.hid hA
  have HBL := Lib.hid hB
  have H4 := Lib.hid h4
  have H5 := Lib.hid h5
  have H8 := Lib.hid h8
  have H9 := Lib.hid h9
  clear hA hB h4 h5 h8 h9
  by_cases hAB : A = B
  · subst hAB
    go_enter Try.func30, Try.ntmps30
    go_wp2
    go_loopw [17] (fun s wr => ∃ (j : Nat), s = .int .i64 (j : Int) ∧ j ≤ A ∧ x.take j = y.take j ∧ Below w.heap.size w wr) (fun s _ => A - (intOf s).toNat)
    case atStart => exact ⟨0, rfl, by omega, by simp, Below.refl _ _⟩
    case round =>
      obtain ⟨j, rfl, hj, ht, hb⟩ := hrel
      have HT := Lib.hid ht
      have HB := Lib.hid hb
      clear ht hb
      by_cases hlt : j < A
      · obtain ⟨e, he⟩ : ∃ e, x[j]? = some e := ⟨_, List.getElem?_eq_getElem (by rw [HA.out]; exact hlt)⟩
        obtain ⟨f, hf⟩ : ∃ f, y[j]? = some f := ⟨_, List.getElem?_eq_getElem (by rw [HBL.out]; exact hlt)⟩
        obtain ⟨b0, o0, rfl, hbb, hr⟩ : ∃ b o, p = some ⟨b, o, Option.none⟩ ∧ b < w.heap.size ∧ EvR w b o x := by
          rcases H4.out with ⟨_, e⟩ | h
          · rw [e] at he; simp at he
          · exact h
        obtain ⟨b1, o1, rfl, hbb1, hr1⟩ : ∃ b o, q = some ⟨b, o, Option.none⟩ ∧ b < w.heap.size ∧ EvR w b o y := by
          rcases H5.out with ⟨_, e⟩ | h
          · rw [e] at hf; simp at hf
          · exact h
        obtain ⟨qf, mf, cf, hfc⟩ := hr.at hbb he
        obtain ⟨qg, mg, cg, hgc⟩ := hr1.at hbb1 hf
        obtain ⟨c1, c2, _⟩ := hfc wr HB.out
        obtain ⟨c3, c4, _⟩ := hgc wr HB.out
        have hle := H8.out e (List.mem_of_getElem? he)
        have hlf := H9.out f (List.mem_of_getElem? hf)
        have HC : Hid (∀ w', Below wr.heap.size wr w' → Calls Try.prog 31 #[.agg #[.int .i64 e.1, .slice qf mf cf], .agg #[.int .i64 f.1, .slice qg mg cg]] w' fun r w2 => r = .returned (.bool (decide (e.1 = f.1) && decide (e.2 = f.2))) ∧ Below w'.heap.size w' w2) := Lib.hid fun w' k => by
          have kw := HB.out.trans (k.mono HB.out.size)
          exact same_ev e.1 f.1 e.2 f.2 _ _ w' (hfc w' kw).2.2 (hgc w' kw).2.2 hle hlf
        have hef : (decide (e.1 = f.1) && decide (e.2 = f.2)) = decide (e = f) := by
          rw [← Bool.decide_and]; exact decide_eq_decide.2 Prod.ext_iff.symm
        rw [hef] at HC
        have HE := Lib.hid he
        have HF := Lib.hid hf
        have hb0 : b0 < wr.heap.size := Nat.lt_of_lt_of_le hbb HB.out.size
        have hb1 : b1 < wr.heap.size := Nat.lt_of_lt_of_le hbb1 HB.out.size
        clear he hf hr hr1 hfc hgc hle hlf hef
        generalize hd : decide (e = f) = d at HC
        have HD := Lib.hid hd
        clear hd
        go_wp2_with fail
        refine (HC.out _ ((below_alloc _ _).alloc (by simp) _)).mono ?_
        rintro ee w2 ⟨rfl, hb2⟩
        have HB2 : Hid (Below w.heap.size w w2) := Lib.hid (by
          have h1 := ((below_alloc wr (Obj.cells #[Value.int .i64 e.1, .slice qf mf cf] 38)).alloc (by simp) (Obj.cells #[Value.int .i64 f.1, .slice qg mg cg] 38)).trans (hb2.mono (by simp; omega))
          exact HB.out.trans (h1.mono HB.out.size))
        clear hb2 c1 c2 c3 c4
        cases d with
        | true =>
          have hef := of_decide_eq_true HD.out
          have HT2 : Hid (x.take (j + 1) = y.take (j + 1)) := Lib.hid (by
            rw [show x.take (j + 1) = x.take j ++ (x[j]?).toList from List.take_add_one, show y.take (j + 1) = y.take j ++ (y[j]?).toList from List.take_add_one, HT.out, HE.out, HF.out, hef])
          clear hef
          go_wp2
          go_roundw
          case rel => exact ⟨j + 1, by go_num, by omega, HT2.out, HB2.out⟩
          case measure => simp [intOf]; omega
        | false =>
          have hne : decide (x = y) = false := decide_eq_false fun h => of_decide_eq_false HD.out (by
            have h1 := HE.out; have h2 := HF.out; rw [h, h2] at h1; exact (Option.some.inj h1).symm)
          have HNE := Lib.hid hne
          clear hne
          go_wp2
          go_ret
          exact ⟨by rw [HNE.out]; rfl, HB2.out⟩
      · obtain rfl : j = A := by omega
        have hxy : decide (x = y) = true := decide_eq_true (by
          have := HT.out
          rwa [List.take_of_length_le (by rw [HA.out]; exact Nat.le_refl _), List.take_of_length_le (by rw [HBL.out]; exact Nat.le_refl _)] at this)
        have HXY := Lib.hid hxy
        clear hxy
        go_wp2
        go_ret
        exact ⟨by rw [HXY.out]; rfl, HB.out⟩
  · have hne : decide (x = y) = false := decide_eq_false fun h => hAB (by rw [← HA.out, ← HBL.out, h])
    have HNE := Lib.hid hne
    have hAB' : ¬ (A : Int) = (B : Int) := by omega
    clear hne
    go_enter Try.func30, Try.ntmps30
    go_wp2
    go_ret
    exact ⟨by rw [HNE.out]; rfl, Below.refl _ _⟩
set_option maxHeartbeats 1600000 in
/-- The law's Equal. -/
theorem equal_evs (x y : List (Int × List (Int × Bool))) (v u : Value) (w : World) (hs : EvS w v x) (hu : EvS w u y) (hl : x.length ≤ 1000) (hl2 : y.length ≤ 1000) (h8 : ∀ e ∈ x, e.2.length ≤ 1000) (h9 : ∀ e ∈ y, e.2.length ≤ 1000) :
    Calls Try.prog 16 #[v, u] w fun e w' => e = .returned (.bool (decide (x = y))) ∧ Below w.heap.size w w' := by
  have HC := Lib.hid (eqf_any x y v u w hs hu hl hl2 h8 h9)
  obtain ⟨d, hd⟩ : ∃ d, decide (x = y) = d := ⟨_, rfl⟩
  rw [hd] at HC ⊢
  clear hs hu hl hl2 h8 h9 hd
  go_enter Try.func16, Try.ntmps16
  go_wp2_with (go_at_call 30; refine Hid.out ?_)
  refine Lib.hid ?_
  refine HC.out.mono ?_
  rintro e w' ⟨rfl, hb⟩
  have HB := Lib.hid hb
  clear hb
  go_wp2
  go_ret
  exact ⟨rfl, HB.out⟩
end Go.Proofs.Ytcbpkagegdfidaa
