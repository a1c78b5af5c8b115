/- braid.Same: are the forms the same? -/
import Derived.Test.YtmhaelfmojigoaaZf
import Derived.Test.YtmhaelfmojigoaaEq
set_option linter.unusedSimpArgs false
set_option linter.unusedVariables false
namespace Go.Proofs.Ytmhaelfmojigoaa
open Go.RowKit

theorem EvS.form2 {w : World} {v : Value} {x : Evl} (h : EvS w v x) : ∃ p cap, v = .slice p x.length cap := by
  obtain ⟨p, cap, h1, _⟩ := h
  exact ⟨p, cap, h1⟩
set_option maxRecDepth 100000 in
set_option maxHeartbeats 8000000 in
theorem same_o (x y : Evl) (v u : Value) (w : World) (hs : EvS w v x) (hu : EvS w u y) (hk : Evk x) (hk2 : Evk y) : Calls Try.prog 21 #[v, u] w fun e w' => e = .returned (.bool (decide (nf edep (·.1) x = nf edep (·.1) y))) ∧ Below w.heap.size w w' := by
  have HC1 := Lib.hid (form_o x v w hs hk)
  have HC2 := Lib.hid fun w' (k : Below w.heap.size w w') => form_o y u w' (hu.kept k) hk2
  have HKN := Lib.hid (And.intro hk.nf hk2.nf)
  obtain ⟨p, cap, rfl⟩ := hs.form2
  obtain ⟨q, cap2, rfl⟩ := hu.form2
  obtain ⟨A, hA⟩ : ∃ A, x.length = A := ⟨_, rfl⟩
  obtain ⟨B, hB⟩ : ∃ B, y.length = B := ⟨_, rfl⟩
  have hne : A ≠ B → decide (nf edep (·.1) x = nf edep (·.1) y) = false := fun h => decide_eq_false fun e => by
    have := congrArg List.length e
    rw [nf_len, nf_len] at this
    omega
  rw [hA] at HC1 ⊢
  rw [hB] at HC2 ⊢
  obtain ⟨d, hd⟩ : ∃ d, decide (nf edep (·.1) x = nf edep (·.1) y) = d := ⟨_, rfl⟩
  rw [hd] at hne ⊢
  have HD := Lib.hid hd
  clear hs hu hk hk2 hA hB hd
  by_cases hAB : A = B
  · subst hAB
    clear hne
    go_enter Try.func21, Try.ntmps21
    go_wp2_with (go_at_call 16; refine Hid.out ?_)
    refine Lib.hid ?_
    refine HC1.out.mono ?_
    rintro e w1 ⟨v1, rfl, hv1, hb1⟩
    have HV1 := Lib.hid hv1
    have HB1 := Lib.hid hb1
    have HC3 := Lib.hid (HC2.out w1 hb1)
    obtain ⟨p1, c1, rfl⟩ := hv1.form2
    clear HC1 HC2 hv1 hb1
    go_wp2_with (go_at_call 16; refine Hid.out ?_)
    refine Lib.hid ?_
    refine HC3.out.mono ?_
    rintro e w2 ⟨v2, rfl, hv2, hb2⟩
    have hkn := HKN.out
    have hE := eqf_any _ _ _ _ w2 (HV1.out.kept hb2) hv2 (Nat.le_trans hkn.1.1 (by omega)) (Nat.le_trans hkn.2.1 (by omega)) hkn.1.mk8 hkn.2.mk8
    rw [HD.out] at hE
    have HE := Lib.hid hE
    have HB2 : Hid (Below w.heap.size w w2) := Lib.hid (HB1.out.trans (hb2.mono HB1.out.size))
    clear hv2 hb2 hkn hE HC3
    go_wp2_with (go_at_call 37; refine Hid.out ?_)
    refine Lib.hid ?_
    refine HE.out.mono ?_
    rintro e w3 ⟨rfl, hb3⟩
    have HB3 : Hid (Below w.heap.size w w3) := Lib.hid (HB2.out.trans (hb3.mono HB2.out.size))
    clear hb3
    go_wp2
    go_ret
    exact ⟨rfl, HB3.out⟩
  · rw [hne hAB]
    have hnz : ¬ (A : Int) = (B : Int) := by omega
    have hzd : decide ((A : Int) = (B : Int)) = false := decide_eq_false hnz
    have hzb : ((A : Int) == (B : Int)) = false := by simp; omega
    clear hne HC1 HC2
    go_enter Try.func21, Try.ntmps21
    go_wp2
    go_ret
    exact ⟨rfl, Below.refl _ _⟩
end Go.Proofs.Ytmhaelfmojigoaa
