/- slices.Equal of places. -/
import Derived.Test.YtcbpkagegdfidaaCs
import Derived.BigQuiet
set_option linter.unusedSimpArgs false
set_option linter.unusedVariables false
namespace Go.Proofs.Ytcbpkagegdfidaa
open Go.RowKit

set_option maxRecDepth 100000 in
set_option maxHeartbeats 6400000 in
theorem equal_ns (x y : List Nat) (v u : Value) (w : World) (hs : NsS w v x) (hu : NsS w u y) (hl : x.length ≤ 1000) (hl2 : y.length ≤ 1000) :
    Calls Try.prog 21 #[v, u] w fun e w' => e = .returned (.bool (decide (x = y))) ∧ Below w.heap.size w w' := by
  obtain ⟨p, cap, rfl, hcap, h4⟩ := hs
  obtain ⟨q, cap2, rfl, hcap2, h5⟩ := hu
  obtain ⟨A, hA⟩ : ∃ A, x.length = A := ⟨_, rfl⟩
  obtain ⟨B, hB⟩ : ∃ B, y.length = B := ⟨_, rfl⟩
  rw [hA] at hcap hl ⊢
  rw [hB] at hcap2 hl2 ⊢
  have HA := Lib.hid hA
  have HBL := Lib.hid hB
  have H4 := Lib.hid h4
  have H5 := Lib.hid h5
  clear hA hB h4 h5
  by_cases hAB : A = B
  · subst hAB
    go_enter Try.func21, Try.ntmps21
    go_wp2
    go_loopw [13] (fun s wr => ∃ (j : Nat), s = .int .i64 (j : Int) ∧ j ≤ A ∧ x.take j = y.take j ∧ Below w.heap.size w wr) (fun s _ => A - (intOf s).toNat)
    case atStart => exact ⟨0, rfl, by omega, by simp, Below.refl _ _⟩
    case round =>
      obtain ⟨j, rfl, hj, ht, hb0⟩ := hrel
      have HT := Lib.hid ht
      have HB := Lib.hid hb0
      clear ht hb0
      by_cases hlt : j < A
      · obtain ⟨a, ha⟩ : ∃ a, x[j]? = some a := ⟨_, List.getElem?_eq_getElem (by rw [HA.out]; exact hlt)⟩
        obtain ⟨b, hb⟩ : ∃ b, y[j]? = some b := ⟨_, List.getElem?_eq_getElem (by rw [HBL.out]; exact hlt)⟩
        obtain ⟨b0, o0, rfl, hbb, hr⟩ : ∃ b o, p = some ⟨b, o, Option.none⟩ ∧ b < w.heap.size ∧ ∀ (i n : Nat), x[i]? = some n → w.cell? ⟨b, o + i, Option.none⟩ = some (.int .i64 (n : Int)) := by
          rcases H4.out with ⟨_, e⟩ | h
          · rw [e] at ha; simp at ha
          · exact h
        obtain ⟨b1, o1, rfl, hbb1, hr1⟩ : ∃ b o, q = some ⟨b, o, Option.none⟩ ∧ b < w.heap.size ∧ ∀ (i n : Nat), y[i]? = some n → w.cell? ⟨b, o + i, Option.none⟩ = some (.int .i64 (n : Int)) := by
          rcases H5.out with ⟨_, e⟩ | h
          · rw [e] at hb; simp at hb
          · exact h
        have c0 := (HB.out.cell (p := ⟨b0, _, Option.none⟩) hbb).trans (hr j a ha)
        have c1 := (HB.out.cell (p := ⟨b1, _, Option.none⟩) hbb1).trans (hr1 j b hb)
        have HXA := Lib.hid ha
        have HYB := Lib.hid hb
        clear ha hb hr hr1
        by_cases hab : a = b
        · subst hab
          have HT2 : Hid (x.take (j + 1) = y.take (j + 1)) := Lib.hid (by
            rw [show x.take (j + 1) = x.take j ++ (x[j]?).toList from List.take_add_one, show y.take (j + 1) = y.take j ++ (y[j]?).toList from List.take_add_one, HT.out, HXA.out, HYB.out])
          go_wp2
          go_quiet (fail)
          have HB2 : Hid (Below w.heap.size w (wr.drewN nq)) := Lib.hid (HB.out.trans ⟨rfl, rfl, rfl, Nat.le_refl _, fun _ _ => rfl⟩)
          generalize wr.drewN nq = w9 at HB2 ⊢
          clear c0 c1
          go_wp2
          go_roundw
          case rel => exact ⟨j + 1, by go_num, by omega, HT2.out, HB2.out⟩
          case measure => simp [intOf]; omega
        · have hne : decide (x = y) = false := decide_eq_false fun h => hab (by
            have h1 := HXA.out; have h2 := HYB.out; rw [h, h2] at h1; exact (Option.some.inj h1).symm)
          have HNE := Lib.hid hne
          have hab1 : ((a : Int) == (b : Int)) = false := by rw [beq_eq_false_iff_ne]; omega
          have hab2 : ¬ (a : Int) = (b : Int) := by omega
          clear hne
          go_wp2
          go_quiet (fail)
          have HB2 : Hid (Below w.heap.size w (wr.drewN nq)) := Lib.hid (HB.out.trans ⟨rfl, rfl, rfl, Nat.le_refl _, fun _ _ => rfl⟩)
          generalize wr.drewN nq = w9 at HB2 ⊢
          clear c0 c1
          go_wp2
          go_ret
          exact ⟨by rw [HNE.out]; rfl, HB2.out⟩
      · obtain rfl : j = A := by omega
        have hxy : decide (x = y) = true := decide_eq_true (by
          have := HT.out
          rwa [List.take_of_length_le (by rw [HA.out]; exact Nat.le_refl _), List.take_of_length_le (by rw [HBL.out]; exact Nat.le_refl _)] at this)
        have HXY := Lib.hid hxy
        clear hxy
        go_wp2
        go_ret
        exact ⟨by rw [HXY.out]; rfl, HB.out⟩
  · have hne : decide (x = y) = false := decide_eq_false fun h => hAB (by rw [← HA.out, ← HBL.out, h])
    have HNE := Lib.hid hne
    have hAB' : ¬ (A : Int) = (B : Int) := by omega
    clear hne
    go_enter Try.func21, Try.ntmps21
    go_wp2
    go_ret
    exact ⟨by rw [HNE.out]; rfl, Below.refl _ _⟩
end Go.Proofs.Ytcbpkagegdfidaa
