/- slices.Clone of events. -/
import Derived.Test.YtcbpkagegdfidaaEw
set_option linter.unusedSimpArgs false
set_option linter.unusedVariables false
namespace Go.Proofs.Ytcbpkagegdfidaa
open Go.RowKit

theorem ev_half {x : List (Int × List (Int × Bool))} {j : Nat} (h : j < x.length * 2) : ∃ e, x[j / 2]? = some e := ⟨_, List.getElem?_eq_getElem (by omega)⟩
/-- What lies there, cell by cell. -/
def cellsAt (w : World) (b o n : Nat) : List Value := (List.range n).map fun j => (w.cell? ⟨b, o + j, Option.none⟩).getD (.bool false)
theorem cellsAt_get {w : World} {b o n j : Nat} {u : Value} (hj : j < n) (h : w.cell? ⟨b, o + j, Option.none⟩ = some u) : (cellsAt w b o n)[j]? = some u := by
  unfold cellsAt
  rw [List.getElem?_map, List.getElem?_range hj]
  simp [h]
theorem EvR.cell {w : World} {b o : Nat} {x : List (Int × List (Int × Bool))} (h : EvR w b o x) {j : Nat} (hj : j < x.length * 2) : ∃ u, w.cell? ⟨b, o + j, Option.none⟩ = some u ∧ u.oneCell' = true := by
  obtain ⟨e, he⟩ := ev_half hj
  obtain ⟨h1, u, h2, h3⟩ := h _ e he
  obtain ⟨pu, cu, hue, _⟩ := id h3
  rcases Nat.mod_two_eq_zero_or_one j with hm | hm
  · exact ⟨_, by rw [show o + j = o + j / 2 * 2 by omega]; exact h1, rfl⟩
  · exact ⟨u, by rw [show o + j = o + j / 2 * 2 + 1 by omega]; exact h2, by rw [hue]; rfl⟩
theorem clone_ev (x : List (Int × List (Int × Bool))) (v : Value) (w : World) (hs : EvS w v x) (hl : x.length ≤ 1000) : Calls Try.prog 18 #[v] w fun e w' => ∃ v', e = .returned v' ∧ EvI w' w.heap.size v' x ∧ Below w.heap.size w w' := by
  obtain ⟨p, cap, rfl, hcap, hcm, h4⟩ := hs
  rcases h4 with ⟨rfl, rfl⟩ | ⟨b, o, rfl, hb, hr⟩
  · refine (Try.slices_Clone_nil_f18 0 cap w).mono ?_
    rintro e w' ⟨rfl, rfl⟩
    exact ⟨_, rfl, EvI.nil _ _, Below.refl _ _⟩
  · obtain ⟨i0, hi, hz, hsz, hby⟩ := ev_info
    have hlen : (cellsAt w b o (x.length * 2)).length = x.length * 2 := by simp [cellsAt]
    have hat : ∀ (j : Nat) u, (cellsAt w b o (x.length * 2))[j]? = some u → w.cell? ⟨b, o + j, Option.none⟩ = some u := by
      intro j u hu
      have hj : j < x.length * 2 := by rw [← hlen]; exact (List.getElem?_eq_some_iff.1 hu).1
      obtain ⟨u', h1, _⟩ := hr.cell hj
      rw [cellsAt_get hj h1] at hu
      rw [h1, hu]
    have hone : ∀ u ∈ cellsAt w b o (x.length * 2), u.oneCell' = true := by
      intro u hu
      obtain ⟨j, hj⟩ := List.mem_iff_getElem?.1 hu
      have hjl : j < x.length * 2 := by rw [← hlen]; exact (List.getElem?_eq_some_iff.1 hj).1
      obtain ⟨u', h1, h2⟩ := hr.cell hjl
      rw [cellsAt_get hjl h1] at hj
      cases hj
      exact h2
    refine (Try.slices_Clone_f18 i0 _ 2 32 hi hz hsz hby rfl (by omega) Try.sizeOf38 b o x.length cap _ w hlen (by unfold maxLen; omega) (by omega) hat hone).mono ?_
    rintro e w' ⟨v', rfl, hown, _, hbel⟩
    refine ⟨v', rfl, ⟨_, hown, fun i e he => ?_⟩, hbel⟩
    have hi2 := (List.getElem?_eq_some_iff.1 he).1
    obtain ⟨h1, u, h2, h3⟩ := hr i e he
    refine ⟨cellsAt_get (by omega) h1, u, cellsAt_get (by omega) (by rw [← Nat.add_assoc]; exact h2), h3.kept hbel, fun q hq e => ?_⟩
    have := h3.blk hq
    have := (hown.lt q e).1
    omega
end Go.Proofs.Ytcbpkagegdfidaa
