/- clock's Order.Before. -/
import Derived.Test.YtcbpkagegdfidaaGn
set_option linter.unusedSimpArgs false
set_option linter.unusedVariables false
namespace Go.Proofs.Ytcbpkagegdfidaa
open Go.RowKit

theorem hbI_neg {x : Evl} {i j : Int} (h : ¬ (0 ≤ i ∧ i < j ∧ j < x.length)) : hbI x i j = false := by
  rw [← Bool.not_eq_true]
  exact fun e => h (hbI_true e)

set_option maxRecDepth 100000 in
set_option maxHeartbeats 8000000 in
theorem befO : BefO ObS := by
  intro x p m c i j w ho hk
  obtain ⟨p', c', hpe, h2⟩ := ho
  simp only [Value.slice.injEq] at hpe
  obtain ⟨rfl, rfl, rfl⟩ := hpe
  have hk60 := hk.1
  obtain ⟨A, hA⟩ : ∃ A, x.length = A := ⟨_, rfl⟩
  rw [hA] at h2 hk60 ⊢
  have HA := Lib.hid hA
  have H2 := Lib.hid h2
  clear h2 hk
  by_cases h0 : 0 ≤ i
  · by_cases h1 : i < j
    · by_cases h3 : j < (A : Int)
      · obtain ⟨ni, rfl⟩ : ∃ n : Nat, i = (n : Int) := ⟨i.toNat, by omega⟩
        obtain ⟨nj, rfl⟩ : ∃ n : Nat, j = (n : Int) := ⟨j.toNat, by omega⟩
        obtain ⟨b, o, rfl, hb, hr⟩ : ∃ b o, p = some ⟨b, o, Option.none⟩ ∧ b < w.heap.size ∧ ∀ j, j < A → ∃ u, w.cell? ⟨b, o + j, Option.none⟩ = some u ∧ RwO w u (fun k => hbd edep x k j) j := by
          rcases H2.out with h | h
          · omega
          · exact h
        obtain ⟨u, hu, B, n, rfl, hB, hn, ht, hc⟩ := hr nj (by omega)
        rw [rwl_pos (by omega)] at hu
        have hba := below_alloc w (Obj.cells #[Value.slice (some ⟨b, o, Option.none⟩) A c] 58)
        have hga := heap_alloc_new w (Obj.cells #[Value.slice (some ⟨b, o, Option.none⟩) A c] 58)
        have c0 : (w.alloc (Obj.cells #[Value.slice (some ⟨b, o, Option.none⟩) A c] 58)).cell? ⟨w.heap.size, 0, Option.none⟩ = some (.slice (some ⟨b, o, Option.none⟩) A c) := by rw [cell_of_row _ _ _ _ _ _ hga]; rfl
        have c1 := (hba.cell (p := ⟨b, o + nj, Option.none⟩) hb).trans hu
        have HH := Lib.hid (has_any n ni B 0 1 _ (by omega) hn ((hba.cell (p := ⟨B, 0, Option.none⟩) hB).trans (hc (by omega))))
        have HT : Hid (n.testBit ni = hbI x (ni : Int) (nj : Int)) := Lib.hid (by rw [ht, hbI_nat])
        have HBA := Lib.hid hba
        clear hu hc hr ht hga hba
        go_enter Try.func27, Try.ntmps27
        go_wp2_with (go_at_call 40; refine HH.out.mono ?_; rintro e w1 ⟨rfl, rfl⟩)
        go_ret
        exact ⟨by rw [← HT.out]; rfl, HBA.out⟩
      · have HT : Hid (hbI x i j = false) := Lib.hid (hbI_neg (by rw [HA.out]; omega))
        have hba := below_alloc w (Obj.cells #[Value.slice p A c] 58)
        have hga := heap_alloc_new w (Obj.cells #[Value.slice p A c] 58)
        have c0 : (w.alloc (Obj.cells #[Value.slice p A c] 58)).cell? ⟨w.heap.size, 0, Option.none⟩ = some (.slice p A c) := by rw [cell_of_row _ _ _ _ _ _ hga]; rfl
        have HBA := Lib.hid hba
        clear hga hba
        go_enter Try.func27, Try.ntmps27
        go_wp2
        go_ret
        exact ⟨by rw [HT.out]; rfl, HBA.out⟩
    · have HT : Hid (hbI x i j = false) := Lib.hid (hbI_neg (by omega))
      have HBA := Lib.hid (below_alloc w (Obj.cells #[Value.slice p A c] 58))
      go_enter Try.func27, Try.ntmps27
      go_wp2
      go_ret
      exact ⟨by rw [HT.out]; rfl, HBA.out⟩
  · have HT : Hid (hbI x i j = false) := Lib.hid (hbI_neg (by omega))
    have HBA := Lib.hid (below_alloc w (Obj.cells #[Value.slice p A c] 58))
    go_enter Try.func27, Try.ntmps27
    go_wp2
    go_ret
    exact ⟨by rw [HT.out]; rfl, HBA.out⟩
end Go.Proofs.Ytcbpkagegdfidaa
