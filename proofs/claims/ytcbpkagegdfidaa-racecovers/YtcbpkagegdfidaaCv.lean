/- Pure: what happens ahead of what is just what races, and the order of each thread's events, tell. -/
import Derived.Test.YtcbpkagegdfidaaRc
set_option linter.unusedSimpArgs false
set_option linter.unusedVariables false
namespace Go.Proofs.Ytcbpkagegdfidaa
open Go.RowKit

/-- One step: of one thread, or a race. -/
def crs (x : Evl) (k j : Nat) : Prop := k < j ∧ ∃ a b, x[k]? = some a ∧ x[j]? = some b ∧ (a.1 = b.1 ∨ (k, j) ∈ racs edep (·.1) x x.length)
theorem hb_crs {x : Evl} {i j : Nat} : Hb edep x i j ↔ ∃ k, crs x k j ∧ (k = i ∨ Hb edep x i k) := by
  rw [hb_covers (thr := fun a => a.1) dep_thr]
  constructor
  · rintro ⟨k, h1, h2, h3⟩
    refine ⟨k, ⟨h2, ?_⟩, h1⟩
    rcases h3 with h3 | ⟨a, b, ha, hb, hab⟩
    · obtain ⟨_, a, b, ha, hb, _⟩ := id h3
      exact ⟨a, b, ha, hb, .inr (mem_racs.2 ⟨(List.getElem?_eq_some_iff.1 hb).1, h3⟩)⟩
    · exact ⟨a, b, ha, hb, .inl hab⟩
  · rintro ⟨k, ⟨h2, a, b, ha, hb, h3⟩, h1⟩
    refine ⟨k, h1, h2, ?_⟩
    rcases h3 with h3 | h3
    · exact .inr ⟨a, b, ha, hb, h3⟩
    · exact .inl (mem_racs.1 h3).2
/-- Behind the places from n on: which are marked. -/
def cvd (x : Evl) (j n q : Nat) : Prop := ∃ k, n ≤ k ∧ crs x k j ∧ (k = q ∨ q ∈ ahd edep x k)
theorem cvd_top (x : Evl) (j q : Nat) : ¬ cvd x j j q := by
  rintro ⟨k, h1, h2, _⟩
  have := h2.1
  omega
theorem cvd_step {x : Evl} {j n q : Nat} : cvd x j n q ↔ cvd x j (n + 1) q ∨ (crs x n j ∧ (n = q ∨ q ∈ ahd edep x n)) := by
  constructor
  · rintro ⟨k, h1, h2, h3⟩
    by_cases hk : k = n
    · subst hk; exact .inr ⟨h2, h3⟩
    · exact .inl ⟨k, by omega, h2, h3⟩
  · rintro (⟨k, h1, h2, h3⟩ | ⟨h2, h3⟩)
    · exact ⟨k, by omega, h2, h3⟩
    · exact ⟨n, Nat.le_refl _, h2, h3⟩
/-- At the end just what happens ahead is marked. -/
theorem cvd_end {x : Evl} {j q : Nat} : cvd x j 0 q ↔ q ∈ ahd edep x j := by
  rw [mem_ahd, hb_crs]
  unfold cvd
  constructor
  · rintro ⟨k, _, h2, h3⟩
    exact ⟨k, h2, h3.imp id fun h => mem_ahd.1 h⟩
  · rintro ⟨k, h2, h3⟩
    exact ⟨k, Nat.zero_le _, h2, h3.imp id fun h => mem_ahd.2 h⟩
end Go.Proofs.Ytcbpkagegdfidaa
