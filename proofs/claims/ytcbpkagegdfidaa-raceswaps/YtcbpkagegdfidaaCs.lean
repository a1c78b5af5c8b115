/- A slice of places in memory. -/
import Derived.Test.YtcbpkagegdfidaaEw
import Derived.Test.YtcbpkagegdfidaaAh
set_option linter.unusedSimpArgs false
set_option linter.unusedVariables false
namespace Go.Proofs.Ytcbpkagegdfidaa
open Go.RowKit

/-- A slice of places. -/
def NsS (w : World) (u : Value) (L : List Nat) : Prop := ∃ p cap, u = .slice p L.length cap ∧ L.length ≤ cap ∧ ((p = Option.none ∧ L = []) ∨ ∃ b o, p = some ⟨b, o, Option.none⟩ ∧ b < w.heap.size ∧ ∀ (i n : Nat), L[i]? = some n → w.cell? ⟨b, o + i, Option.none⟩ = some (.int .i64 (n : Int)))
theorem NsS.kept {w w' : World} {u : Value} {L : List Nat} (h : NsS w u L) (k : Below w.heap.size w w') : NsS w' u L := by
  obtain ⟨p, cap, h1, h2, h4⟩ := h
  refine ⟨p, cap, h1, h2, ?_⟩
  rcases h4 with h4 | ⟨b, o, hp, hb, hr⟩
  · exact .inl h4
  · exact .inr ⟨b, o, hp, Nat.lt_of_lt_of_le hb k.size, fun i n hi => (k.cell (p := ⟨b, _, Option.none⟩) hb).trans (hr i n hi)⟩
end Go.Proofs.Ytcbpkagegdfidaa
