/- An event appended to a row of the call's own, and where the row lies then. -/
import Derived.Test.YtcbpkagegdfidaaEw
set_option linter.unusedSimpArgs false
set_option linter.unusedVariables false
namespace Go.Proofs.Ytcbpkagegdfidaa
open Go.RowKit

/-- An event appended. -/
theorem app_ev2 (W : World) (base : Nat) (v u : Value) (x : List (Int × List (Int × Bool))) (t : Int) (m : List (Int × Bool)) (h : EvI W base v x) (hl : x.length ≤ 1000) (hb : base ≤ W.heap.size) (a : Addr) (h0 : W.cell? (a.add 0) = some (.int .i64 t)) (h1 : W.cell? (a.add 1) = some u) (hu : MkS W u m) (hq : ∀ q, u.ownBlock = some q → v.ownBlock ≠ some q) :
    ∃ v' w', (∀ ty, (Builtin.append_ #[25, 25] ty #[v, .slice (some a) 1 1]).run Try.prog W = .ok v' w') ∧ EvI w' base v' (x ++ [(t, m)]) ∧ W.grownBy w' v.ownBlock ∧ (v'.ownBlock = v.ownBlock ∨ v'.ownBlock = some W.heap.size) := by
  obtain ⟨i0, hi, hz, hs, hby⟩ := ev_info
  obtain ⟨cs, hown, hc⟩ := h
  obtain ⟨pu, cu, hue, _⟩ := id hu
  have hn : ∀ j c, ([Value.int .i64 t, u] : List Value)[j]? = some c → W.cell? (a.add j) = some c := by
    intro j c hj
    match j with
    | 0 => simp at hj; rw [← hj]; exact h0
    | 1 => simp at hj; rw [← hj]; exact h1
    | j + 2 => simp at hj
  have hone : ∀ c ∈ ([Value.int .i64 t, u] : List Value), c.oneCell' = true := by
    intro c hc
    simp only [List.mem_cons, List.not_mem_nil, or_false] at hc
    rcases hc with rfl | rfl
    · rfl
    · rw [hue]; rfl
  have key := fun ty => run_append_own_at (P := Try.prog) W base 25 ty 38 i0 _ 2 32 Try.underlying25 hi hz hs hby rfl (by omega) v x.length cs hown a 1 1 [Value.int .i64 t, u] rfl hn hone (by unfold maxLen; omega) (by omega) hb
  obtain ⟨v', w', hr, ho, hg, _, hat⟩ := key 0
  have hlen : cs.length = x.length * 2 := hown.1
  have hne : ∀ {c : Value} {mm : List (Int × Bool)}, MkS W c mm → (∀ q, c.ownBlock = some q → v.ownBlock ≠ some q) → MkS w' c mm ∧ ∀ q, c.ownBlock = some q → v'.ownBlock ≠ some q := fun {c mm} hc hcq => by
    refine ⟨hc.grown hg hcq, fun q hq e => ?_⟩
    rcases hat with hat | hat
    · exact hcq q hq (hat ▸ e)
    · rw [hat] at e
      have := hc.blk hq
      have := Option.some.inj e
      omega
  refine ⟨v', w', fun ty => ?_, ⟨cs ++ [Value.int .i64 t, u], by simpa using ho, fun i e hi => ?_⟩, hg, hat⟩
  · obtain ⟨v2, w2, hr2, _⟩ := key ty
    exact hr
  · by_cases hix : i < x.length
    · rw [List.getElem?_append_left hix] at hi
      obtain ⟨h3, c, h4, h5, h6⟩ := hc i e hi
      obtain ⟨g1, g2⟩ := hne h5 h6
      exact ⟨by rw [List.getElem?_append_left (by omega)]; exact h3, c, by rw [List.getElem?_append_left (by omega)]; exact h4, g1, g2⟩
    · rw [List.getElem?_append_right (by omega)] at hi
      have hi0 : i - x.length = 0 := by
        have := (List.getElem?_eq_some_iff.1 hi).1
        simp at this; omega
      rw [hi0] at hi
      simp only [List.getElem?_cons_zero, Option.some.injEq] at hi
      subst hi
      have hie : i = x.length := by omega
      subst hie
      obtain ⟨g1, g2⟩ := hne hu hq
      refine ⟨?_, u, ?_, g1, g2⟩
      · rw [List.getElem?_append_right (by omega), show x.length * 2 - cs.length = 0 by omega]; rfl
      · rw [List.getElem?_append_right (by omega), show x.length * 2 + 1 - cs.length = 1 by omega]; rfl
end Go.Proofs.Ytcbpkagegdfidaa
