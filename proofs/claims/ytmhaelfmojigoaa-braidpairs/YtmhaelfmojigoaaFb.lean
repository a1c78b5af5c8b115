/- What comes in besides: slices of bytes. -/
import Derived.Test.YtmhaelfmojigoaaWd
import Derived.ProofKit
import Derived.OpenShut
import Derived.Deep.DeepHandedRow
import Derived.Deep.Slices
import Derived.Deep.Fields
import Derived.Lib.LaidTab
import Derived.Lib.SmallJoins
set_option linter.unusedSimpArgs false
set_option linter.unusedVariables false
namespace Go.Proofs.Ytmhaelfmojigoaa
open Go.ChangeShapes Go.WideShapes Go.ChangeAt Go.RowKit Go.Deep

theorem cellsU : Try.prog.cellsOf 5 = 1 := by kernel_rfl
theorem lt_cell {w : World} {a : Addr} {v : Value} (h : w.cell? a = some v) : a.block < w.heap.size := by
  rcases Nat.lt_or_ge a.block w.heap.size with hlt | hge
  · exact hlt
  · simp [World.cell?, Array.getElem?_eq_none hge] at h
theorem cell_plain {W : World} {a : Addr} {v : Value} (h : W.cell? a = some v) : a = ⟨a.block, a.off, Option.none⟩ := by
  unfold World.cell? at h
  split at h
  · split at h
    · cases h
    · rename_i hs
      cases a with
      | mk b o s =>
        simp only at hs ⊢
        cases s with
        | none => rfl
        | some _ => simp at hs
  · cases h
theorem lists_of {α : Type} {p : Nat → α → Prop} : ∀ n : Nat, (∀ i, i < n → ∃ a, p i a) → ∃ l : List α, l.length = n ∧ ∀ i a, l[i]? = some a → p i a := by
  intro n
  induction n with
  | zero => intro _; exact ⟨[], rfl, by simp⟩
  | succ n ih =>
    intro h
    obtain ⟨l, hl, hp⟩ := ih fun i hi => h i (by omega)
    obtain ⟨a, ha⟩ := h n (by omega)
    refine ⟨l ++ [a], by simp [hl], fun i b hb => ?_⟩
    by_cases hi : i < l.length
    · rw [List.getElem?_append_left hi] at hb; exact hp i b hb
    · rw [List.getElem?_append_right (by omega)] at hb
      have : i - l.length = 0 := by
        have := (List.getElem?_eq_some_iff.1 hb).1
        simp at this; omega
      rw [this] at hb
      simp only [List.getElem?_cons_zero, Option.some.injEq] at hb
      subst hb
      rw [show i = n by omega]
      exact ha
section
variable {H : Type} {enc : TypeId × Value → H} {W : World} {base : Nat} {spare : Nat → Bool} {held : Bool}
/-- A slice of bytes. -/
theorem open_bs {q : Option Addr} {n c : Nat} {d : DataW H} {p : List MemPlace} (h : DataW.Trod enc Try.prog W base spare held 33 (.slice q n c) d p) : ∃ l, U8S W (.slice q n c) l ∧ l.length ≤ 9223372036854775807 ∧ ∀ k ∈ l, k < 256 := by
  obtain ⟨fuel, hf0⟩ := h
  have hf : DataW.trod enc Try.prog W base spare held fuel 33 [.slice q n c] = some (d, p) := hf0
  rcases open_slice Try.underlying33 hf with ⟨hcs, _⟩ | ⟨a, len, cap, m, n, D, Pl, hcs, hb, hl, hm, hmm, _, hx⟩
  · simp only [List.cons.injEq, and_true] at hcs
    rw [hcs]
    exact ⟨[], .inl ⟨rfl, rfl⟩, by simp, by intro x hx; simp at hx⟩
  · simp only [List.cons.injEq, and_true] at hcs
    rw [hcs]
    rw [cellsU] at hx
    have hel : ∀ i, i < len → ∃ s : Nat, s < 256 ∧ W.cell? (a.add (i * 1)) = some (.int .u8 (s : Int)) := by
      intro i hi
      obtain ⟨cs', h1, h2⟩ := hx i (by rw [hmm]; split <;> omega)
      obtain ⟨_, hcl, hat⟩ := World.cells?_some h1
      obtain ⟨z, e0, _, f0⟩ := DataW.trod_int Try.underlying5 h2
      have hb8 := bounds_u8 f0
      refine ⟨z.toNat, by omega, ?_⟩
      have := hat 0 (by omega)
      rw [Go.Deep.add_add, Nat.add_zero] at this
      rw [this, e0, show ((z.toNat : Nat) : Int) = z by omega]
      rfl
    obtain ⟨l, hll, hlp⟩ := lists_of len hel
    refine ⟨l, .inr ⟨a, cap, by rw [hll], by omega, hm, fun hne => ?_⟩, by rw [hll]; unfold maxLen at hm; omega, fun k hk => ?_⟩
    · have hpos : 0 < l.length := List.length_pos_iff.2 hne
      have h0 := (hlp 0 l[0] (List.getElem?_eq_getElem hpos)).2
      have ha0 : a.add (0 * 1) = a := rfl
      rw [ha0] at h0
      have hpl := cell_plain h0
      refine ⟨a.block, a.off, hpl, lt_cell h0, fun i x hi => ?_⟩
      have hk := (hlp i x hi).2
      rw [hpl, add_lit, Nat.mul_one] at hk
      exact hk
    · obtain ⟨i, hi⟩ := List.getElem?_of_mem hk
      exact (hlp i k hi).1
end
end Go.Proofs.Ytmhaelfmojigoaa
