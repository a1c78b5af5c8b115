/- What comes in: slices of events by small numbers, slices of bytes; a world for the witness: what all laws of this seat share on the way from the walk to the statement. -/
import Derived.Test.YtcbpkagegdfidaaRows
import Derived.Test.YtcbpkagegdfidaaEw
import Derived.ProofKit
import Derived.OpenShut
import Derived.Deep.DeepHandedRow
import Derived.Deep.Slices
import Derived.Deep.Fields
import Derived.Lib.LaidTab
set_option linter.unusedSimpArgs false
set_option linter.unusedVariables false
namespace Go.Proofs.Ytcbpkagegdfidaa
open Go.ChangeShapes Go.WideShapes Go.ChangeAt Go.RowKit Go.Deep

theorem own : ownKnob Try.prog.godebug = Option.none := by kernel_rfl
theorem laidOut : laidOutB Try.prog = true := by kernel_rfl
noncomputable def laidWorld (os : Os) : World := World.holding Try.prog os ⟨#[], #[], []⟩
theorem cellsE : Try.prog.cellsOf 54 = 2 := by kernel_rfl
theorem cellsT : Try.prog.cellsOf 72 = 2 := by kernel_rfl
theorem cellsI8 : Try.prog.cellsOf 70 = 1 := by kernel_rfl
theorem cellsB : Try.prog.cellsOf 4 = 1 := by kernel_rfl
theorem cellsU8 : Try.prog.cellsOf 5 = 1 := by kernel_rfl
theorem cellsTs : Try.prog.cellsOf 52 = 1 := by kernel_rfl
theorem lt_of_cell' {w : World} {a : Addr} {v : Value} (h : w.cell? a = some v) : a.block < w.heap.size := by
  rcases Nat.lt_or_ge a.block w.heap.size with hlt | hge
  · exact hlt
  · simp [World.cell?, Array.getElem?_eq_none hge] at h
theorem addr_plain {W : World} {a : Addr} {v : Value} (h : W.cell? a = some v) : a = ⟨a.block, a.off, Option.none⟩ := by
  unfold World.cell? at h
  split at h
  · split at h
    · cases h
    · rename_i hs
      cases a with
      | mk b o s =>
        simp only at hs ⊢
        cases s with
        | none => rfl
        | some _ => simp at hs
  · cases h
theorem nat_u8 {x : Int} (h : (Lit.int .u8 x).wf = true) : ∃ n : Nat, x = (n : Int) ∧ n < 256 := by
  have hb := bounds_u8 h
  exact ⟨x.toNat, by omega, by omega⟩
/-- So many elements of which each is something are a list of such. -/
theorem list_of {α : Type} {p : Nat → α → Prop} : ∀ n : Nat, (∀ i, i < n → ∃ a, p i a) → ∃ l : List α, l.length = n ∧ ∀ i a, l[i]? = some a → p i a := by
  intro n
  induction n with
  | zero => intro _; exact ⟨[], rfl, by simp⟩
  | succ n ih =>
    intro h
    obtain ⟨l, hl, hp⟩ := ih fun i hi => h i (by omega)
    obtain ⟨a, ha⟩ := h n (by omega)
    refine ⟨l ++ [a], by simp [hl], fun i b hb => ?_⟩
    by_cases hi : i < l.length
    · rw [List.getElem?_append_left hi] at hb; exact hp i b hb
    · rw [List.getElem?_append_right (by omega)] at hb
      have : i - l.length = 0 := by
        have := (List.getElem?_eq_some_iff.1 hb).1
        simp at this; omega
      rw [this] at hb
      simp only [List.getElem?_cons_zero, Option.some.injEq] at hb
      subst hb
      rw [show i = n by omega]
      exact ha
theorem take_one (cs : List Value) (j : Nat) (h : j < cs.length) : (cs.drop j).take 1 = [cs[j]] := by
  rw [List.drop_eq_getElem_cons h]; rfl
section
variable {H : Type} {enc : TypeId × Value → H} {W : World} {base : Nat} {spare : Nat → Bool} {held : Bool}
/-- A slice of touches. -/
theorem open_tc {v : Value} {fuel : Nat} {d : DataW H} {p : List MemPlace} (hf : DataW.trod enc Try.prog W base spare held fuel 52 [v] = some (d, p)) : ∃ l, TcS W v l ∧ sml l := by
  rcases open_slice Try.underlying52 hf with ⟨hcs, _⟩ | ⟨a, len, cap, m, n, D, Pl, hcs, hb, hl, hm, hmm, _, hx⟩
  · simp only [List.cons.injEq, and_true] at hcs
    rw [hcs]
    exact ⟨[], .inl ⟨rfl, rfl⟩, by intro x hx; simp at hx⟩
  · simp only [List.cons.injEq, and_true] at hcs
    rw [hcs]
    rw [cellsT] at hx
    have hel : ∀ i, i < len → ∃ s : Int × Bool, (-128 ≤ s.1 ∧ s.1 ≤ 127) ∧ W.cell? (a.add (i * 2)) = some (.int .i8 s.1) ∧ W.cell? (a.add (i * 2 + 1)) = some (.bool s.2) := by
      intro i hi
      obtain ⟨cs', h1, h2⟩ := hx i (by rw [hmm]; split <;> omega)
      obtain ⟨_, hcl, hat⟩ := World.cells?_some h1
      obtain ⟨ys, n', _, _, _, hyl, hfl⟩ := DataW.trod_struct Try.underlying72 h2
      simp only [List.size_toArray, List.length_cons, List.length_nil, Nat.zero_add] at hyl
      have g0 : DataW.trod enc Try.prog W base spare held n' 70 ((cs'.drop 0).take (Try.prog.cellsOf 70)) = ys[0]? := hfl 0 _ rfl
      rw [cellsI8, take_one cs' 0 (by omega), List.getElem?_eq_getElem (show 0 < ys.length by omega)] at g0
      obtain ⟨z, e0, _, f0⟩ := DataW.trod_int Try.underlying70 g0
      have g1 : DataW.trod enc Try.prog W base spare held n' 4 ((cs'.drop 1).take (Try.prog.cellsOf 4)) = ys[1]? := hfl 1 _ rfl
      rw [cellsB, take_one cs' 1 (by omega), List.getElem?_eq_getElem (show 1 < ys.length by omega)] at g1
      obtain ⟨b, e1, _⟩ := DataW.trod_bool Try.underlying4 g1
      simp only [List.cons.injEq, and_true] at e0 e1
      refine ⟨(z, b), bounds_i8 f0, ?_, ?_⟩
      · have := hat 0 (by omega)
        rw [Go.Deep.add_add, Nat.add_zero] at this
        rw [this, List.getElem?_eq_getElem (show 0 < cs'.length by omega), e0]
      · have := hat 1 (by omega)
        rw [Go.Deep.add_add] at this
        rw [this, List.getElem?_eq_getElem (show 1 < cs'.length by omega), e1]
    obtain ⟨l, hll, hlp⟩ := list_of len hel
    refine ⟨l, .inr ⟨a, cap, by rw [hll], by omega, hm, fun hne => ?_⟩, fun x hx => ?_⟩
    · have hpos : 0 < l.length := List.length_pos_iff.2 hne
      have h0 := (hlp 0 l[0] (List.getElem?_eq_getElem hpos)).2.1
      have ha0 : a.add (0 * 2) = a := rfl
      rw [ha0] at h0
      have hpl := addr_plain h0
      refine ⟨a.block, a.off, hpl, lt_of_cell' h0, fun i x hi => ?_⟩
      have hk := (hlp i x hi).2
      rw [hpl, add_lit, add_lit] at hk
      rw [Nat.add_assoc]
      exact hk
    · obtain ⟨i, hi⟩ := List.getElem?_of_mem hx
      exact (hlp i x hi).1
/-- A slice of events by small numbers. -/
theorem open_es {q : Option Addr} {n c : Nat} {d : DataW H} {p : List MemPlace} (h : DataW.Trod enc Try.prog W base spare held 22 (.slice q n c) d p) : ∃ l, ES W (.slice q n c) l ∧ eok l ∧ l.length ≤ 9223372036854775807 := by
  obtain ⟨fuel, hf0⟩ := h
  have hf : DataW.trod enc Try.prog W base spare held fuel 22 [.slice q n c] = some (d, p) := hf0
  rcases open_slice Try.underlying22 hf with ⟨hcs, _⟩ | ⟨a, len, cap, m, n, D, Pl, hcs, hb, hl, hm, hmm, _, hx⟩
  · simp only [List.cons.injEq, and_true] at hcs
    rw [hcs]
    exact ⟨[], .inl ⟨rfl, rfl⟩, by intro x hx; simp at hx, by simp⟩
  · simp only [List.cons.injEq, and_true] at hcs
    rw [hcs]
    rw [cellsE] at hx
    have hel : ∀ i, i < len → ∃ s : Int × List (Int × Bool), ((0 ≤ s.1 ∧ s.1 < 256) ∧ sml s.2) ∧ W.cell? (a.add (i * 2)) = some (.int .u8 s.1) ∧ ∃ u, W.cell? (a.add (i * 2 + 1)) = some u ∧ TcS W u s.2 := by
      intro i hi
      obtain ⟨cs', h1, h2⟩ := hx i (by rw [hmm]; split <;> omega)
      obtain ⟨_, hcl, hat⟩ := World.cells?_some h1
      obtain ⟨ys, n', _, _, _, hyl, hfl⟩ := DataW.trod_struct Try.underlying54 h2
      simp only [List.size_toArray, List.length_cons, List.length_nil, Nat.zero_add] at hyl
      have g0 : DataW.trod enc Try.prog W base spare held n' 5 ((cs'.drop 0).take (Try.prog.cellsOf 5)) = ys[0]? := hfl 0 _ rfl
      rw [cellsU8, take_one cs' 0 (by omega), List.getElem?_eq_getElem (show 0 < ys.length by omega)] at g0
      obtain ⟨z, e0, _, f0⟩ := DataW.trod_int Try.underlying5 g0
      have g1 : DataW.trod enc Try.prog W base spare held n' 52 ((cs'.drop 1).take (Try.prog.cellsOf 52)) = ys[1]? := hfl 1 _ rfl
      rw [cellsTs, take_one cs' 1 (by omega), List.getElem?_eq_getElem (show 1 < ys.length by omega)] at g1
      obtain ⟨l1, t1, s1⟩ := open_tc (v := cs'[1]) (d := ys[1].1) (p := ys[1].2) g1
      simp only [List.cons.injEq, and_true] at e0
      have hb8 := bounds_u8 f0
      refine ⟨(z, l1), ⟨⟨by omega, by omega⟩, s1⟩, ?_, cs'[1], ?_, t1⟩
      · have := hat 0 (by omega)
        rw [Go.Deep.add_add, Nat.add_zero] at this
        rw [this, List.getElem?_eq_getElem (show 0 < cs'.length by omega), e0]
      · have := hat 1 (by omega)
        rw [Go.Deep.add_add] at this
        rw [this, List.getElem?_eq_getElem (show 1 < cs'.length by omega)]
    obtain ⟨l, hll, hlp⟩ := list_of len hel
    refine ⟨l, .inr ⟨a, cap, by rw [hll], by omega, hm, fun hne => ?_⟩, fun e he => ?_, by rw [hll]; unfold maxLen at hm; omega⟩
    · have hpos : 0 < l.length := List.length_pos_iff.2 hne
      have h0 := (hlp 0 l[0] (List.getElem?_eq_getElem hpos)).2.1
      have ha0 : a.add (0 * 2) = a := rfl
      rw [ha0] at h0
      have hpl := addr_plain h0
      refine ⟨a.block, a.off, hpl, lt_of_cell' h0, fun i x hi => ?_⟩
      have hk := (hlp i x hi).2
      rw [hpl, add_lit, add_lit] at hk
      rw [Nat.add_assoc]
      exact hk
    · obtain ⟨i, hi⟩ := List.getElem?_of_mem he
      exact (hlp i e hi).1
end
end Go.Proofs.Ytcbpkagegdfidaa
