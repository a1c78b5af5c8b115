/- What comes in: a small program, opened to its cells. -/
import Derived.Test.YtmomdcnlhljhcaaDoorFr
import Derived.Test.YtmomdcnlhljhcaaDoorMy
import Derived.Deep.Slices
import Derived.Deep.Fields
set_option linter.unusedSimpArgs false
set_option linter.unusedVariables false
namespace Go.Proofs.YtmomdcnlhljhcaaDoor
open Go.ChangeShapes Go.WideShapes Go.ChangeAt Go.RowKit Go.Deep

theorem addr_plain {W : World} {a : Addr} {v : Value} (h : W.cell? a = some v) : a = ⟨a.block, a.off, none⟩ := by
  unfold World.cell? at h
  split at h
  · split at h
    · cases h
    · rename_i hs
      cases a with
      | mk b o s =>
        simp only at hs ⊢
        cases s with
        | none => rfl
        | some _ => simp at hs
  · cases h
theorem add_plain (g o n : Nat) : (⟨g, o, none⟩ : Addr).add n = ⟨g, o + n, none⟩ := by
  unfold Addr.add
  split
  · rename_i h; subst h; rfl
  · rfl
theorem nat_u8 {x : Int} (h : (Lit.int .u8 x).wf = true) : ∃ n : Nat, x = (n : Int) ∧ n < 256 := by
  have hb := bounds_u8 h
  exact ⟨x.toNat, by omega, by omega⟩
theorem cells85 : Tryd.prog.cellsOf 85 = 5 := by kernel_rfl
theorem cells53 : Tryd.prog.cellsOf 53 = 1 := by kernel_rfl
theorem cells5 : Tryd.prog.cellsOf 5 = 1 := by kernel_rfl
theorem cells30 : Tryd.prog.cellsOf 30 = 1 := by kernel_rfl
theorem cells31 : Tryd.prog.cellsOf 31 = 1 := by kernel_rfl
theorem cells33 : Tryd.prog.cellsOf 33 = 7 := by kernel_rfl
/-- So many elements of which each is something are a list of such. -/
theorem list_of {α : Type} {p : Nat → α → Prop} : ∀ n : Nat, (∀ i, i < n → ∃ a, p i a) → ∃ l : List α, l.length = n ∧ ∀ i a, l[i]? = some a → p i a := by
  intro n
  induction n with
  | zero => intro _; exact ⟨[], rfl, by simp⟩
  | succ n ih =>
    intro h
    obtain ⟨l, hl, hp⟩ := ih fun i hi => h i (by omega)
    obtain ⟨a, ha⟩ := h n (by omega)
    refine ⟨l ++ [a], by simp [hl], fun i b hb => ?_⟩
    by_cases hi : i < l.length
    · rw [List.getElem?_append_left hi] at hb; exact hp i b hb
    · rw [List.getElem?_append_right (by omega)] at hb
      have : i - l.length = 0 := by
        have := (List.getElem?_eq_some_iff.1 hb).1
        simp at this; omega
      rw [this] at hb
      simp only [List.getElem?_cons_zero, Option.some.injEq] at hb
      subst hb
      rw [show i = n by omega]
      exact ha
section
variable {H : Type} {enc : TypeId × Value → H} {W : World} {base : Nat} {spare : Nat → Bool} {held : Bool}
theorem take_one (cs : List Value) (j : Nat) (h : j < cs.length) : (cs.drop j).take 1 = [cs[j]] := by
  rw [List.drop_eq_getElem_cons h]; rfl
theorem int_field {k : IntKind} {t : TypeId} {n j : Nat} {cs : List Value} {xs : List (DataW H × List MemPlace)} (ht : Tryd.prog.underlying t = some (.int k)) (hl : j < cs.length) (hx : j < xs.length)
    (h : DataW.trod enc Tryd.prog W base spare held n t ((cs.drop j).take 1) = xs[j]?) : ∃ z, cs[j]? = some (.int k z) ∧ (Lit.int k z).wf = true := by
  rw [take_one cs j hl, List.getElem?_eq_getElem hx] at h
  obtain ⟨z, h1, _, h3⟩ := DataW.trod_int ht h
  refine ⟨z, ?_, h3⟩
  rw [List.getElem?_eq_getElem hl]
  simpa using h1
/-- A slice of drawn statements. -/
theorem open_s5l {fuel : Nat} {v : Value} {x : DataW H × List MemPlace} (hf : DataW.trod enc Tryd.prog W base spare held fuel 53 [v] = some x) : ∃ l, Lsv W W.heap.size l v ∧ ∀ s ∈ l, S5ok s := by
  rcases open_slice Tryd.underlying53 hf with ⟨hcs, _⟩ | ⟨a, len, cap, m, n, D, Pl, hcs, hb, hl, hm, hmm, _, hx⟩
  · simp only [List.cons.injEq, and_true] at hcs
    subst hcs
    exact ⟨[], ⟨none, 0, rfl, by simp, by omega, fun h => absurd rfl h⟩, by simp⟩
  · simp only [List.cons.injEq, and_true] at hcs
    subst hcs
    rw [cells85] at hx
    have hlm : len ≤ m := by rw [hmm]; split <;> omega
    have hel : ∀ i, i < len → ∃ s : S5, S5ok s ∧ (∀ j, j < 5 → W.cell? (a.add (i * 5 + j)) = [Value.int .u8 (s.d : Int), .int .u8 (s.a : Int), .int .u8 (s.b : Int), .int .u8 (s.c : Int), .int .i8 s.n][j]?) := by
      intro i hi
      obtain ⟨cs', h1, h2⟩ := hx i (by omega)
      obtain ⟨_, hcl, hat⟩ := World.cells?_some h1
      obtain ⟨ys, n', _, _, _, hyl, hfl⟩ := DataW.trod_struct Tryd.underlying85 h2
      simp only [List.size_toArray, List.length_cons, List.length_nil, Nat.zero_add] at hyl
      have g0 : DataW.trod enc Tryd.prog W base spare held n' 5 ((cs'.drop 0).take (Tryd.prog.cellsOf 5)) = ys[0]? := hfl 0 _ rfl
      rw [cells5] at g0
      obtain ⟨z0, e0, f0⟩ := int_field Tryd.underlying5 (cs := cs') (xs := ys) (j := 0) (by omega) (by omega) g0
      have g1 : DataW.trod enc Tryd.prog W base spare held n' 5 ((cs'.drop 1).take (Tryd.prog.cellsOf 5)) = ys[1]? := hfl 1 _ rfl
      rw [cells5] at g1
      obtain ⟨z1, e1, f1⟩ := int_field Tryd.underlying5 (cs := cs') (xs := ys) (j := 1) (by omega) (by omega) g1
      have g2 : DataW.trod enc Tryd.prog W base spare held n' 5 ((cs'.drop 2).take (Tryd.prog.cellsOf 5)) = ys[2]? := hfl 2 _ rfl
      rw [cells5] at g2
      obtain ⟨z2, e2, f2⟩ := int_field Tryd.underlying5 (cs := cs') (xs := ys) (j := 2) (by omega) (by omega) g2
      have g3 : DataW.trod enc Tryd.prog W base spare held n' 5 ((cs'.drop 3).take (Tryd.prog.cellsOf 5)) = ys[3]? := hfl 3 _ rfl
      rw [cells5] at g3
      obtain ⟨z3, e3, f3⟩ := int_field Tryd.underlying5 (cs := cs') (xs := ys) (j := 3) (by omega) (by omega) g3
      have g4 : DataW.trod enc Tryd.prog W base spare held n' 30 ((cs'.drop 4).take (Tryd.prog.cellsOf 30)) = ys[4]? := hfl 4 _ rfl
      rw [cells30] at g4
      obtain ⟨z4, e4, f4⟩ := int_field Tryd.underlying30 (cs := cs') (xs := ys) (j := 4) (by omega) (by omega) g4
      obtain ⟨n0, rfl, b0⟩ := nat_u8 f0
      obtain ⟨n1, rfl, b1⟩ := nat_u8 f1
      obtain ⟨n2, rfl, b2⟩ := nat_u8 f2
      obtain ⟨n3, rfl, b3⟩ := nat_u8 f3
      refine ⟨⟨n0, n1, n2, n3, z4⟩, ⟨b0, b1, b2, b3, bounds_i8 f4⟩, fun j hj => ?_⟩
      rw [← Go.Deep.add_add, hat j hj]
      match j, hj with
      | 0, _ => exact e0
      | 1, _ => exact e1
      | 2, _ => exact e2
      | 3, _ => exact e3
      | 4, _ => exact e4
    obtain ⟨l, hll, hlp⟩ := list_of len hel
    refine ⟨l, ⟨some a, cap, by rw [hll], by omega, hm, fun hne => ?_⟩, fun s hs => ?_⟩
    · have hpos : 0 < l.length := List.length_pos_iff.2 hne
      have h0 := hlp 0 l[0] (List.getElem?_eq_getElem hpos)
      have hc0 : W.cell? (a.add 0) = some (.int .u8 (l[0].d : Int)) := by have := h0.2 0 (by omega); simpa using this
      have ha0 : a.add 0 = a := rfl
      rw [ha0] at hc0
      have hpl := addr_plain hc0
      refine ⟨a.block, a.off, by rw [← hpl], lt_of_cell hc0, fun i s hi => ?_⟩
      have hk := (hlp i s hi).2
      rw [hpl] at hk
      simp only [add_plain] at hk
      exact ⟨by have := hk 0 (by omega); simpa using this, by have := hk 1 (by omega); rw [← Nat.add_assoc] at this; simpa using this, by have := hk 2 (by omega); rw [← Nat.add_assoc] at this; simpa using this, by have := hk 3 (by omega); rw [← Nat.add_assoc] at this; simpa using this, by have := hk 4 (by omega); rw [← Nat.add_assoc] at this; simpa using this⟩
    · obtain ⟨i, hi⟩ := List.getElem?_of_mem hs
      exact (hlp i s hi).1
set_option maxRecDepth 100000 in
/-- The drawn program. -/
theorem open_small {r : Reach} {b0 : Nat} {v : Value} {d : DataW H} {p : List MemPlace} (hv : Value.okWide Tryd.prog W r b0 33 v) (h : DataW.Trod enc Tryd.prog W base spare held 33 v d p) :
    ∃ (x : Sml) (q : Option Addr) (c : Nat), v = smv x q c ∧ x.ce < 256 ∧ x.ar < 256 ∧ x.mu < 256 ∧ x.se < 256 ∧ x.bu < 256 ∧ (-128 ≤ x.n ∧ x.n ≤ 127) ∧ x.th.length ≤ c ∧ c ≤ maxLen ∧ ThV W W.heap.size x.th q ∧ ∀ l ∈ x.th, ∀ s ∈ l, S5ok s := by
  obtain ⟨cs, rfl, hsz⟩ := okWide_struct Tryd.underlying33 hv
  obtain ⟨l⟩ := cs
  have hl7 : l.length = 7 := hsz.trans cells33
  obtain ⟨fuel, hf⟩ := h
  obtain ⟨ys, n', _, _, _, hyl, hfl⟩ := DataW.trod_struct Tryd.underlying33 hf
  simp only [List.size_toArray, List.length_cons, List.length_nil, Nat.zero_add] at hyl
  have g0 : DataW.trod enc Tryd.prog W base spare held n' 5 ((l.drop 0).take (Tryd.prog.cellsOf 5)) = ys[0]? := hfl 0 _ rfl
  rw [cells5] at g0
  obtain ⟨z0, e0, f0⟩ := int_field Tryd.underlying5 (cs := l) (xs := ys) (j := 0) (by omega) (by omega) g0
  have g1 : DataW.trod enc Tryd.prog W base spare held n' 5 ((l.drop 1).take (Tryd.prog.cellsOf 5)) = ys[1]? := hfl 1 _ rfl
  rw [cells5] at g1
  obtain ⟨z1, e1, f1⟩ := int_field Tryd.underlying5 (cs := l) (xs := ys) (j := 1) (by omega) (by omega) g1
  have g2 : DataW.trod enc Tryd.prog W base spare held n' 5 ((l.drop 2).take (Tryd.prog.cellsOf 5)) = ys[2]? := hfl 2 _ rfl
  rw [cells5] at g2
  obtain ⟨z2, e2, f2⟩ := int_field Tryd.underlying5 (cs := l) (xs := ys) (j := 2) (by omega) (by omega) g2
  have g3 : DataW.trod enc Tryd.prog W base spare held n' 5 ((l.drop 3).take (Tryd.prog.cellsOf 5)) = ys[3]? := hfl 3 _ rfl
  rw [cells5] at g3
  obtain ⟨z3, e3, f3⟩ := int_field Tryd.underlying5 (cs := l) (xs := ys) (j := 3) (by omega) (by omega) g3
  have g4 : DataW.trod enc Tryd.prog W base spare held n' 5 ((l.drop 4).take (Tryd.prog.cellsOf 5)) = ys[4]? := hfl 4 _ rfl
  rw [cells5] at g4
  obtain ⟨z4, e4, f4⟩ := int_field Tryd.underlying5 (cs := l) (xs := ys) (j := 4) (by omega) (by omega) g4
  have g5 : DataW.trod enc Tryd.prog W base spare held n' 30 ((l.drop 5).take (Tryd.prog.cellsOf 30)) = ys[5]? := hfl 5 _ rfl
  rw [cells30] at g5
  obtain ⟨z5, e5, f5⟩ := int_field Tryd.underlying30 (cs := l) (xs := ys) (j := 5) (by omega) (by omega) g5
  have g6 : DataW.trod enc Tryd.prog W base spare held n' 31 ((l.drop 6).take (Tryd.prog.cellsOf 31)) = ys[6]? := hfl 6 _ rfl
  rw [cells31, take_one l 6 (by omega), List.getElem?_eq_getElem (show 6 < ys.length by omega)] at g6
  obtain ⟨n0, rfl, b0⟩ := nat_u8 f0
  obtain ⟨n1, rfl, b1⟩ := nat_u8 f1
  obtain ⟨n2, rfl, b2⟩ := nat_u8 f2
  obtain ⟨n3, rfl, b3⟩ := nat_u8 f3
  obtain ⟨n4, rfl, b4⟩ := nat_u8 f4
  have hl : ∀ u, l[6]'(by omega) = u → l = [.int .u8 (n0 : Int), .int .u8 (n1 : Int), .int .u8 (n2 : Int), .int .u8 (n3 : Int), .int .u8 (n4 : Int), .int .i8 z5, u] := by
    intro u hu
    apply List.ext_getElem?
    intro i
    match i with
    | 0 => exact e0
    | 1 => exact e1
    | 2 => exact e2
    | 3 => exact e3
    | 4 => exact e4
    | 5 => exact e5
    | 6 => rw [List.getElem?_eq_getElem (by omega), hu]; rfl
    | i + 7 => rw [List.getElem?_eq_none (by omega)]; rfl
  rcases open_slice1 Tryd.underlying31 cells53 g6 with ⟨hcs', _⟩ | ⟨a, len, cap, m, n, V, D, Pl, hcs', hb, hle, hm, hmm, _, hx⟩
  · simp only [List.cons.injEq, and_true] at hcs'
    refine ⟨⟨n0, n1, n2, n3, n4, z5, []⟩, none, 0, ?_, b0, b1, b2, b3, b4, bounds_i8 f5, by simp, by omega, fun h => absurd rfl h, by simp⟩
    rw [hl _ hcs']; rfl
  · simp only [List.cons.injEq, and_true] at hcs'
    have hlm : len ≤ m := by rw [hmm]; split <;> omega
    obtain ⟨th, htl, htp⟩ := list_of (p := fun i (t : List S5) => (W.cell? (a.add i) = some (V i) ∧ Lsv W W.heap.size t (V i)) ∧ ∀ s ∈ t, S5ok s) len (fun i hi => by
      obtain ⟨h1, h2⟩ := hx i (by omega)
      obtain ⟨t, h3, h4⟩ := open_s5l h2
      exact ⟨t, ⟨h1, h3⟩, h4⟩)
    refine ⟨⟨n0, n1, n2, n3, n4, z5, th⟩, some a, cap, ?_, b0, b1, b2, b3, b4, bounds_i8 f5, by simpa [htl] using hle, hm, fun hne => ?_, fun t ht => ?_⟩
    · rw [hl _ hcs', ← htl]; rfl
    · have hpos : 0 < th.length := List.length_pos_iff.2 hne
      have hc0 := (htp 0 th[0] (List.getElem?_eq_getElem hpos)).1.1
      have ha0 : a.add 0 = a := rfl
      rw [ha0] at hc0
      have hpl := addr_plain hc0
      refine ⟨a.block, a.off, by rw [← hpl], lt_of_cell hc0, fun i t hi => ?_⟩
      have hk := (htp i t hi).1
      rw [hpl, add_plain] at hk
      exact ⟨V i, hk⟩
    · obtain ⟨i, hi⟩ := List.getElem?_of_mem ht
      exact (htp i t hi).2
end
end Go.Proofs.YtmomdcnlhljhcaaDoor
