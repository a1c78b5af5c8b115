/- The law's statement, being made: what lies where while it is. -/
import Derived.Test.YtmomdcnlhljhcaaDoorLe
import Derived.Test.YtmomdcnlhljhcaaDoorWf
import Derived.Test.YtmomdcnlhljhcaaDoorRx
import Derived.Test.YtmomdcnlhljhcaaDoorEp
import Derived.Test.YtmomdcnlhljhcaaDoorBd
set_option linter.unusedSimpArgs false
set_option linter.unusedVariables false
namespace Go.Proofs.YtmomdcnlhljhcaaDoor
open Go.RowKit Ieee

theorem e_info : (Tryd.prog.info? 48).map (fun i => (i.zero, i.size, i.bytes)) = some (some (.agg #[.string ⟨#[]⟩, .complex .f64 0 0, .string ⟨#[]⟩, .slice none 0 0]), 4, 72) := by kernel_rfl
def exc (s0 : ByteArray) (x y : Nat) (s1 : ByteArray) (q : Option Addr) (m : Nat) : List Value := [.string s0, .complex .f64 x y, .string s1, .slice q m m]
theorem exc_one (s0 : ByteArray) (x y : Nat) (s1 : ByteArray) (q : Option Addr) (m : Nat) : ∀ u ∈ exc s0 x y s1 q m, u.oneCell' = true := by
  intro u hu
  simp only [exc, List.mem_cons, List.not_mem_nil, or_false] at hu
  rcases hu with rfl | rfl | rfl | rfl <;> rfl
theorem far_cell {Y w2 w3 : World} {o : Obj} {row : Option Nat} (hb : Below Y.heap.size Y w2) (hg : (w2.alloc o).grownBy w3 row) {a : Addr} {v : Value} (hv : Y.cell? a = some v) (hr : some a.block ≠ row) : w3.cell? a = some v := by
  have hlt := lt_of_cell hv
  have h2 := hb.size
  rw [hg.cell_far a (by simp; omega) hr, World.cell?_of_block (a := a) (Below.heap_alloc w2 o a.block (by omega)), hb.cell hlt]
  exact hv
theorem far_frozen {Y w2 w3 : World} {o : Obj} {row : Option Nat} (hb : Below Y.heap.size Y w2) (hg : (w2.alloc o).grownBy w3 row) {a : Addr} (hlt : a.block < Y.heap.size) (hv : Y.frozen? a = false) (hr : some a.block ≠ row) : w3.frozen? a = false := by
  have h2 := hb.size
  rw [hg.frozen_far a (by simp; omega) hr, World.frozen?_of_block (a := a) (Below.heap_alloc w2 o a.block (by omega)), hb.frozen hlt]
  exact hv

/-- The law's small program, its statement, as values; their boxes. -/
def xbox (x : Sml) (p : Option Addr) (c : Nat) : Obj := .cells #[.int .u8 (x.ce : Int), .int .u8 (x.ar : Int), .int .u8 (x.mu : Int), .int .u8 (x.se : Int), .int .u8 (x.bu : Int), .int .i8 x.n, .slice p x.th.length c] 33
def s5box (s : S5) : Obj := .cells #[.int .u8 (s.d : Int), .int .u8 (s.a : Int), .int .u8 (s.b : Int), .int .u8 (s.c : Int), .int .i8 s.n] 85
def smv (x : Sml) (p : Option Addr) (c : Nat) : Value := .agg #[.int .u8 (x.ce : Int), .int .u8 (x.ar : Int), .int .u8 (x.mu : Int), .int .u8 (x.se : Int), .int .u8 (x.bu : Int), .int .i8 x.n, .slice p x.th.length c]
def s5v (s : S5) : Value := .agg #[.int .u8 (s.d : Int), .int .u8 (s.a : Int), .int .u8 (s.b : Int), .int .u8 (s.c : Int), .int .i8 s.n]
def ybox (k : Int) (RG NM : ByteArray) (ix : Bool) (v : Value) : Obj := .cells #[.int .i64 k, .string RG, .string NM, .bool ix, v, .slice none 0 0, .slice none 0 0, .int .i64 0] 87
structure S5ok (s : S5) : Prop where
  d : s.d < 256
  a : s.a < 256
  b : s.b < 256
  c : s.c < 256
  n : -128 ≤ s.n ∧ s.n ≤ 127
structure Smok (x : Sml) : Prop where
  ce : x.ce < 256
  ar : x.ar < 256
  mu : x.mu < 256
  se : x.se < 256
  bu : x.bu < 256
  n : -128 ≤ x.n ∧ x.n ≤ 127
  th : x.th.length ≤ 6

/-- While a statement is made: the four blocks. -/
structure Yw (w wr : World) (n : Nat) (x : Sml) (p : Option Addr) (c : Nat) (s : S5) (k : Int) (RG NM : ByteArray) (ix : Bool) (v : Value) : Prop where
  bel : Below n w wr
  bx : wr.heap[n]? = some (xbox x p c)
  bs : wr.heap[n + 1]? = some (s5box s)
  br : wr.heap[n + 2]? = some (ybox 0 ⟨#[]⟩ ⟨#[]⟩ false (.slice none 0 0))
  by_ : wr.heap[n + 4]? = some (ybox k RG NM ix v)
  size : n + 5 ≤ wr.heap.size

section
variable {w wr w2 : World} {n : Nat} {x : Sml} {p : Option Addr} {c : Nat} {s : S5} {k : Int} {RG NM : ByteArray} {ix : Bool} {v : Value}
theorem Yw.sB (h : Yw w wr n x p c s k RG NM ix v) : wr.cell? ⟨n + 1, 2, none⟩ = some (.int .u8 (s.b : Int)) := by rw [cell_of_row wr _ 2 _ 85 (0, 0) h.bs]; rfl
theorem Yw.sA (h : Yw w wr n x p c s k RG NM ix v) : wr.cell? ⟨n + 1, 1, none⟩ = some (.int .u8 (s.a : Int)) := by rw [cell_of_row wr _ 1 _ 85 (0, 0) h.bs]; rfl
theorem Yw.sC (h : Yw w wr n x p c s k RG NM ix v) : wr.cell? ⟨n + 1, 3, none⟩ = some (.int .u8 (s.c : Int)) := by rw [cell_of_row wr _ 3 _ 85 (0, 0) h.bs]; rfl
theorem Yw.sN (h : Yw w wr n x p c s k RG NM ix v) : wr.cell? ⟨n + 1, 4, none⟩ = some (.int .i8 s.n) := by rw [cell_of_row wr _ 4 _ 85 (0, 0) h.bs]; rfl
theorem Yw.xC (h : Yw w wr n x p c s k RG NM ix v) (i : Nat) : wr.cell? ⟨n, i, none⟩ = (#[Value.int .u8 (x.ce : Int), .int .u8 (x.ar : Int), .int .u8 (x.mu : Int), .int .u8 (x.se : Int), .int .u8 (x.bu : Int), .int .i8 x.n, .slice p x.th.length c])[i]? := by rw [cell_of_row wr _ i _ 33 (0, 0) h.bx]
theorem Yw.yC (h : Yw w wr n x p c s k RG NM ix v) (i : Nat) : wr.cell? ⟨n + 4, i, none⟩ = (#[Value.int .i64 k, .string RG, .string NM, .bool ix, v, .slice none 0 0, .slice none 0 0, .int .i64 0])[i]? := by rw [cell_of_row wr _ i _ 87 (0, 0) h.by_]
theorem Yw.rC (h : Yw w wr n x p c s k RG NM ix v) (i : Nat) : wr.cell? ⟨n + 2, i, none⟩ = (#[Value.int .i64 0, .string ⟨#[]⟩, .string ⟨#[]⟩, .bool false, .slice none 0 0, .slice none 0 0, .slice none 0 0, .int .i64 0])[i]? := by rw [cell_of_row wr _ i _ 87 (0, 0) h.br]
theorem Yw.yF (h : Yw w wr n x p c s k RG NM ix v) (i : Nat) : wr.frozen? ⟨n + 4, i, none⟩ = false := frozen_of_row wr _ i _ 87 h.by_
theorem Yw.rF (h : Yw w wr n x p c s k RG NM ix v) (i : Nat) : wr.frozen? ⟨n + 2, i, none⟩ = false := frozen_of_row wr _ i _ 87 h.br
theorem Yw.keep (h : Yw w wr n x p c s k RG NM ix v) (hb : Below wr.heap.size wr w2) : Yw w w2 n x p c s k RG NM ix v := by
  have hs := h.size
  exact ⟨h.bel.trans (hb.mono (by omega)), (hb.block n (by omega)).trans h.bx, (hb.block (n + 1) (by omega)).trans h.bs, (hb.block (n + 2) (by omega)).trans h.br, (hb.block (n + 4) (by omega)).trans h.by_, Nat.le_trans hs hb.size⟩
theorem Yw.far {o : Obj} {row : Option Nat} (h : Yw w wr n x p c s k RG NM ix v) (hg : (wr.alloc o).grownBy w2 row) (hr : ∀ g, row = some g → n + 5 ≤ g) : Yw w w2 n x p c s k RG NM ix v := by
  have hs := h.size
  have hb : ∀ j, j < n + 5 → w2.heap[j]? = wr.heap[j]? := fun j hj => by
    rw [hg.block j (by simp; omega) (by intro he; have := hr j he.symm; omega), Below.heap_alloc _ _ _ (by omega)]
  have hz := hg.size
  simp at hz
  refine ⟨?_, (hb n (by omega)).trans h.bx, (hb (n + 1) (by omega)).trans h.bs, (hb (n + 2) (by omega)).trans h.br, (hb (n + 4) (by omega)).trans h.by_, by omega⟩
  exact (h.bel.alloc (by omega) o).grown hg (by simp; omega) (fun q hq => by have := hr q hq; omega)
/-- A field stored. -/
theorem Yw.set (h : Yw w wr n x p c s k RG NM ix v) (i : Nat) (u : Value) {RG' NM' : ByteArray} {ix' : Bool} {v' : Value} (hu : (#[Value.int .i64 k, .string RG, .string NM, .bool ix, v, .slice none 0 0, .slice none 0 0, .int .i64 0]).setIfInBounds i u = #[Value.int .i64 k, .string RG', .string NM', .bool ix', v', .slice none 0 0, .slice none 0 0, .int .i64 0]) :
    Yw w (wr.setCell ⟨n + 4, i, none⟩ u) n x p c s k RG' NM' ix' v' := by
  have hs := h.size
  have hb : ∀ j, j ≠ n + 4 → (wr.setCell ⟨n + 4, i, none⟩ u).heap[j]? = wr.heap[j]? := fun j hj => Below.heap_setCell _ _ _ _ (fun e => hj e)
  refine ⟨h.bel.setCell (by show n ≤ n + 4; omega) _, (hb n (by omega)).trans h.bx, (hb (n + 1) (by omega)).trans h.bs, (hb (n + 2) (by omega)).trans h.br, ?_, by simpa using hs⟩
  unfold ybox
  rw [heap_setCell_same _ _ _ _ _ _ h.by_, hu]
theorem Yw.drew (h : Yw w wr n x p c s k RG NM ix v) : Yw w wr.drew n x p c s k RG NM ix v := ⟨⟨h.bel.os, h.bel.tape, h.bel.output, h.bel.size, h.bel.block⟩, h.bx, h.bs, h.br, h.by_, h.size⟩
/-- The beginning. -/
theorem Yw.start (w : World) (n : Nat) (hn : w.heap.size = n) (x : Sml) (p : Option Addr) (c : Nat) (s : S5) (k : Int) (o : Obj) :
    Yw w (((((w.alloc (xbox x p c)).alloc (s5box s)).alloc (ybox 0 ⟨#[]⟩ ⟨#[]⟩ false (.slice none 0 0))).alloc o).alloc (ybox k ⟨#[]⟩ ⟨#[]⟩ false (.slice none 0 0))) n x p c s k ⟨#[]⟩ ⟨#[]⟩ false (.slice none 0 0) := by
  subst hn
  refine ⟨?_, ?_, ?_, ?_, ?_, by simp⟩
  · exact (((((Below.refl _ _).alloc (Nat.le_refl _) _).alloc (by simp <;> omega) _).alloc (by simp <;> omega) _).alloc (by simp <;> omega) _).alloc (by simp <;> omega) _
  · rw [Below.heap_alloc _ _ _ (by simp <;> omega), Below.heap_alloc _ _ _ (by simp <;> omega), Below.heap_alloc _ _ _ (by simp <;> omega), Below.heap_alloc _ _ _ (by simp <;> omega)]; exact heap_alloc_new _ _
  · rw [Below.heap_alloc _ _ _ (by simp <;> omega), Below.heap_alloc _ _ _ (by simp <;> omega), Below.heap_alloc _ _ _ (by simp <;> omega)]
    have := heap_alloc_new (w.alloc (xbox x p c)) (s5box s); simpa using this
  · rw [Below.heap_alloc _ _ _ (by simp <;> omega), Below.heap_alloc _ _ _ (by simp <;> omega)]
    have := heap_alloc_new ((w.alloc (xbox x p c)).alloc (s5box s)) (ybox 0 ⟨#[]⟩ ⟨#[]⟩ false (.slice none 0 0)); simpa using this
  · have := heap_alloc_new ((((w.alloc (xbox x p c)).alloc (s5box s)).alloc (ybox 0 ⟨#[]⟩ ⟨#[]⟩ false (.slice none 0 0))).alloc o) (ybox k ⟨#[]⟩ ⟨#[]⟩ false (.slice none 0 0)); simpa using this
end
/-- A statement that is made. -/
def MkS (w : World) (k : Nat) (rg nm : List UInt8) (ix : Bool) (xs : List Ex) (ok : Bool) (e : Ending) (w' : World) : Prop :=
  ∃ px cx, e = .returned (.tuple #[stv k rg nm ix px xs.length cx none 0 0 none 0 0, .bool ok]) ∧ XsV w' (fun g => w.heap.size ≤ g ∧ g < w'.heap.size) xs px cx ∧ Below w.heap.size w w'
end Go.Proofs.YtmomdcnlhljhcaaDoor
