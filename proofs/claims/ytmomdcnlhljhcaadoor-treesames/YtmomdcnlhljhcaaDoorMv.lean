/- A statement with its bodies, being made: what lies where. -/
import Derived.Test.YtmomdcnlhljhcaaDoorMt
import Derived.Test.YtmomdcnlhljhcaaDoorMr
set_option linter.unusedSimpArgs false
set_option linter.unusedVariables false
namespace Go.Proofs.YtmomdcnlhljhcaaDoor
open Go.RowKit Ieee

structure Bz (wr w6 : World) (y : Nat) (z : Sr) : Prop where
  bel : Below wr.heap.size wr w6
  ge : wr.heap.size < y
  lt : y < w6.heap.size
  yb : w6.heap[y]? = some (.cells z.cs.toArray 87)
  sq : Sq w6 (fun g => wr.heap.size ≤ g ∧ g < w6.heap.size ∧ g ≠ y) z
section
variable {wr w6 w7 : World} {y : Nat} {z : Sr}
theorem Bz.c (h : Bz wr w6 y z) (j : Nat) {v : Value} (hv : z.cs[j]? = some v) : w6.cell? ⟨y, j, none⟩ = some v := by
  rw [cell_of_row w6 _ j _ 87 (0, 0) h.yb]
  simpa using hv
theorem Bz.f (h : Bz wr w6 y z) (j : Nat) : w6.frozen? ⟨y, j, none⟩ = false := frozen_of_row w6 _ j _ 87 h.yb
theorem Bz.keep (h : Bz wr w6 y z) (hb : Below w6.heap.size w6 w7) : Bz wr w7 y z := by
  have hs := hb.size
  have h1 := h.bel.size
  refine ⟨h.bel.trans (hb.mono h1), h.ge, Nat.lt_of_lt_of_le h.lt hs, (hb.block y h.lt).trans h.yb, h.sq.on (Same.below hb (fun g hg => hg.2.1)) (fun g hg => ⟨hg.1, Nat.lt_of_lt_of_le hg.2.1 hs, hg.2.2⟩)⟩
/-- The first: behind the call of stmt. -/
theorem Bz.start {wr w2 : World} {o : Obj} {k : Nat} {rg nm : List UInt8} {ix : Bool} {xs : List Ex} {px : Option Addr} {cx : Nat} (hx : XsV w2 (fun g => (wr.alloc o).heap.size ≤ g ∧ g < w2.heap.size) xs px cx) (hb : Below (wr.alloc o).heap.size (wr.alloc o) w2) :
    Bz wr (w2.alloc (.cells #[.int .i64 (k : Int), .string ⟨rg.toArray⟩, .string ⟨nm.toArray⟩, .bool ix, .slice px xs.length cx, .slice none 0 0, .slice none 0 0, .int .i64 0] 87)) w2.heap.size ⟨k, rg, nm, ix, xs, .nil, .nil, px, cx, none, 0, none, 0⟩ := by
  have hs := hb.size
  simp at hs
  refine ⟨((below_alloc wr o).trans (hb.mono (by simp))).alloc (by omega) _, by omega, by simp, ?_, ⟨?_, .inl ⟨rfl, rfl, rfl⟩, .inl ⟨rfl, rfl, rfl⟩⟩⟩
  · exact heap_alloc_new _ _
  · refine hx.on (Same.below (below_alloc w2 _) (fun g hg => hg.2)) (fun g hg => ⟨by have := hg.1; simp at this; omega, by have := hg.2; simp; omega, by have := hg.2; omega⟩)
/-- A body stored. -/
theorem Bz.set (h : Bz wr w6 y z) (i : Nat) (u : Value) (z' : Sr) (hi : z.cs.toArray.setIfInBounds i u = z'.cs.toArray) (hq : Sq w6 (fun g => wr.heap.size ≤ g ∧ g < w6.heap.size ∧ g ≠ y) z') : Bz wr (w6.setCell ⟨y, i, none⟩ u) y z' := by
  have hz : (w6.setCell ⟨y, i, none⟩ u).heap.size = w6.heap.size := by simp
  refine ⟨h.bel.setCell (by have := h.ge; simp only; omega) _, h.ge, by rw [hz]; exact h.lt, ?_, hq.on ?_ (fun g hg => ⟨hg.1, by rw [hz]; exact hg.2.1, hg.2.2⟩)⟩
  · rw [heap_setCell_same _ _ _ _ _ _ h.yb, hi]
  · intro g o hg
    exact World.cell?_of_block (a := ⟨g, o, none⟩) (Below.heap_setCell _ _ _ _ (fun e => hg.2.2 e))
theorem Bz.body (h : Bz wr w6 y z) (hb : Below w6.heap.size w6 w7) {b : Sts} {pb : Option Addr} {cb : Nat} (hv : StsV w7 (fun g => w6.heap.size ≤ g ∧ g < w7.heap.size) b pb cb) :
    Bz wr (w7.setCell ⟨y, 5, none⟩ (.slice pb b.len cb)) y { z with b := b, pb := pb, cb := cb } := by
  have h7 := h.keep hb
  refine h7.set 5 _ _ (by simp [Sr.cs]) ⟨h7.sq.x, hv.on (fun _ _ _ => rfl) (fun g hg => ⟨?_, hg.2, ?_⟩), h7.sq.e⟩
  · have := hg.1; have := h.bel.size; omega
  · have := hg.1; have := h.lt; omega
theorem Bz.els (h : Bz wr w6 y z) (hb : Below w6.heap.size w6 w7) {e : Sts} {pe : Option Addr} {ce : Nat} (hv : StsV w7 (fun g => w6.heap.size ≤ g ∧ g < w7.heap.size) e pe ce) :
    Bz wr (w7.setCell ⟨y, 6, none⟩ (.slice pe e.len ce)) y { z with e := e, pe := pe, ce := ce } := by
  have h7 := h.keep hb
  refine h7.set 6 _ _ (by simp [Sr.cs]) ⟨h7.sq.x, h7.sq.b, hv.on (fun _ _ _ => rfl) (fun g hg => ⟨?_, hg.2, ?_⟩)⟩
  · have := hg.1; have := h.bel.size; omega
  · have := hg.1; have := h.lt; omega
end
/-- What the statements' call gives. -/
def StR (w : World) (B : Nat) (r : Sts × List S5) (e : Ending) (w' : World) : Prop :=
  ∃ po co vr, e = .returned (.tuple #[.slice po r.1.len co, vr]) ∧ StsV w' (fun g => w.heap.size ≤ g ∧ g < w'.heap.size) r.1 po co ∧ Lsv w' B r.2 vr ∧ Below w.heap.size w w'
def lenOf : Value → Nat
  | .slice _ n _ => n
  | _ => 0
/-- At the loop's head. -/
structure Lp (x : Sml) (p : Option Addr) (c : Nat) (w : World) (n B : Nat) (R : Sts × List S5) (deep f : Nat) (l : List S5) (m : Nat) (qs : List Sr) (wr : World) (u1 u10 : Value) : Prop where
  fuel : l.length ≤ f
  ok : ∀ s ∈ l, S5ok s
  most : m ≤ 100
  few : l.length + qs.length ≤ 20
  run : R = ((sof qs).app (srun x f l m deep).1, (srun x f l m deep).2)
  lsv : Lsv wr B l u1
  so : So wr (n + 1) qs u10
  nil : qs = [] → u10 = .slice none 0 0
  bel : Below n w wr
  bx : wr.heap[n]? = some (xbox x p c)
  size : n + 1 ≤ wr.heap.size
section
variable {x : Sml} {p : Option Addr} {c : Nat} {w : World} {n B : Nat} {R : Sts × List S5} {deep f : Nat} {l : List S5} {m : Nat} {qs : List Sr} {wr : World} {u1 u10 : Value}
theorem Lp.xC (h : Lp x p c w n B R deep f l m qs wr u1 u10) (i : Nat) : wr.cell? ⟨n, i, none⟩ = (#[Value.int .u8 (x.ce : Int), .int .u8 (x.ar : Int), .int .u8 (x.mu : Int), .int .u8 (x.se : Int), .int .u8 (x.bu : Int), .int .i8 x.n, .slice p x.th.length c])[i]? := by rw [cell_of_row wr _ i _ 33 (0, 0) h.bx]
/-- The next round without a new statement. -/
theorem Lp.skip (h : Lp x p c w n B R deep f l m qs wr u1 u10) {w6 : World} {f' : Nat} {l' : List S5} {m' : Nat} {v : Value} (hB : B ≤ n) (hb : Below wr.heap.size wr w6) (hf : l'.length ≤ f') (hsub : ∀ s ∈ l', s ∈ l) (hm : m' ≤ m) (hl : l'.length ≤ l.length) (hv : Lsv w6 B l' v)
    (hr : srun x f l m deep = srun x f' l' m' deep) : Lp x p c w n B R deep f' l' m' qs w6 v u10 := by
  have hs := h.size
  exact ⟨hf, fun s hs => h.ok s (hsub s hs), Nat.le_trans hm h.most, by have := h.few; omega, by rw [h.run, hr], hv, h.so.keep hb, h.nil, h.bel.trans (hb.mono (by omega)), (hb.block n (by omega)).trans h.bx, Nat.le_trans hs hb.size⟩
/-- The next round with one. -/
theorem Lp.next (h : Lp x p c w n B R deep f l m qs wr u1 u10) {w6 w3 : World} {o : Obj} {y f' : Nat} {l' : List S5} {m' g cap : Nat} {v : Value} {z : Sr} (hB : B ≤ n) (hz : Bz wr w6 y z) (hf : l'.length ≤ f') (hsub : ∀ s ∈ l', s ∈ l) (hm : m' ≤ m) (hl : l'.length < l.length) (hv : Lsv w6 B l' v)
    (hr : srun x f l m deep = (.cons z.k z.rg z.nm z.ix z.xs z.b z.e (srun x f' l' m' deep).1, (srun x f' l' m' deep).2))
    (hg : (w6.alloc o).grownBy w3 u10.ownBlock) (hat : u10.ownBlock = some g ∨ g = w6.heap.size + 1)
    (ho : w3.ownsRow (n + 1) 87 8 (.slice (some ⟨g, 0, none⟩) (qs.length + 1) cap) (qs.length + 1) (scs qs ++ z.cs)) : Lp x p c w n B R deep f' l' m' (qs ++ [z]) w3 v (.slice (some ⟨g, 0, none⟩) (qs.length + 1) cap) := by
  have hs := h.size
  have hb := hz.bel
  have hsz := hb.size
  have hgs := hg.size
  simp at hgs
  have hbel6 : Below n w w6 := h.bel.trans (hb.mono (by omega))
  have hb3 : Below (n + 1) w6 w3 := ((Below.refl (n + 1) w6).alloc (by omega) o).grown hg (by simp; omega) (fun q hq => (h.so.own.lt q hq).1)
  refine ⟨hf, fun s hs => h.ok s (hsub s hs), Nat.le_trans hm h.most, by have := h.few; simp; omega, ?_, hv.below (hb3.mono (by omega)), ?_, by simp, hbel6.trans (hb3.mono (by omega)), (hb3.block n (by omega)).trans ((hb.block n (by omega)).trans h.bx), by omega⟩
  · rw [h.run, hr, sof_app, Sts.app_assoc]; rfl
  · exact h.so.app (by omega) hb (hz.sq.on (fun _ _ _ => rfl) (fun g hg => ⟨hg.1, hg.2.1⟩)) hg hat ho
end
theorem zone (z : Sr) : ∀ u ∈ z.cs, u.oneCell' = true := by
  intro u hu
  simp only [Sr.cs, List.mem_cons, List.not_mem_nil, or_false] at hu
  rcases hu with rfl | rfl | rfl | rfl | rfl | rfl | rfl | rfl <;> rfl
theorem y_info : (Tryd.prog.info? 87).map (fun i => (i.zero, i.size, i.bytes)) = some (some (.agg #[.int .i64 0, .string ⟨#[]⟩, .string ⟨#[]⟩, .bool false, .slice none 0 0, .slice none 0 0, .slice none 0 0, .int .i64 0]), 8, 128) := by kernel_rfl
end Go.Proofs.YtmomdcnlhljhcaaDoor
