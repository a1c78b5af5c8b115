/- What a reader is in memory: tokens, the reader's own block; expressions, statements, declarations that are read; what keeps them. -/
import Derived.Test.YtgiioflkclkioaaGreatDoorPv
import Derived.Test.YtgiioflkclkioaaGreatDoorFz
import Derived.Maps.AppendAt
import Derived.Deep.AppendLies
import Derived.OwnWalk
import Derived.Laws.OwnMore
set_option linter.unusedSimpArgs false
set_option linter.unusedVariables false
namespace Go.Proofs.YtgiioflkclkioaaGreatDoor
open Go.RowKit Ieee

/-- But for the blocks of X nothing old has turned. -/
structure Kx (X : Nat → Prop) (w w' : World) : Prop where
  os : w'.os = w.os
  tape : w'.tape = w.tape
  output : w'.output = w.output
  size : w.heap.size ≤ w'.heap.size
  block : ∀ k, k < w.heap.size → ¬ X k → w'.heap[k]? = w.heap[k]?
theorem Kx.refl (X : Nat → Prop) (w : World) : Kx X w w := ⟨rfl, rfl, rfl, Nat.le_refl _, fun _ _ _ => rfl⟩
theorem Kx.trans {X Y : Nat → Prop} {a b c : World} (h : Kx X a b) (k : Kx Y b c) (hY : ∀ i, i < a.heap.size → Y i → X i) : Kx X a c :=
  ⟨k.os.trans h.os, k.tape.trans h.tape, k.output.trans h.output, Nat.le_trans h.size k.size, fun i hi hx => (k.block i (Nat.lt_of_lt_of_le hi h.size) (fun y => hx (hY i hi y))).trans (h.block i hi hx)⟩
theorem Kx.tr {X : Nat → Prop} {a b c : World} (h : Kx X a b) (k : Kx X b c) : Kx X a c := h.trans k fun _ _ y => y
theorem Kx.of {X : Nat → Prop} {w w' : World} (h : Below w.heap.size w w') : Kx X w w' := ⟨h.os, h.tape, h.output, h.size, fun k hk _ => h.block k hk⟩
theorem Kx.bel {X : Nat → Prop} {a b c : World} (h : Kx X a b) (k : Below b.heap.size b c) : Kx X a c := h.tr (Kx.of k)
theorem Kx.below {X : Nat → Prop} {B : Nat} {w w' : World} (h : Kx X w w') (hB : B ≤ w.heap.size) (hX : ∀ k, k < B → ¬ X k) : Below B w w' :=
  ⟨h.os, h.tape, h.output, h.size, fun k hk => h.block k (Nat.lt_of_lt_of_le hk hB) (hX k hk)⟩
theorem Kx.alloc {X : Nat → Prop} {a w : World} (h : Kx X a w) (o : Obj) : Kx X a (w.alloc o) :=
  h.tr ⟨rfl, rfl, rfl, by simp, fun k hk _ => Below.heap_alloc _ _ _ hk⟩
theorem Kx.setCell {X : Nat → Prop} {a w : World} (h : Kx X a w) {p : Addr} (hp : X p.block ∨ a.heap.size ≤ p.block) (u : Value) : Kx X a (w.setCell p u) :=
  ⟨h.os, h.tape, h.output, by simpa [World.setCell] using h.size, fun k hk hx => by
    rw [Below.heap_setCell _ _ _ _ (by rintro rfl; rcases hp with hp | hp; exact hx hp; omega)]; exact h.block k hk hx⟩
theorem Kx.grown {X : Nat → Prop} {a w w' : World} {row : Option Nat} (h : Kx X a w) (hg : w.grownBy w' row) (hr : ∀ k, row = some k → X k ∨ a.heap.size ≤ k) : Kx X a w' :=
  ⟨hg.os.trans h.os, hg.tape.trans h.tape, hg.output.trans h.output, Nat.le_trans h.size hg.size, fun k hk hx => by
    rw [hg.block k (Nat.lt_of_lt_of_le hk h.size) (fun e => by rcases hr k e.symm with h1 | h1; exact hx h1; omega)]; exact h.block k hk hx⟩
theorem Kx.drewN {X : Nat → Prop} {a w : World} (h : Kx X a w) (n : Nat) : Kx X a (w.drewN n) := ⟨h.os, h.tape, h.output, h.size, h.block⟩
theorem Kx.cell {X : Nat → Prop} {w w' : World} (h : Kx X w w') {p : Addr} (hp : p.block < w.heap.size) (hx : ¬ X p.block) : w'.cell? p = w.cell? p := World.cell?_of_block (w := w) (h.block p.block hp hx)
theorem Kx.mono {X Y : Nat → Prop} {w w' : World} (h : Kx X w w') (hY : ∀ i, i < w.heap.size → X i → Y i) : Kx Y w w' :=
  ⟨h.os, h.tape, h.output, h.size, fun k hk hx => h.block k hk fun x => hx (hY k hk x)⟩

theorem row_cell {w : World} {g o : Nat} {cs : Array Value} {t : TypeId} {z : Nat × Nat} (h : w.heap[g]? = some (.cells cs t z)) : w.cell? ⟨g, o, none⟩ = cs[o]? := by
  simp [World.cell?, h]
theorem row_frozen {w : World} {g o : Nat} {cs : Array Value} {t : TypeId} (h : w.heap[g]? = some (.cells cs t (0, 0))) : w.frozen? ⟨g, o, none⟩ = false := by
  simp [World.frozen?, h]
theorem lt_of_row {w : World} {g : Nat} {o : Obj} (h : w.heap[g]? = some o) : g < w.heap.size := by
  rcases Nat.lt_or_ge g w.heap.size with h1 | h1
  · exact h1
  · rw [Array.getElem?_eq_none h1] at h; cases h
theorem lt_of_cl {w : World} {a : Addr} {v : Value} (h : w.cell? a = some v) : a.block < w.heap.size := by
  rcases Nat.lt_or_ge a.block w.heap.size with hlt | hge
  · exact hlt
  · simp [World.cell?, Array.getElem?_eq_none hge] at h

/-- Tokens lie from a place of a block on. -/
def Tl (w : World) (g : Nat) : Nat → List Tk → Prop
  | _, [] => True
  | o, t :: r => (w.cell? ⟨g, o, none⟩ = some (.int .i64 (t.kind : Int)) ∧ w.cell? ⟨g, o + 1, none⟩ = some (.string ⟨t.text.toArray⟩) ∧
      w.cell? ⟨g, o + 2, none⟩ = some (.complex .f64 (fl false (t.re : Int)) (fl false (t.im : Int))) ∧ w.cell? ⟨g, o + 3, none⟩ = some (.int .i64 (t.pos : Int))) ∧ Tl w g (o + 4) r
theorem Tl.on {w w' : World} {g : Nat} (h : ∀ o, w'.cell? ⟨g, o, none⟩ = w.cell? ⟨g, o, none⟩) : ∀ {ts : List Tk} {o : Nat}, Tl w g o ts → Tl w' g o ts := by
  intro ts
  induction ts with
  | nil => intro o _; trivial
  | cons t r ih => intro o ht; exact ⟨⟨(h _).trans ht.1.1, (h _).trans ht.1.2.1, (h _).trans ht.1.2.2.1, (h _).trans ht.1.2.2.2⟩, ih ht.2⟩
/-- The program's tables of words. -/
structure Lk (w : World) : Prop where
  sz : 13 ≤ w.heap.size
  kw : ∀ i, i < 17 → w.cell? ⟨10, i, none⟩ = some (.string ⟨(word i).toArray⟩)
  sw : ∀ i, i < 6 → w.cell? ⟨6, i, none⟩ = some (.string ⟨(swd i).toArray⟩)
theorem Lk.kx {X : Nat → Prop} {w w' : World} (h : Lk w) (k : Kx X w w') (hX : ∀ i, i < 13 → ¬ X i) : Lk w' := by
  have hs := h.sz
  exact ⟨Nat.le_trans hs k.size, fun i hi => (k.cell (p := ⟨10, i, none⟩) (by show 10 < _; omega) (hX 10 (by omega))).trans (h.kw i hi), fun i hi => (k.cell (p := ⟨6, i, none⟩) (by show 6 < _; omega) (hX 6 (by omega))).trans (h.sw i hi)⟩
theorem Lk.on {w w' : World} (h : Lk w) (k : Below w.heap.size w w') : Lk w' := h.kx (X := fun _ => False) (Kx.of k) fun _ _ f => f
/-- The law's tables of words. -/
structure Lw (w : World) : Prop where
  sz : 13 ≤ w.heap.size
  lw : ∀ i, i < 17 → w.cell? ⟨1, i, none⟩ = some (.string ⟨(word i).toArray⟩)
  ls : ∀ i, i < 6 → w.cell? ⟨0, i, none⟩ = some (.string ⟨(swd i).toArray⟩)
theorem Lw.kx {X : Nat → Prop} {w w' : World} (h : Lw w) (k : Kx X w w') (hX : ∀ i, i < 13 → ¬ X i) : Lw w' := by
  have hs := h.sz
  exact ⟨Nat.le_trans hs k.size, fun i hi => (k.cell (p := ⟨1, i, none⟩) (by show 1 < _; omega) (hX 1 (by omega))).trans (h.lw i hi), fun i hi => (k.cell (p := ⟨0, i, none⟩) (by show 0 < _; omega) (hX 0 (by omega))).trans (h.ls i hi)⟩
theorem Lw.on {w w' : World} (h : Lw w) (k : Below w.heap.size w w') : Lw w' := h.kx (X := fun _ => False) (Kx.of k) fun _ _ f => f
/-- The reader: the tokens that are left, how many blocks are open. -/
structure Rr (w : World) (b : Nat) (ts : List Tk) (d : Nat) (g o cap : Nat) : Prop where
  blk : w.heap[b]? = some (.cells #[.slice (some ⟨g, o, none⟩) ts.length cap, .int .i64 (d : Int)] 77 (0, 0))
  gb : g ≠ b
  le : ts.length ≤ cap
  mx : cap ≤ maxLen
  toks : Tl w g o ts
  lk : Lk w
  lo : 13 ≤ b
def Rdr (w : World) (b g : Nat) (ts : List Tk) (d : Nat) : Prop := g < w.heap.size ∧ ∃ o cap, Rr w b ts d g o cap
theorem Rdr.on {w w' : World} {b g d : Nat} {ts : List Tk} (h : Rdr w b g ts d) (k : Below w.heap.size w w') : Rdr w' b g ts d := by
  obtain ⟨hg, o, cap, r⟩ := h
  refine ⟨Nat.lt_of_lt_of_le hg k.size, o, cap, (k.block b (lt_of_row r.blk)).trans r.blk, r.gb, r.le, r.mx, r.toks.on fun o => k.cell (p := ⟨g, o, none⟩) hg, r.lk.on k, r.lo⟩
theorem Rdr.kx {X : Nat → Prop} {w w' : World} {b g d : Nat} {ts : List Tk} (h : Rdr w b g ts d) (k : Kx X w w') (hb : ¬ X b) (hg : ¬ X g) (hX : ∀ i, i < 13 → ¬ X i) : Rdr w' b g ts d := by
  obtain ⟨hg', o, cap, r⟩ := h
  exact ⟨Nat.lt_of_lt_of_le hg' k.size, o, cap, (k.block b (lt_of_row r.blk) hb).trans r.blk, r.gb, r.le, r.mx, r.toks.on fun o => k.cell (p := ⟨g, o, none⟩) hg' hg, r.lk.kx k hX, r.lo⟩

/-! Trees that are read: as in stage 4, with names of any length and places. -/
/-- An expression's cells, but for where its parts lie. -/
def opB : Ex → ByteArray
  | .num _ _ => ⟨#[]⟩
  | .reg _ => ⟨#[114, 101, 103]⟩
  | .one k _ => ⟨(op1 k).toArray⟩
  | .two k _ _ => ⟨(op2 k).toArray⟩
def nxB : Ex → Nat
  | .num re _ => fl false (re : Int)
  | _ => 0
def nyB : Ex → Nat
  | .num _ im => fl false (im : Int)
  | _ => 0
def nmB : Ex → ByteArray
  | .reg r => ⟨r.toArray⟩
  | _ => ⟨#[]⟩
def npB : Ex → Nat
  | .one _ _ => 1
  | .two _ _ _ => 2
  | _ => 0
def exv (e : Ex) (p : Option Addr) : Value := .agg #[.string (opB e), .complex .f64 (nxB e) (nyB e), .string (nmB e), .slice p (npB e) (npB e)]
/-- An expression's cells lie at a place. -/
def Cx (w : World) (g o : Nat) (e : Ex) (p : Option Addr) : Prop :=
  w.cell? ⟨g, o, none⟩ = some (.string (opB e)) ∧ w.cell? ⟨g, o + 1, none⟩ = some (.complex .f64 (nxB e) (nyB e)) ∧
  w.cell? ⟨g, o + 2, none⟩ = some (.string (nmB e)) ∧ w.cell? ⟨g, o + 3, none⟩ = some (.slice p (npB e) (npB e))
/-- Its parts lie where it says, in blocks of S. -/
def Px (w : World) (S : Nat → Prop) : Ex → Option Addr → Prop
  | .num _ _, p => p = none
  | .reg _, p => p = none
  | .one _ a, p => ∃ g q, p = some ⟨g, 0, none⟩ ∧ S g ∧ Cx w g 0 a q ∧ Px w S a q
  | .two _ a b, p => ∃ g q r, p = some ⟨g, 0, none⟩ ∧ S g ∧ Cx w g 0 a q ∧ Cx w g 4 b r ∧ Px w S a q ∧ Px w S b r
/-- Expressions, one behind the other. -/
def XsV (w : World) (S : Nat → Prop) (xs : List Ex) (p : Option Addr) (c : Nat) : Prop :=
  (xs = [] ∧ p = none ∧ c = 0) ∨ ∃ g, p = some ⟨g, 0, none⟩ ∧ S g ∧ 0 < xs.length ∧ xs.length ≤ c ∧ c ≤ maxLen ∧ ∀ i e, xs[i]? = some e → ∃ q, Cx w g (i * 4) e q ∧ Px w S e q
/-- A statement's cells lie at a place. -/
def Cs (w : World) (g o k : Nat) (rg nm : List UInt8) (ix : Bool) (px : Option Addr) (nx cx : Nat) (pb : Option Addr) (nb cb : Nat) (pe : Option Addr) (ne ce : Nat) (a : Int) : Prop :=
  w.cell? ⟨g, o, none⟩ = some (.int .i64 (k : Int)) ∧ w.cell? ⟨g, o + 1, none⟩ = some (.string ⟨rg.toArray⟩) ∧ w.cell? ⟨g, o + 2, none⟩ = some (.string ⟨nm.toArray⟩) ∧
  w.cell? ⟨g, o + 3, none⟩ = some (.bool ix) ∧ w.cell? ⟨g, o + 4, none⟩ = some (.slice px nx cx) ∧ w.cell? ⟨g, o + 5, none⟩ = some (.slice pb nb cb) ∧ w.cell? ⟨g, o + 6, none⟩ = some (.slice pe ne ce) ∧
  w.cell? ⟨g, o + 7, none⟩ = some (.int .i64 a)
def PtAt (w : World) (S : Nat → Prop) : Pt → Nat → Nat → Prop
  | .nil, _, _ => True
  | .cons k rg nm ix xs b e p r, g, o => (∃ px cx pb cb pe ce, Cs w g o k rg nm ix px xs.length cx pb b.len cb pe e.len ce (p : Int) ∧ XsV w S xs px cx ∧
      ((b = .nil ∧ pb = none ∧ cb = 0) ∨ ∃ g', pb = some ⟨g', 0, none⟩ ∧ S g' ∧ 0 < b.len ∧ b.len ≤ cb ∧ cb ≤ maxLen ∧ PtAt w S b g' 0) ∧
      ((e = .nil ∧ pe = none ∧ ce = 0) ∨ ∃ g', pe = some ⟨g', 0, none⟩ ∧ S g' ∧ 0 < e.len ∧ e.len ≤ ce ∧ ce ≤ maxLen ∧ PtAt w S e g' 0)) ∧ PtAt w S r g (o + 8)
/-- Statements, as a slice. -/
def PtV (w : World) (S : Nat → Prop) (b : Pt) (p : Option Addr) (c : Nat) : Prop :=
  (b = .nil ∧ p = none ∧ c = 0) ∨ ∃ g, p = some ⟨g, 0, none⟩ ∧ S g ∧ 0 < b.len ∧ b.len ≤ c ∧ c ≤ maxLen ∧ PtAt w S b g 0
theorem PtAt_cons {w : World} {S : Nat → Prop} {k : Nat} {rg nm : List UInt8} {ix : Bool} {xs : List Ex} {b e r : Pt} {p g o : Nat} :
    PtAt w S (.cons k rg nm ix xs b e p r) g o ↔ (∃ px cx pb cb pe ce, Cs w g o k rg nm ix px xs.length cx pb b.len cb pe e.len ce (p : Int) ∧ XsV w S xs px cx ∧ PtV w S b pb cb ∧ PtV w S e pe ce) ∧ PtAt w S r g (o + 8) := Iff.rfl
/-- A declaration's cells lie at a place. -/
def Cd (w : World) (g o : Nat) (d : Dp) (p : Option Addr) (c : Nat) : Prop :=
  w.cell? ⟨g, o, none⟩ = some (.int .i64 (d.so : Int)) ∧ w.cell? ⟨g, o + 1, none⟩ = some (.string ⟨d.nm.toArray⟩) ∧ w.cell? ⟨g, o + 2, none⟩ = some (.complex .f64 (fl false d.re) (fl false d.im)) ∧
  w.cell? ⟨g, o + 3, none⟩ = some (.slice p d.body.len c) ∧ w.cell? ⟨g, o + 4, none⟩ = some (.int .i64 (d.ps : Int))
def DpsAt (w : World) (S : Nat → Prop) (l : List Dp) (g : Nat) : Prop :=
  ∀ i d, l[i]? = some d → ∃ p c, Cd w g (i * 5) d p c ∧ PtV w S d.body p c
def DpsV (w : World) (S : Nat → Prop) (l : List Dp) (p : Option Addr) (c : Nat) : Prop :=
  (l = [] ∧ p = none ∧ c = 0) ∨ ∃ g, p = some ⟨g, 0, none⟩ ∧ S g ∧ 0 < l.length ∧ l.length ≤ c ∧ c ≤ maxLen ∧ DpsAt w S l g

/-- The blocks of S read as before. -/
def Same (S : Nat → Prop) (w w' : World) : Prop := ∀ g o, S g → w'.cell? ⟨g, o, none⟩ = w.cell? ⟨g, o, none⟩
theorem Same.below {S : Nat → Prop} {B : Nat} {w w' : World} (hb : Below B w w') (h : ∀ g, S g → g < B) : Same S w w' :=
  fun g o hg => hb.cell (p := ⟨g, o, none⟩) (h g hg)
theorem Same.kx {S X : Nat → Prop} {w w' : World} (hb : Kx X w w') (h : ∀ g, S g → g < w.heap.size ∧ ¬ X g) : Same S w w' :=
  fun g o hg => hb.cell (p := ⟨g, o, none⟩) (h g hg).1 (h g hg).2
theorem Cx.on {S : Nat → Prop} {w w' : World} {g o : Nat} {e : Ex} {p : Option Addr} (h : Cx w g o e p) (hs : Same S w w') (hg : S g) : Cx w' g o e p := by
  obtain ⟨a, b, c, d⟩ := h
  exact ⟨(hs g _ hg).trans a, (hs g _ hg).trans b, (hs g _ hg).trans c, (hs g _ hg).trans d⟩
theorem Px.on {S S' : Nat → Prop} {w w' : World} (hs : Same S w w') (hS : ∀ g, S g → S' g) {e : Ex} : ∀ {p : Option Addr}, Px w S e p → Px w' S' e p := by
  induction e with
  | num re im => intro p h; exact h
  | reg r => intro p h; exact h
  | one k a ih =>
    rintro p ⟨g, q, rfl, hg, hc, hp⟩
    exact ⟨g, q, rfl, hS g hg, hc.on hs hg, ih hp⟩
  | two k a b iha ihb =>
    rintro p ⟨g, q, r, rfl, hg, hc, hd, hp, hr⟩
    exact ⟨g, q, r, rfl, hS g hg, hc.on hs hg, hd.on hs hg, iha hp, ihb hr⟩
theorem XsV.on {S S' : Nat → Prop} {w w' : World} (hs : Same S w w') (hS : ∀ g, S g → S' g) {xs : List Ex} {p : Option Addr} {c : Nat} (h : XsV w S xs p c) : XsV w' S' xs p c := by
  rcases h with h | ⟨g, rfl, hg, h0, h1, h2, h⟩
  · exact .inl h
  · refine .inr ⟨g, rfl, hS g hg, h0, h1, h2, fun i e he => ?_⟩
    obtain ⟨q, hc, hp⟩ := h i e he
    exact ⟨q, hc.on hs hg, hp.on hs hS⟩
theorem Cs.on {S : Nat → Prop} {w w' : World} {g o k : Nat} {rg nm : List UInt8} {ix : Bool} {px : Option Addr} {nx cx : Nat} {pb : Option Addr} {nb cb : Nat} {pe : Option Addr} {ne ce : Nat} {at_ : Int}
    (h : Cs w g o k rg nm ix px nx cx pb nb cb pe ne ce at_) (hs : Same S w w') (hg : S g) : Cs w' g o k rg nm ix px nx cx pb nb cb pe ne ce at_ := by
  obtain ⟨a, b, c, d, e, f, i, j⟩ := h
  exact ⟨(hs g _ hg).trans a, (hs g _ hg).trans b, (hs g _ hg).trans c, (hs g _ hg).trans d, (hs g _ hg).trans e, (hs g _ hg).trans f, (hs g _ hg).trans i, (hs g _ hg).trans j⟩
theorem PtAt.on {S S' : Nat → Prop} {w w' : World} (hs : Same S w w') (hS : ∀ g, S g → S' g) {l : Pt} : ∀ {g o : Nat}, S g → PtAt w S l g o → PtAt w' S' l g o := by
  induction l with
  | nil => intro g o _ _; trivial
  | cons k rg nm ix xs b e p r ihb ihe ihr =>
    rintro g o hg ⟨⟨px, cx, pb, cb, pe, ce, hc, hx, hb, he⟩, hr⟩
    refine ⟨⟨px, cx, pb, cb, pe, ce, hc.on hs hg, hx.on hs hS, ?_, ?_⟩, ihr hg hr⟩
    · rcases hb with hb | ⟨g', rfl, hg', h0, h1, h2, h⟩
      · exact .inl hb
      · exact .inr ⟨g', rfl, hS g' hg', h0, h1, h2, ihb hg' h⟩
    · rcases he with he | ⟨g', rfl, hg', h0, h1, h2, h⟩
      · exact .inl he
      · exact .inr ⟨g', rfl, hS g' hg', h0, h1, h2, ihe hg' h⟩
theorem PtV.on {S S' : Nat → Prop} {w w' : World} (hs : Same S w w') (hS : ∀ g, S g → S' g) {l : Pt} {p : Option Addr} {c : Nat} (h : PtV w S l p c) : PtV w' S' l p c := by
  rcases h with h | ⟨g, rfl, hg, h0, h1, h2, h⟩
  · exact .inl h
  · exact .inr ⟨g, rfl, hS g hg, h0, h1, h2, h.on hs hS hg⟩
theorem DpsAt.on {S S' : Nat → Prop} {w w' : World} (hs : Same S w w') (hS : ∀ g, S g → S' g) {l : List Dp} {g : Nat} (hg : S g) (h : DpsAt w S l g) : DpsAt w' S' l g := by
  intro i d hd
  obtain ⟨p, c, ⟨h0, h1, h2, h3, h4⟩, hv⟩ := h i d hd
  exact ⟨p, c, ⟨(hs g _ hg).trans h0, (hs g _ hg).trans h1, (hs g _ hg).trans h2, (hs g _ hg).trans h3, (hs g _ hg).trans h4⟩, hv.on hs hS⟩
theorem PtAt.app {w : World} {S : Nat → Prop} {l m : Pt} : ∀ {g o : Nat}, PtAt w S l g o → PtAt w S m g (o + 8 * l.len) → PtAt w S (l.app m) g o := by
  induction l with
  | nil => intro g o _ h; simpa [Pt.len, Pt.app] using h
  | cons k rg nm ix xs b e p r _ _ ihr =>
    rintro g o ⟨h, hr⟩ hm
    refine ⟨h, ihr hr ?_⟩
    rw [show o + 8 + 8 * r.len = o + 8 * (r.len + 1) by omega]
    exact hm
/-- New blocks: from B on. -/
def Nw (B : Nat) (w : World) (g : Nat) : Prop := B ≤ g ∧ g < w.heap.size
theorem Px.nw {B B' : Nat} {X : Nat → Prop} {w w' : World} {e : Ex} {p : Option Addr} (h : Px w (Nw B w) e p) (k : Kx X w w') (hX : ∀ g, B ≤ g → g < w.heap.size → ¬ X g) (hB : B' ≤ B) : Px w' (Nw B' w') e p :=
  h.on (Same.kx k fun g hg => ⟨hg.2, hX g hg.1 hg.2⟩) fun g hg => ⟨Nat.le_trans hB hg.1, Nat.lt_of_lt_of_le hg.2 k.size⟩
end Go.Proofs.YtgiioflkclkioaaGreatDoor
