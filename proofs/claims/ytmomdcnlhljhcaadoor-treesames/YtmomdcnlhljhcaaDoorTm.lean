/- Trees in memory: how expressions, statements, declarations lie there; what keeps them. -/
import Derived.Test.YtmomdcnlhljhcaaDoorTr
import Derived.Test.YtmomdcnlhljhcaaDoorTx
import Derived.Maps.AppendAt
import Derived.Deep.AppendLies
import Derived.OwnWalk
import Derived.Laws.OwnMore
set_option linter.unusedSimpArgs false
set_option linter.unusedVariables false
namespace Go.Proofs.YtmomdcnlhljhcaaDoor
open Go.RowKit Ieee

/-- An expression's cells, but for where its parts lie. -/
def opB : Ex → ByteArray
  | .num _ _ => ⟨#[]⟩
  | .reg _ => ⟨#[114, 101, 103]⟩
  | .one k _ => ⟨(op1 k).toArray⟩
  | .two k _ _ => ⟨(op2 k).toArray⟩
def nxB : Ex → Nat
  | .num re _ => fl false (re : Int)
  | _ => 0
def nyB : Ex → Nat
  | .num _ im => fl false (im : Int)
  | _ => 0
def nmB : Ex → ByteArray
  | .reg r => ⟨#[r]⟩
  | _ => ⟨#[]⟩
def npB : Ex → Nat
  | .one _ _ => 1
  | .two _ _ _ => 2
  | _ => 0
def exv (e : Ex) (p : Option Addr) : Value := .agg #[.string (opB e), .complex .f64 (nxB e) (nyB e), .string (nmB e), .slice p (npB e) (npB e)]
/-- An expression's cells lie at a place. -/
def Cx (w : World) (g o : Nat) (e : Ex) (p : Option Addr) : Prop :=
  w.cell? ⟨g, o, none⟩ = some (.string (opB e)) ∧ w.cell? ⟨g, o + 1, none⟩ = some (.complex .f64 (nxB e) (nyB e)) ∧
  w.cell? ⟨g, o + 2, none⟩ = some (.string (nmB e)) ∧ w.cell? ⟨g, o + 3, none⟩ = some (.slice p (npB e) (npB e))
/-- Its parts lie where it says, in blocks of S. -/
def Px (w : World) (S : Nat → Prop) : Ex → Option Addr → Prop
  | .num _ _, p => p = none
  | .reg _, p => p = none
  | .one _ a, p => ∃ g q, p = some ⟨g, 0, none⟩ ∧ S g ∧ Cx w g 0 a q ∧ Px w S a q
  | .two _ a b, p => ∃ g q r, p = some ⟨g, 0, none⟩ ∧ S g ∧ Cx w g 0 a q ∧ Cx w g 4 b r ∧ Px w S a q ∧ Px w S b r
/-- Expressions, one behind the other. -/
def XsV (w : World) (S : Nat → Prop) (xs : List Ex) (p : Option Addr) (c : Nat) : Prop :=
  (xs = [] ∧ p = none ∧ c = 0) ∨ ∃ g, p = some ⟨g, 0, none⟩ ∧ S g ∧ 0 < xs.length ∧ xs.length ≤ c ∧ c ≤ maxLen ∧ ∀ i e, xs[i]? = some e → ∃ q, Cx w g (i * 4) e q ∧ Px w S e q

/-- A statement's cells lie at a place. -/
def Cs (w : World) (g o k : Nat) (rg nm : List UInt8) (ix : Bool) (px : Option Addr) (nx cx : Nat) (pb : Option Addr) (nb cb : Nat) (pe : Option Addr) (ne ce : Nat) : Prop :=
  w.cell? ⟨g, o, none⟩ = some (.int .i64 (k : Int)) ∧ w.cell? ⟨g, o + 1, none⟩ = some (.string ⟨rg.toArray⟩) ∧ w.cell? ⟨g, o + 2, none⟩ = some (.string ⟨nm.toArray⟩) ∧
  w.cell? ⟨g, o + 3, none⟩ = some (.bool ix) ∧ w.cell? ⟨g, o + 4, none⟩ = some (.slice px nx cx) ∧ w.cell? ⟨g, o + 5, none⟩ = some (.slice pb nb cb) ∧ w.cell? ⟨g, o + 6, none⟩ = some (.slice pe ne ce) ∧
  w.cell? ⟨g, o + 7, none⟩ = some (.int .i64 0)
def StsAt (w : World) (S : Nat → Prop) : Sts → Nat → Nat → Prop
  | .nil, _, _ => True
  | .cons k rg nm ix xs b e r, g, o => (∃ px cx pb cb pe ce, Cs w g o k rg nm ix px xs.length cx pb b.len cb pe e.len ce ∧ XsV w S xs px cx ∧
      ((b = .nil ∧ pb = none ∧ cb = 0) ∨ ∃ g', pb = some ⟨g', 0, none⟩ ∧ S g' ∧ 0 < b.len ∧ b.len ≤ cb ∧ cb ≤ maxLen ∧ StsAt w S b g' 0) ∧
      ((e = .nil ∧ pe = none ∧ ce = 0) ∨ ∃ g', pe = some ⟨g', 0, none⟩ ∧ S g' ∧ 0 < e.len ∧ e.len ≤ ce ∧ ce ≤ maxLen ∧ StsAt w S e g' 0)) ∧ StsAt w S r g (o + 8)
/-- Statements, as a slice. -/
def StsV (w : World) (S : Nat → Prop) (b : Sts) (p : Option Addr) (c : Nat) : Prop :=
  (b = .nil ∧ p = none ∧ c = 0) ∨ ∃ g, p = some ⟨g, 0, none⟩ ∧ S g ∧ 0 < b.len ∧ b.len ≤ c ∧ c ≤ maxLen ∧ StsAt w S b g 0
theorem StsAt_cons {w : World} {S : Nat → Prop} {k : Nat} {rg nm : List UInt8} {ix : Bool} {xs : List Ex} {b e r : Sts} {g o : Nat} :
    StsAt w S (.cons k rg nm ix xs b e r) g o ↔ (∃ px cx pb cb pe ce, Cs w g o k rg nm ix px xs.length cx pb b.len cb pe e.len ce ∧ XsV w S xs px cx ∧ StsV w S b pb cb ∧ StsV w S e pe ce) ∧ StsAt w S r g (o + 8) := Iff.rfl

/-- A declaration's cells lie at a place. -/
def Cd (w : World) (g o : Nat) (d : Dc) (p : Option Addr) (c : Nat) (at_ : Int) : Prop :=
  w.cell? ⟨g, o, none⟩ = some (.int .i64 (d.so : Int)) ∧ w.cell? ⟨g, o + 1, none⟩ = some (.string ⟨d.nm.toArray⟩) ∧ w.cell? ⟨g, o + 2, none⟩ = some (.complex .f64 (fl false d.re) (fl false d.im)) ∧
  w.cell? ⟨g, o + 3, none⟩ = some (.slice p d.body.len c) ∧ w.cell? ⟨g, o + 4, none⟩ = some (.int .i64 at_)
def DcsAt (w : World) (S : Nat → Prop) (l : List Dc) (g : Nat) : Prop :=
  ∀ i d, l[i]? = some d → ∃ p c at_, 0 ≤ at_ ∧ at_ ≤ 255 ∧ Cd w g (i * 5) d p c at_ ∧ StsV w S d.body p c

/-! What keeps them. -/
/-- The blocks of S read as before. -/
def Same (S : Nat → Prop) (w w' : World) : Prop := ∀ g o, S g → w'.cell? ⟨g, o, none⟩ = w.cell? ⟨g, o, none⟩
theorem Same.below {S : Nat → Prop} {B : Nat} {w w' : World} (hb : Below B w w') (h : ∀ g, S g → g < B) : Same S w w' :=
  fun g o hg => hb.cell (p := ⟨g, o, none⟩) (h g hg)
theorem Cx.on {S : Nat → Prop} {w w' : World} {g o : Nat} {e : Ex} {p : Option Addr} (h : Cx w g o e p) (hs : Same S w w') (hg : S g) : Cx w' g o e p := by
  obtain ⟨a, b, c, d⟩ := h
  exact ⟨(hs g _ hg).trans a, (hs g _ hg).trans b, (hs g _ hg).trans c, (hs g _ hg).trans d⟩
theorem Px.on {S S' : Nat → Prop} {w w' : World} (hs : Same S w w') (hS : ∀ g, S g → S' g) {e : Ex} : ∀ {p : Option Addr}, Px w S e p → Px w' S' e p := by
  induction e with
  | num re im => intro p h; exact h
  | reg r => intro p h; exact h
  | one k a ih =>
    rintro p ⟨g, q, rfl, hg, hc, hp⟩
    exact ⟨g, q, rfl, hS g hg, hc.on hs hg, ih hp⟩
  | two k a b iha ihb =>
    rintro p ⟨g, q, r, rfl, hg, hc, hd, hp, hr⟩
    exact ⟨g, q, r, rfl, hS g hg, hc.on hs hg, hd.on hs hg, iha hp, ihb hr⟩
theorem XsV.on {S S' : Nat → Prop} {w w' : World} (hs : Same S w w') (hS : ∀ g, S g → S' g) {xs : List Ex} {p : Option Addr} {c : Nat} (h : XsV w S xs p c) : XsV w' S' xs p c := by
  rcases h with h | ⟨g, rfl, hg, h0, h1, h2, h⟩
  · exact .inl h
  · refine .inr ⟨g, rfl, hS g hg, h0, h1, h2, fun i e he => ?_⟩
    obtain ⟨q, hc, hp⟩ := h i e he
    exact ⟨q, hc.on hs hg, hp.on hs hS⟩
theorem Cs.on {S : Nat → Prop} {w w' : World} {g o k : Nat} {rg nm : List UInt8} {ix : Bool} {px : Option Addr} {nx cx : Nat} {pb : Option Addr} {nb cb : Nat} {pe : Option Addr} {ne ce : Nat}
    (h : Cs w g o k rg nm ix px nx cx pb nb cb pe ne ce) (hs : Same S w w') (hg : S g) : Cs w' g o k rg nm ix px nx cx pb nb cb pe ne ce := by
  obtain ⟨a, b, c, d, e, f, i, j⟩ := h
  exact ⟨(hs g _ hg).trans a, (hs g _ hg).trans b, (hs g _ hg).trans c, (hs g _ hg).trans d, (hs g _ hg).trans e, (hs g _ hg).trans f, (hs g _ hg).trans i, (hs g _ hg).trans j⟩
theorem StsAt.on {S S' : Nat → Prop} {w w' : World} (hs : Same S w w') (hS : ∀ g, S g → S' g) {l : Sts} : ∀ {g o : Nat}, S g → StsAt w S l g o → StsAt w' S' l g o := by
  induction l with
  | nil => intro g o _ _; trivial
  | cons k rg nm ix xs b e r ihb ihe ihr =>
    rintro g o hg ⟨⟨px, cx, pb, cb, pe, ce, hc, hx, hb, he⟩, hr⟩
    refine ⟨⟨px, cx, pb, cb, pe, ce, hc.on hs hg, hx.on hs hS, ?_, ?_⟩, ihr hg hr⟩
    · rcases hb with hb | ⟨g', rfl, hg', h0, h1, h2, h⟩
      · exact .inl hb
      · exact .inr ⟨g', rfl, hS g' hg', h0, h1, h2, ihb hg' h⟩
    · rcases he with he | ⟨g', rfl, hg', h0, h1, h2, h⟩
      · exact .inl he
      · exact .inr ⟨g', rfl, hS g' hg', h0, h1, h2, ihe hg' h⟩
theorem StsV.on {S S' : Nat → Prop} {w w' : World} (hs : Same S w w') (hS : ∀ g, S g → S' g) {l : Sts} {p : Option Addr} {c : Nat} (h : StsV w S l p c) : StsV w' S' l p c := by
  rcases h with h | ⟨g, rfl, hg, h0, h1, h2, h⟩
  · exact .inl h
  · exact .inr ⟨g, rfl, hS g hg, h0, h1, h2, h.on hs hS hg⟩
theorem DcsAt.on {S S' : Nat → Prop} {w w' : World} (hs : Same S w w') (hS : ∀ g, S g → S' g) {l : List Dc} {g : Nat} (hg : S g) (h : DcsAt w S l g) : DcsAt w' S' l g := by
  intro i d hd
  obtain ⟨p, c, a, ha, hb, ⟨h0, h1, h2, h3, h4⟩, hv⟩ := h i d hd
  exact ⟨p, c, a, ha, hb, ⟨(hs g _ hg).trans h0, (hs g _ hg).trans h1, (hs g _ hg).trans h2, (hs g _ hg).trans h3, (hs g _ hg).trans h4⟩, hv.on hs hS⟩
theorem StsAt.app {w : World} {S : Nat → Prop} {l m : Sts} : ∀ {g o : Nat}, StsAt w S l g o → StsAt w S m g (o + 8 * l.len) → StsAt w S (l.app m) g o := by
  induction l with
  | nil => intro g o _ h; simpa [Sts.len, Sts.app] using h
  | cons k rg nm ix xs b e r _ _ ihr =>
    rintro g o ⟨h, hr⟩ hm
    refine ⟨h, ihr hr ?_⟩
    rw [show o + 8 + 8 * r.len = o + 8 * (r.len + 1) by omega]
    exact hm
/-- The i-th statement. -/
def Sts.get : Sts → Nat → Option (Nat × List UInt8 × List UInt8 × Bool × List Ex × Sts × Sts)
  | .nil, _ => none
  | .cons k rg nm ix xs b e _, 0 => some (k, rg, nm, ix, xs, b, e)
  | .cons _ _ _ _ _ _ _ r, i + 1 => r.get i
end Go.Proofs.YtmomdcnlhljhcaaDoor
