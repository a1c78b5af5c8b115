/- A statement's expressions, being appended. -/
import Derived.Test.YtmomdcnlhljhcaaDoorMs
set_option linter.unusedSimpArgs false
set_option linter.unusedVariables false
namespace Go.Proofs.YtmomdcnlhljhcaaDoor
open Go.RowKit Ieee

def exq (e : Ex) (q : Option Addr) : List Value := exc (opB e) (nxB e) (nyB e) (nmB e) q (npB e)
def qcs (qs : List (Ex × Option Addr)) : List Value := qs.flatMap fun z => exq z.1 z.2
theorem qcs_app (a b : List (Ex × Option Addr)) : qcs (a ++ b) = qcs a ++ qcs b := by simp [qcs]
/-- Expressions in a row of one's own; their parts elsewhere. -/
structure Xo (wx : World) (n : Nat) (qs : List (Ex × Option Addr)) (v : Value) : Prop where
  own : wx.ownsRow (n + 5) 48 4 v qs.length (qcs qs)
  px : ∀ z ∈ qs, Px wx (fun g => n + 5 ≤ g ∧ g < wx.heap.size ∧ v.ownBlock ≠ some g) z.1 z.2
theorem Xo.nil (wx : World) (n : Nat) : Xo wx n [] (.slice none 0 0) := ⟨World.ownsRow_nil _ _ _ _, by simp⟩
theorem Xo.keep {wx w2 : World} {n : Nat} {qs : List (Ex × Option Addr)} {v : Value} (h : Xo wx n qs v) (hb : Below wx.heap.size wx w2) : Xo w2 n qs v :=
  ⟨own_below h.own hb, fun z hz => (h.px z hz).on (Same.below hb (fun g hg => hg.2.1)) (fun g hg => ⟨hg.1, Nat.lt_of_lt_of_le hg.2.1 hb.size, hg.2.2⟩)⟩
theorem Xo.setY {wx : World} {n : Nat} {qs : List (Ex × Option Addr)} {v : Value} (h : Xo wx n qs v) (i : Nat) (u : Value) : Xo (wx.setCell ⟨n + 4, i, none⟩ u) n qs v := by
  have hb : ∀ j, j ≠ n + 4 → (wx.setCell ⟨n + 4, i, none⟩ u).heap[j]? = wx.heap[j]? := fun j hj => Below.heap_setCell _ _ _ _ (fun e => hj e)
  have hz : (wx.setCell ⟨n + 4, i, none⟩ u).heap.size = wx.heap.size := by simp
  refine ⟨own_of_block h.own ?_, fun z hzz => (h.px z hzz).on ?_ ?_⟩
  · rintro g hg o ho _
    have := (h.own.lt g hg).1
    exact (hb g (by omega)).trans ho
  · intro g o hg
    exact World.cell?_of_block (a := ⟨g, o, none⟩) (hb g (by have := hg.1; omega))
  · intro g hg
    rw [hz]
    exact hg
theorem Xo.drew {wx : World} {n : Nat} {qs : List (Ex × Option Addr)} {v : Value} (h : Xo wx n qs v) : Xo wx.drew n qs v := by
  refine ⟨h.own, fun z hz => ?_⟩
  have hs : Same (fun g => n + 5 ≤ g ∧ g < wx.heap.size ∧ v.ownBlock ≠ some g) wx wx.drew := fun g o _ => rfl
  exact (h.px z hz).on hs (fun g hg => hg)
/-- New expressions behind them. -/
theorem Xo.app {wx w2 w3 : World} {n g cap m : Nat} {o : Obj} {qs ns : List (Ex × Option Addr)} {v : Value} (h : Xo wx n qs v) (hn : n + 5 ≤ wx.heap.size) (hb : Below wx.heap.size wx w2)
    (hp : ∀ z ∈ ns, Px w2 (fun g => wx.heap.size ≤ g ∧ g < w2.heap.size) z.1 z.2) (hm : m = ns.length) (hg : (w2.alloc o).grownBy w3 v.ownBlock) (hat : v.ownBlock = some g ∨ g = w2.heap.size + 1)
    (ho : w3.ownsRow (n + 5) 48 4 (.slice (some ⟨g, 0, none⟩) (qs.length + m) cap) (qs.length + m) (qcs qs ++ qcs ns)) : Xo w3 n (qs ++ ns) (.slice (some ⟨g, 0, none⟩) (qs.length + m) cap) := by
  have hz2 := hb.size
  have hz3 := hg.size
  simp at hz3
  have hk : ∀ j, j < w2.heap.size → v.ownBlock ≠ some j → w3.heap[j]? = w2.heap[j]? := fun j hj hne => by
    rw [hg.block j (by simp; omega) (fun e => hne e.symm), Below.heap_alloc _ _ _ hj]
  have hvlt : ∀ j, v.ownBlock = some j → j < wx.heap.size := fun j hj => (h.own.lt j hj).2
  refine ⟨by subst hm; rw [List.length_append, qcs_app]; exact ho, ?_⟩
  intro z hz
  rcases List.mem_append.1 hz with hz | hz
  · have h1 := (h.px z hz).on (Same.below hb (fun g hg => hg.2.1)) (S' := fun g => n + 5 ≤ g ∧ g < wx.heap.size ∧ v.ownBlock ≠ some g) (fun g hg => hg)
    refine h1.on (fun b o' hb' => World.cell?_of_block (a := ⟨b, o', none⟩) (hk b (by have := hb'.2.1; omega) hb'.2.2)) (fun b hb' => ⟨hb'.1, by have := hb'.2.1; omega, ?_⟩)
    simp only [Value.ownBlock]
    intro he
    injection he with he
    rcases hat with hat | hat
    · exact hb'.2.2 (by rw [hat, he])
    · have := hb'.2.1; omega
  · refine (hp z hz).on (fun b o' hb' => World.cell?_of_block (a := ⟨b, o', none⟩) (hk b hb'.2 (fun e => by have := hvlt b e; have := hb'.1; omega))) (fun b hb' => ⟨by have := hb'.1; omega, by have := hb'.2; omega, ?_⟩)
    simp only [Value.ownBlock]
    intro he
    injection he with he
    rcases hat with hat | hat
    · have := hvlt g hat; have := hb'.1; omega
    · have := hb'.2; omega
theorem qcs_at (qs : List (Ex × Option Addr)) : ∀ (i j : Nat) (y : Ex × Option Addr), qs[i]? = some y → j < 4 → (qcs qs)[i * 4 + j]? = (exq y.1 y.2)[j]? := by
  induction qs with
  | nil => intro i j y h; simp at h
  | cons u us ih =>
    intro i j y h hj
    have e : qcs (u :: us) = exq u.1 u.2 ++ qcs us := rfl
    have hl : (exq u.1 u.2).length = 4 := rfl
    rw [e]
    cases i with
    | zero =>
      simp only [List.getElem?_cons_zero, Option.some.injEq] at h
      subst h
      rw [List.getElem?_append_left (by omega)]
      simp
    | succ i =>
      rw [List.getElem?_cons_succ] at h
      rw [List.getElem?_append_right (by omega), show (i + 1) * 4 + j - (exq u.1 u.2).length = i * 4 + j by omega]
      exact ih i j y h hj
/-- As statements are read. -/
theorem Xo.read {wx : World} {n : Nat} {qs : List (Ex × Option Addr)} {v : Value} (h : Xo wx n qs v) (hq : qs = [] → v = .slice none 0 0) : ∃ px cx, v = .slice px (qs.map Prod.fst).length cx ∧ XsV wx (fun g => n + 5 ≤ g ∧ g < wx.heap.size) (qs.map Prod.fst) px cx := by
  rcases h.own.2 with ⟨rfl, h0⟩ | ⟨g, cap, cur, rfl, h1, h2, h3, h4, h5, h6⟩
  · have : qs = [] := List.length_eq_zero_iff.1 h0
    subst this
    exact ⟨none, 0, rfl, .inl ⟨rfl, rfl, rfl⟩⟩
  · refine ⟨some ⟨g, 0, none⟩, cap, by simp, ?_⟩
    cases qs with
    | nil => have := hq rfl; cases this
    | cons z qs =>
      refine .inr ⟨g, rfl, ⟨h1, (h.own.lt g rfl).2⟩, by simp, by simpa using h3, h4, ?_⟩
      intro i e he
      rw [List.getElem?_map] at he
      cases hz : (z :: qs)[i]? with
      | none => rw [hz] at he; cases he
      | some y =>
        rw [hz] at he
        injection he with he
        subst he
        have hi : i < (z :: qs).length := (List.getElem?_eq_some_iff.1 hz).1
        have key : ∀ j, j < 4 → wx.cell? ⟨g, i * 4 + j, none⟩ = (exq y.1 y.2)[j]? := fun j hj => by
          rw [h.own.cellAt (i * 4 + j) (by omega)]
          exact qcs_at (z :: qs) i j y hz hj
        refine ⟨y.2, ⟨key 0 (by omega), key 1 (by omega), key 2 (by omega), key 3 (by omega)⟩, (h.px y (List.mem_of_getElem? hz)).on (fun g o _ => rfl) (fun b hb => ⟨hb.1, hb.2.1⟩)⟩
/-- The statement's value stored into the answer's block. -/
theorem fin8 {w wc : World} {n : Nat} (hn : w.heap.size = n) (hb : Below n w wc) (hs : n + 5 ≤ wc.heap.size) {xs : List Ex} {px : Option Addr} {cx : Nat} (hx : XsV wc (fun g => n + 5 ≤ g ∧ g < wc.heap.size) xs px cx) (a0 a1 a2 a3 a4 a5 a6 a7 : Value) (w' : World)
    (hw : w' = (((((((wc.setCell ⟨n + 2, 0, none⟩ a0).setCell ⟨n + 2, 1, none⟩ a1).setCell ⟨n + 2, 2, none⟩ a2).setCell ⟨n + 2, 3, none⟩ a3).setCell ⟨n + 2, 4, none⟩ a4).setCell ⟨n + 2, 5, none⟩ a5).setCell ⟨n + 2, 6, none⟩ a6).setCell ⟨n + 2, 7, none⟩ a7) :
    XsV w' (fun g => w.heap.size ≤ g ∧ g < w'.heap.size) xs px cx ∧ Below w.heap.size w w' := by
  have hle : n ≤ n + 2 := by omega
  have hz : w'.heap.size = wc.heap.size := by rw [hw]; simp
  refine ⟨hx.on ?_ (fun g hg => ⟨by have := hg.1; omega, by rw [hz]; exact hg.2⟩), ?_⟩
  · intro g o hg
    have hne : ∀ (W : World) (i : Nat) (u : Value), (W.setCell ⟨n + 2, i, none⟩ u).cell? ⟨g, o, none⟩ = W.cell? ⟨g, o, none⟩ := fun W i u => World.cell?_of_block (a := ⟨g, o, none⟩) (Below.heap_setCell _ _ _ _ (fun e => by have := hg.1; simp only at e; omega))
    rw [hw, hne, hne, hne, hne, hne, hne, hne, hne]
  · rw [hn, hw]
    exact (((((((hb.setCell hle _).setCell hle _).setCell hle _).setCell hle _).setCell hle _).setCell hle _).setCell hle _).setCell hle _
end Go.Proofs.YtmomdcnlhljhcaaDoor
