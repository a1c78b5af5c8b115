/- A statement's expressions, being read and appended. -/
import Derived.Test.YtgiioflkclkioaaGreatDoorAk
set_option linter.unusedSimpArgs false
set_option linter.unusedVariables false
namespace Go.Proofs.YtgiioflkclkioaaGreatDoor
open Go.RowKit Ieee

theorem e_info : (Tryz.prog.info? 159).map (fun i => (i.zero, i.size, i.bytes)) = some (some (.agg #[.string ⟨#[]⟩, .complex .f64 0 0, .string ⟨#[]⟩, .slice none 0 0]), 4, 72) := by kernel_rfl
def exq (e : Ex) (q : Option Addr) : List Value := [.string (opB e), .complex .f64 (nxB e) (nyB e), .string (nmB e), .slice q (npB e) (npB e)]
def zexq : List Value := [.string ⟨#[]⟩, .complex .f64 0 0, .string ⟨#[]⟩, .slice none 0 0]
theorem zexq_one : ∀ u ∈ zexq, u.oneCell' = true := by
  intro u hu
  simp only [zexq, List.mem_cons, List.not_mem_nil, or_false] at hu
  rcases hu with rfl | rfl | rfl | rfl <;> rfl
def qcs (qs : List (Ex × Option Addr)) : List Value := qs.flatMap fun z => exq z.1 z.2
theorem qcs_app (a b : List (Ex × Option Addr)) : qcs (a ++ b) = qcs a ++ qcs b := by simp [qcs]
theorem qcs_len (qs : List (Ex × Option Addr)) : (qcs qs).length = qs.length * 4 := by
  induction qs with
  | nil => rfl
  | cons z qs ih =>
    have e : qcs (z :: qs) = exq z.1 z.2 ++ qcs qs := rfl
    rw [e, List.length_append, ih]
    simp [exq]; omega
/-- Expressions in a row of one's own; their parts elsewhere. -/
structure Xq (wx : World) (B : Nat) (qs : List (Ex × Option Addr)) (v : Value) : Prop where
  own : wx.ownsRow B 159 4 v qs.length (qcs qs)
  px : ∀ z ∈ qs, Px wx (fun g => B ≤ g ∧ g < wx.heap.size ∧ v.ownBlock ≠ some g) z.1 z.2
  nil : qs = [] → v = .slice none 0 0
theorem Xq.start (wx : World) (B : Nat) : Xq wx B [] (.slice none 0 0) := ⟨World.ownsRow_nil _ _ _ _, by simp, fun _ => rfl⟩
theorem own_kx {X : Nat → Prop} {w w2 : World} {base : Nat} {e : TypeId} {size : Nat} {v : Value} {n : Nat} {xs : List Value} (h : w.ownsRow base e size v n xs) (hb : Kx X w w2) (hX : ∀ i, base ≤ i → ¬ X i) : w2.ownsRow base e size v n xs := by
  refine ⟨h.1, ?_⟩
  rcases h.2 with h' | ⟨g, cap, cur, h1, h2, h3, h4⟩
  · exact .inl h'
  · exact .inr ⟨g, cap, cur, h1, h2, (hb.block g (lt_of_row h3) (hX g h2)).trans h3, h4⟩
theorem Xq.kx {X : Nat → Prop} {w w2 : World} {B : Nat} {qs : List (Ex × Option Addr)} {v : Value} (h : Xq w B qs v) (hb : Kx X w w2) (hX : ∀ i, B ≤ i → ¬ X i) : Xq w2 B qs v :=
  ⟨own_kx h.own hb hX, fun z hz => (h.px z hz).on (Same.kx hb fun g hg => ⟨hg.2.1, hX g hg.1⟩) (fun g hg => ⟨hg.1, Nat.lt_of_lt_of_le hg.2.1 hb.size, hg.2.2⟩), h.nil⟩
theorem set_behind (l : List Value) (a b c d u v x y : Value) (n : Nat) (hn : l.length = n) : ((((l ++ [a, b, c, d]).set n u).set (n + 1) v).set (n + 2) x).set (n + 3) y = l ++ [u, v, x, y] := by
  subst hn
  simp [List.set_append]
set_option maxHeartbeats 3200000 in
/-- The row behind an append of a nought, and the stores of an expression's cells into it. -/
theorem Xq.app {wx w2 w3 : World} {B b c g cap z : Nat} {qs : List (Ex × Option Addr)} {v : Value} {x : Ex} {p : Option Addr} (h : Xq wx B qs v) (hbB : b < B) (hcB : c < B) (hB : B ≤ wx.heap.size) (hk : Kx (· = b) wx w2)
    (hp : Px w2 (Nw wx.heap.size w2) x p) (hg : w2.grownBy w3 v.ownBlock) (hat : v.ownBlock = some g ∨ g = w2.heap.size)
    (ho : w3.ownsRow B 159 4 (.slice (some ⟨g, 0, none⟩) (qs.length + 1) cap) (qs.length + 1) (qcs qs ++ zexq)) (u : Value) (W : World)
    (hW : W = ((((w3.setCell ⟨g, qs.length * 4, none⟩ (.string (opB x))).setCell ⟨g, qs.length * 4 + 1, none⟩ (.complex .f64 (nxB x) (nyB x))).setCell ⟨g, qs.length * 4 + 2, none⟩ (.string (nmB x))).setCell ⟨g, qs.length * 4 + 3, none⟩ (.slice p (npB x) (npB x))).setCell ⟨c, 4, none⟩ u ∨
      W = ((((w3.setCell ⟨c, 4, none⟩ u).setCell ⟨g, qs.length * 4, none⟩ (.string (opB x))).setCell ⟨g, qs.length * 4 + 1, none⟩ (.complex .f64 (nxB x) (nyB x))).setCell ⟨g, qs.length * 4 + 2, none⟩ (.string (nmB x))).setCell ⟨g, qs.length * 4 + 3, none⟩ (.slice p (npB x) (npB x))) :
    Xq W B (qs ++ [(x, p)]) (.slice (some ⟨g, 0, none⟩) (qs.length + 1) cap) ∧ Kx (fun i => i = b ∨ i = c ∨ B ≤ i) wx W ∧ W.heap.size = w3.heap.size ∧ (∀ k, k < B → k ≠ b → k ≠ c → W.heap[k]? = wx.heap[k]?) ∧ (∀ k, k < B → k ≠ c → W.heap[k]? = w2.heap[k]?) ∧ W.heap[c]? = (w3.setCell ⟨c, 4, none⟩ u).heap[c]? ∧ w3.heap[c]? = w2.heap[c]? := by
  have hvlt : ∀ j, v.ownBlock = some j → B ≤ j ∧ j < wx.heap.size := fun j hj => h.own.lt j hj
  have hz2 := hk.size
  have hz3 := hg.size
  have hgB : B ≤ g := by
    rcases hat with hat | hat
    · exact (hvlt g hat).1
    · omega
  have hcg : c ≠ g := by omega
  have hsz : W.heap.size = w3.heap.size := by rcases hW with rfl | rfl <;> simp
  have hoth : ∀ k, k ≠ g → k ≠ c → W.heap[k]? = w3.heap[k]? := by
    intro k h1 h2
    rcases hW with rfl | rfl
    · rw [Below.heap_setCell _ _ _ _ h2, Below.heap_setCell _ _ _ _ h1, Below.heap_setCell _ _ _ _ h1, Below.heap_setCell _ _ _ _ h1, Below.heap_setCell _ _ _ _ h1]
    · rw [Below.heap_setCell _ _ _ _ h1, Below.heap_setCell _ _ _ _ h1, Below.heap_setCell _ _ _ _ h1, Below.heap_setCell _ _ _ _ h1, Below.heap_setCell _ _ _ _ h2]
  have h32 : ∀ k, k < w2.heap.size → v.ownBlock ≠ some k → w3.heap[k]? = w2.heap[k]? := fun k h1 h2 => hg.block k h1 (fun e => h2 e.symm)
  have hown : W.ownsRow B 159 4 (.slice (some ⟨g, 0, none⟩) (qs.length + 1) cap) (qs.length + 1) (qcs qs ++ exq x p) := by
    have hl := qcs_len qs
    rcases hW with rfl | rfl
    · refine ownsRow_setCell_below ?_ (show c < B from hcB) _
      have := (((((ho.stored (qs.length * 4) (.string (opB x))).1.stored (qs.length * 4 + 1) (.complex .f64 (nxB x) (nyB x))).1.stored (qs.length * 4 + 2) (.string (nmB x))).1).stored (qs.length * 4 + 3) (.slice p (npB x) (npB x))).1
      rw [show qcs qs ++ zexq = qcs qs ++ [.string ⟨#[]⟩, .complex .f64 0 0, .string ⟨#[]⟩, .slice none 0 0] from rfl, set_behind _ _ _ _ _ _ _ _ _ _ hl] at this
      exact this
    · have ho' := ownsRow_setCell_below ho (a := ⟨c, 4, none⟩) (show c < B from hcB) u
      have := (((((ho'.stored (qs.length * 4) (.string (opB x))).1.stored (qs.length * 4 + 1) (.complex .f64 (nxB x) (nyB x))).1.stored (qs.length * 4 + 2) (.string (nmB x))).1).stored (qs.length * 4 + 3) (.slice p (npB x) (npB x))).1
      rw [show qcs qs ++ zexq = qcs qs ++ [.string ⟨#[]⟩, .complex .f64 0 0, .string ⟨#[]⟩, .slice none 0 0] from rfl, set_behind _ _ _ _ _ _ _ _ _ _ hl] at this
      exact this
  have hB2 : ∀ k, k < B → k ≠ c → W.heap[k]? = w2.heap[k]? := fun k h1 h2 => by
    rw [hoth k (by omega) h2, h32 k (by omega) (fun e => by have := (hvlt k e).1; omega)]
  refine ⟨⟨by rw [List.length_append, qcs_app]; simpa [qcs] using hown, ?_, by simp⟩, ⟨?_, ?_, ?_, by omega, ?_⟩, hsz, ?_, hB2, ?_, ?_⟩
  · intro y hy
    rcases List.mem_append.1 hy with hy | hy
    · refine (h.px y hy).on (fun i o hi => ?_) (fun i hi => ⟨hi.1, by rw [hsz]; have := hi.2.1; omega, ?_⟩)
      · have e1 : W.heap[i]? = w3.heap[i]? := hoth i (by rcases hat with hat | hat; (intro e; exact hi.2.2 (by rw [hat, e])); (have := hi.2.1; omega)) (by have := hi.1; omega)
        have e2 := h32 i (by have := hi.2.1; omega) hi.2.2
        have e3 := hk.block i hi.2.1 (by have := hi.1; omega)
        exact World.cell?_of_block (a := ⟨i, o, none⟩) (e1.trans (e2.trans e3))
      · simp only [Value.ownBlock]
        intro e
        injection e with e
        rcases hat with hat | hat
        · exact hi.2.2 (by rw [hat, e])
        · have := hi.2.1; omega
    · simp only [List.mem_cons, List.not_mem_nil, or_false] at hy
      subst hy
      refine hp.on (fun i o hi => ?_) (fun i hi => ⟨by have := hi.1; omega, by rw [hsz]; have := hi.2; omega, ?_⟩)
      · have hne : v.ownBlock ≠ some i := fun e => by have := (hvlt i e).2; have := hi.1; omega
        have e1 : W.heap[i]? = w3.heap[i]? := hoth i (by rcases hat with hat | hat; (intro e; exact hne (by rw [hat, e])); (have := hi.2; omega)) (by have := hi.1; omega)
        exact World.cell?_of_block (a := ⟨i, o, none⟩) (e1.trans (h32 i hi.2 hne))
      · simp only [Value.ownBlock]
        intro e
        injection e with e
        rcases hat with hat | hat
        · have := (hvlt g hat).2; have := hi.1; omega
        · have := hi.2; omega
  · rcases hW with rfl | rfl <;> exact hg.os.trans hk.os
  · rcases hW with rfl | rfl <;> exact hg.tape.trans hk.tape
  · rcases hW with rfl | rfl <;> exact hg.output.trans hk.output
  · intro k h1 h2
    have hkB : k < B := by omega
    rw [hB2 k hkB (by omega)]
    exact hk.block k h1 (by omega)
  · intro k h1 h2 h3
    rw [hB2 k h1 h3]
    exact hk.block k (by omega) h2
  · rcases hW with rfl | rfl
    · have key : ∀ (w : World), (((w.setCell ⟨g, qs.length * 4, none⟩ (.string (opB x))).setCell ⟨g, qs.length * 4 + 1, none⟩ (.complex .f64 (nxB x) (nyB x))).setCell ⟨g, qs.length * 4 + 2, none⟩ (.string (nmB x))).setCell ⟨g, qs.length * 4 + 3, none⟩ (.slice p (npB x) (npB x)) = (((w.setCell ⟨g, qs.length * 4, none⟩ (.string (opB x))).setCell ⟨g, qs.length * 4 + 1, none⟩ (.complex .f64 (nxB x) (nyB x))).setCell ⟨g, qs.length * 4 + 2, none⟩ (.string (nmB x))).setCell ⟨g, qs.length * 4 + 3, none⟩ (.slice p (npB x) (npB x)) := fun _ => rfl
      simp only [World.setCell, Array.getElem?_modify]
      simp [hcg, Ne.symm hcg]
    · rw [Below.heap_setCell _ _ _ _ hcg, Below.heap_setCell _ _ _ _ hcg, Below.heap_setCell _ _ _ _ hcg, Below.heap_setCell _ _ _ _ hcg]
  · exact h32 c (by omega) (fun e => by have := (hvlt c e).1; omega)
theorem qcs_at (qs : List (Ex × Option Addr)) : ∀ (i j : Nat) (y : Ex × Option Addr), qs[i]? = some y → j < 4 → (qcs qs)[i * 4 + j]? = (exq y.1 y.2)[j]? := by
  induction qs with
  | nil => intro i j y h; simp at h
  | cons u us ih =>
    intro i j y h hj
    have e : qcs (u :: us) = exq u.1 u.2 ++ qcs us := rfl
    have hl : (exq u.1 u.2).length = 4 := rfl
    rw [e]
    cases i with
    | zero =>
      simp only [List.getElem?_cons_zero, Option.some.injEq] at h
      subst h
      rw [List.getElem?_append_left (by omega)]
      simp
    | succ i =>
      rw [List.getElem?_cons_succ] at h
      rw [List.getElem?_append_right (by omega), show (i + 1) * 4 + j - (exq u.1 u.2).length = i * 4 + j by omega]
      exact ih i j y h hj
/-- As statements are read. -/
theorem Xq.read {wx : World} {B : Nat} {qs : List (Ex × Option Addr)} {v : Value} (h : Xq wx B qs v) : ∃ px cx, v = .slice px (qs.map Prod.fst).length cx ∧ XsV wx (Nw B wx) (qs.map Prod.fst) px cx := by
  rcases h.own.2 with ⟨rfl, h0⟩ | ⟨g, cap, cur, rfl, h1, h2, h3, h4, h5, h6⟩
  · have : qs = [] := List.length_eq_zero_iff.1 h0
    subst this
    exact ⟨none, 0, rfl, .inl ⟨rfl, rfl, rfl⟩⟩
  · refine ⟨some ⟨g, 0, none⟩, cap, by simp, ?_⟩
    cases qs with
    | nil => have := h.nil rfl; cases this
    | cons z qs =>
      refine .inr ⟨g, rfl, ⟨h1, (h.own.lt g rfl).2⟩, by simp, by simpa using h3, h4, ?_⟩
      intro i e he
      rw [List.getElem?_map] at he
      cases hz : (z :: qs)[i]? with
      | none => rw [hz] at he; cases he
      | some y =>
        rw [hz] at he
        injection he with he
        subst he
        have hi : i < (z :: qs).length := (List.getElem?_eq_some_iff.1 hz).1
        have key : ∀ j, j < 4 → wx.cell? ⟨g, i * 4 + j, none⟩ = (exq y.1 y.2)[j]? := fun j hj => by
          rw [h.own.cellAt (i * 4 + j) (by omega)]
          exact qcs_at (z :: qs) i j y hz hj
        refine ⟨y.2, ⟨key 0 (by omega), key 1 (by omega), key 2 (by omega), key 3 (by omega)⟩, (h.px y (List.mem_of_getElem? hz)).on (fun g o _ => rfl) (fun b hb => ⟨hb.1, hb.2.1⟩)⟩
end Go.Proofs.YtgiioflkclkioaaGreatDoor
