/- Events picked out of a row of the call's own, one by one, into another one that lies in a box. -/
import Derived.Test.YtmhaelfmojigoaaCn
set_option linter.unusedSimpArgs false
set_option linter.unusedVariables false
namespace Go.Proofs.Ytmhaelfmojigoaa
open Go.RowKit

variable {P : Value → Prop}
/-- An event appended. -/
theorem app_evp (W : World) (base : Nat) (v u : Value) (x : List (Int × List (Int × Bool))) (t : Int) (m : List (Int × Bool)) (h : EvIP P W base v x) (hl : x.length ≤ 1000) (hb : base ≤ W.heap.size) (a : Addr) (h0 : W.cell? (a.add 0) = some (.int .i64 t)) (h1 : W.cell? (a.add 1) = some u) (hu : MkP P W u m) (hq : ∀ q, u.ownBlock = some q → v.ownBlock ≠ some q) :
    ∃ v' w', (∀ ty, (Builtin.append_ #[25, 25] ty #[v, .slice (some a) 1 1]).run Try.prog W = .ok v' w') ∧ EvIP P w' base v' (x ++ [(t, m)]) ∧ W.grownBy w' v.ownBlock ∧ (v'.ownBlock = v.ownBlock ∨ v'.ownBlock = some W.heap.size) := by
  obtain ⟨i0, hi, hz, hs, hby⟩ := ev_info
  obtain ⟨cs, hown, hc⟩ := h
  obtain ⟨pu, cu, hue, _⟩ := id hu.1
  have hn : ∀ j c, ([Value.int .i64 t, u] : List Value)[j]? = some c → W.cell? (a.add j) = some c := by
    intro j c hj
    match j with
    | 0 => simp at hj; rw [← hj]; exact h0
    | 1 => simp at hj; rw [← hj]; exact h1
    | j + 2 => simp at hj
  have hone : ∀ c ∈ ([Value.int .i64 t, u] : List Value), c.oneCell' = true := by
    intro c hc
    simp only [List.mem_cons, List.not_mem_nil, or_false] at hc
    rcases hc with rfl | rfl
    · rfl
    · rw [hue]; rfl
  have key := fun ty => run_append_own_at (P := Try.prog) W base 25 ty 39 i0 _ 2 32 Try.underlying25 hi hz hs hby rfl (by omega) v x.length cs hown a 1 1 [Value.int .i64 t, u] rfl hn hone (by unfold maxLen; omega) (by omega) hb
  obtain ⟨v', w', hr, ho, hg, _, hat⟩ := key 0
  have hlen : cs.length = x.length * 2 := hown.1
  have hne : ∀ {c : Value} {mm : List (Int × Bool)}, MkP P W c mm → (∀ q, c.ownBlock = some q → v.ownBlock ≠ some q) → MkP P w' c mm ∧ ∀ q, c.ownBlock = some q → v'.ownBlock ≠ some q := fun {c mm} hc hcq => by
    refine ⟨hc.grown hg hcq, fun q hq e => ?_⟩
    rcases hat with hat | hat
    · exact hcq q hq (hat ▸ e)
    · rw [hat] at e
      have := hc.1.blk hq
      have := Option.some.inj e
      omega
  refine ⟨v', w', fun ty => ?_, ⟨cs ++ [Value.int .i64 t, u], by simpa using ho, fun i e hi => ?_⟩, hg, hat⟩
  · obtain ⟨v2, w2, hr2, _⟩ := key ty
    exact hr
  · by_cases hix : i < x.length
    · rw [List.getElem?_append_left hix] at hi
      obtain ⟨h3, c, h4, h5, h6⟩ := hc i e hi
      obtain ⟨g1, g2⟩ := hne h5 h6
      exact ⟨by rw [List.getElem?_append_left (by omega)]; exact h3, c, by rw [List.getElem?_append_left (by omega)]; exact h4, g1, g2⟩
    · rw [List.getElem?_append_right (by omega)] at hi
      have hi0 : i - x.length = 0 := by
        have := (List.getElem?_eq_some_iff.1 hi).1
        simp at this; omega
      rw [hi0] at hi
      simp only [List.getElem?_cons_zero, Option.some.injEq] at hi
      subst hi
      have hie : i = x.length := by omega
      subst hie
      obtain ⟨g1, g2⟩ := hne hu hq
      refine ⟨?_, u, ?_, g1, g2⟩
      · rw [List.getElem?_append_right (by omega), show x.length * 2 - cs.length = 0 by omega]; rfl
      · rw [List.getElem?_append_right (by omega), show x.length * 2 + 1 - cs.length = 1 by omega]; rfl
theorem EvIP.gr {w w' : World} {base : Nat} {v : Value} {x : Evl} {row : Option Nat} (h : EvIP P w base v x) (hg : w.grownBy w' row) (hP : ∀ u, P u → ∀ q, u.ownBlock = some q → row ≠ some q) (hv : v.ownBlock = Option.none ∨ v.ownBlock ≠ row) : EvIP P w' base v x := by
  obtain ⟨cs, h1, h2⟩ := h
  refine ⟨cs, h1.kept hg hv, fun i e hi => ?_⟩
  obtain ⟨h3, u, h4, h5, h6⟩ := h2 i e hi
  exact ⟨h3, u, h4, h5.grown hg (hP u h5.2), h6⟩
theorem EvIP.form {w : World} {base : Nat} {v : Value} {x : Evl} (h : EvIP P w base v x) : ∃ p m c, v = .slice p m c := by
  obtain ⟨cs, h1, _⟩ := h
  exact own_form h1
theorem EvIP.own {w : World} {base : Nat} {v : Value} {x : Evl} (h : EvIP P w base v x) {q : Nat} (hq : v.ownBlock = some q) : base ≤ q ∧ q < w.heap.size := by
  obtain ⟨cs, h1, _⟩ := h
  exact h1.lt q hq
/-- What an event of an own row reads. -/
theorem EvIP.at {w : World} {base g n c : Nat} {x : Evl} (h : EvIP P w base (.slice (some ⟨g, 0, Option.none⟩) n c) x) {k : Nat} {e : Int × List (Int × Bool)} (hk : x[k]? = some e) :
    ∃ q m d, w.cell? ⟨g, k * 2, Option.none⟩ = some (.int .i64 e.1) ∧ w.cell? ⟨g, k * 2 + 1, Option.none⟩ = some (.slice q m d) ∧ MkP P w (.slice q m d) e.2 := by
  obtain ⟨cs, h1, h2⟩ := h
  have hn : n = x.length := by
    rcases h1.2 with ⟨e, _⟩ | ⟨g', cap', cur, e, _⟩
    · simp at e
    · simp at e; omega
  subst hn
  have hkl := (List.getElem?_eq_some_iff.1 hk).1
  obtain ⟨h3, u, h4, h5, _⟩ := h2 k e hk
  obtain ⟨q, d, rfl, _⟩ := id h5.1
  exact ⟨q, _, d, by rw [h1.cellAt (k * 2) (by omega)]; exact h3, by rw [h1.cellAt (k * 2 + 1) (by omega)]; exact h4, h5⟩
/-- On the way: what is left lies in a row, what is picked in another one, which lies in a box. -/
structure PkI (w0 w : World) (B : Nat) (lv yv : Value) (left y : Evl) : Prop where
  hl : EvIP (Blw w0.heap.size) w w0.heap.size lv left
  hy : EvIP (Blw w0.heap.size) w w0.heap.size yv y
  box : w.heap[B]? = some (.cells #[yv] 25 (0, 0))
  hB : w0.heap.size ≤ B
  nl : ∀ q, lv.ownBlock = some q → q ≠ B ∧ yv.ownBlock ≠ some q
  ny : ∀ q, yv.ownBlock = some q → q ≠ B
  bel : Below w0.heap.size w0 w
theorem blw_row {b r : Nat} (h : b ≤ r) : ∀ u, Blw b u → ∀ q, u.ownBlock = some q → (some r : Option Nat) ≠ some q := fun u hu q hq e => by
  have := hu q hq
  have := Option.some.inj e
  omega
theorem heap_setCell_one (w : World) (B : Nat) (u v : Value) (h : w.heap[B]? = some (.cells #[u] 25 (0, 0))) : (w.setCell ⟨B, 0, Option.none⟩ v).heap[B]? = some (.cells #[v] 25 (0, 0)) := by
  rw [heap_setCell_same w B 0 #[u] 25 v h]
  rfl
/-- One is appended to what is picked, and the box is set. -/
theorem PkI.append {w0 w : World} {B g n c : Nat} {yv : Value} {left y : Evl} {e : Int × List (Int × Bool)} {q : Option Addr} {m d : Nat} (h : PkI w0 w B (.slice (some ⟨g, 0, Option.none⟩) n c) yv left y) (hyl : y.length ≤ 1000) (hm : MkP (Blw w0.heap.size) w (.slice q m d) e.2) :
    ∃ p' m' c' w', (∀ ty, (Builtin.append_ #[25, 25] ty #[yv, .slice (some ⟨w.heap.size, 0, Option.none⟩) 1 1]).run Try.prog (w.alloc (Obj.cells #[.int .i64 e.1, .slice q m d] 39)).drew = .ok (.slice p' m' c') w') ∧
      w'.cell? ⟨B, 0, Option.none⟩ = some yv ∧ w'.frozen? ⟨B, 0, Option.none⟩ = false ∧
      PkI w0 (w'.setCell ⟨B, 0, Option.none⟩ (.slice p' m' c')) B (.slice (some ⟨g, 0, Option.none⟩) n c) (.slice p' m' c') left (y ++ [e]) := by
  have hBs : B < w.heap.size := lt_of_block h.box
  have hW : Below w.heap.size w (w.drew.alloc (Obj.cells #[.int .i64 e.1, .slice q m d] 39)) := (Below.refl _ w).drew.alloc (Nat.le_refl _) _
  have hg2 := heap_alloc_new w.drew (Obj.cells #[Value.int .i64 e.1, .slice q m d] 39)
  have hws : w.drew.heap.size = w.heap.size := rfl
  rw [hws] at hg2
  obtain ⟨v', w', hrun, hi', hgr, hat⟩ := app_evp (P := Blw w0.heap.size) (w.drew.alloc (Obj.cells #[.int .i64 e.1, .slice q m d] 39)) w0.heap.size yv (.slice q m d) y e.1 e.2 (h.hy.kept hW) hyl (by have := h.bel.size; simp; omega) ⟨w.heap.size, 0, Option.none⟩ (by rw [add_lit, cell_of_row _ _ _ _ _ _ hg2]; rfl) (by rw [add_lit, cell_of_row _ _ _ _ _ _ hg2]; rfl) (hm.kept hW)
    (fun r hr e => by have h1 := hm.2 r hr; have h2 := (h.hy.own e).1; omega)
  obtain ⟨p', m', c', rfl⟩ := hi'.form
  have hyB : yv.ownBlock = Option.none ∨ yv.ownBlock ≠ some B := by
    cases hyo : yv.ownBlock with
    | none => exact .inl rfl
    | some r => exact .inr fun e => h.ny r hyo (Option.some.inj e)
  have hbox : w'.heap[B]? = some (.cells #[yv] 25 (0, 0)) := by
    rw [hgr.block B (by have := hW.size; omega) (fun e => h.ny B e.symm rfl), hW.block B hBs]
    exact h.box
  have hgB : w'.grownBy (w'.setCell ⟨B, 0, Option.none⟩ (.slice p' m' c')) (some B) := gb_set w' ⟨B, 0, Option.none⟩ _
  have hyq : ∀ r, yv.ownBlock = some r → w0.heap.size ≤ r := fun r hr => (h.hy.own hr).1
  have hrowP : ∀ u, Blw w0.heap.size u → ∀ q, u.ownBlock = some q → yv.ownBlock ≠ some q := fun u hu q hq e => by
    have h1 := hu q hq
    have h2 := hyq q e
    omega
  have hnew : ∀ r, (Value.slice p' m' c').ownBlock = some r → r ≠ B ∧ g ≠ r := fun r hr => by
    rcases hat with hat | hat
    · rw [hat] at hr
      exact ⟨h.ny r hr, fun e => (h.nl g rfl).2 (by rw [e]; exact hr)⟩
    · rw [hat] at hr
      have h1 := Option.some.inj hr
      have h2 := (h.hl.own (q := g) rfl).2
      simp at h1
      exact ⟨by omega, by omega⟩
  refine ⟨p', m', c', w', hrun, ?_, frozen_of_row w' B 0 _ _ hbox, ?_⟩
  · rw [cell_of_row _ _ _ _ _ _ hbox]; rfl
  · refine ⟨?_, ?_, heap_setCell_one w' B _ _ hbox, h.hB, fun r hr => ?_, fun r hr => (hnew r hr).1, ?_⟩
    · refine ((h.hl.kept hW).gr hgr hrowP (.inr fun e => (h.nl g rfl).2 e.symm)).gr hgB (blw_row h.hB) (.inr fun e => (h.nl g rfl).1 (Option.some.inj e))
    · refine hi'.gr hgB (blw_row h.hB) ?_
      cases hpo : (Value.slice p' m' c').ownBlock with
      | none => exact .inl rfl
      | some r => exact .inr fun e => (hnew r hpo).1 (Option.some.inj e)
    · have hrg : g = r := Option.some.inj hr
      exact ⟨fun e => (h.nl g rfl).1 (by omega), fun e => (hnew r e).2 hrg⟩
    · exact ((h.bel.trans (hW.mono h.bel.size)).grown hgr (by have := h.bel.size; simp; omega) (fun r hr => hyq r hr)).setCell h.hB _
/-- One is taken out of what is left. -/
theorem PkI.del {w0 w w' : World} {B g n c : Nat} {yv : Value} {left left' y : Evl} (h : PkI w0 w B (.slice (some ⟨g, 0, Option.none⟩) n c) yv left y) {n' : Nat} (hd : EvIP (Blw w0.heap.size) w' w0.heap.size (.slice (some ⟨g, 0, Option.none⟩) n' c) left') (hg : w.grownBy w' (some g)) :
    PkI w0 w' B (.slice (some ⟨g, 0, Option.none⟩) n' c) yv left' y := by
  have hgb := (h.hl.own (q := g) rfl).1
  refine ⟨hd, h.hy.gr hg (blw_row hgb) (.inr fun e => (h.nl g rfl).2 e), ?_, h.hB, fun q hq => h.nl q hq, h.ny, h.bel.grown hg h.bel.size (fun k hk => by have := Option.some.inj hk; omega)⟩
  rw [hg.block B (lt_of_block h.box) (fun e => (h.nl g rfl).1 (Option.some.inj e).symm)]
  exact h.box
/-- What was drawn picks each once. -/
theorem perm_pick {α : Type} {x y left : List α} {k : Nat} {e : α} (h : (y ++ left).Perm x) (hk : left[k]? = some e) : ((y ++ [e]) ++ left.eraseIdx k).Perm x := by
  refine List.Perm.trans ?_ h
  obtain ⟨hkl, hke⟩ := List.getElem?_eq_some_iff.1 hk
  rw [List.append_assoc]
  refine List.Perm.append_left y ?_
  have h1 : left = left.take k ++ e :: left.drop (k + 1) := by
    rw [← hke, List.getElem_cons_drop]; exact (List.take_append_drop k left).symm
  rw [List.eraseIdx_eq_take_drop_succ]
  conv => rhs; rw [h1]
  exact (List.perm_middle (a := e) (l₁ := left.take k) (l₂ := left.drop (k + 1))).symm
end Go.Proofs.Ytmhaelfmojigoaa
