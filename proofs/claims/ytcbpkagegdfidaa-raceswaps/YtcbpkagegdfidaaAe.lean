/- Do two events depend on one another; rows of places. -/
import Derived.Test.YtcbpkagegdfidaaCs
set_option linter.unusedSimpArgs false
set_option linter.unusedVariables false
namespace Go.Proofs.Ytcbpkagegdfidaa
open Go.RowKit

/-- Events by what they are: do they depend on one another? -/
def edep (e f : Int × List (Int × Bool)) : Bool := decide (e.1 = f.1) || clh e.2 f.2
theorem edep_refl (e : Int × List (Int × Bool)) : edep e e = true := by simp [edep]
theorem edep_symm (e f : Int × List (Int × Bool)) : edep e f = edep f e := by
  unfold edep
  rw [clh_comm, show decide (e.1 = f.1) = decide (f.1 = e.1) by simp [eq_comm]]
theorem EvR.at {w : World} {b o i : Nat} {x : List (Int × List (Int × Bool))} {e : Int × List (Int × Bool)} (h : EvR w b o x) (hb : b < w.heap.size) (hx : x[i]? = some e) :
    ∃ q m c, ∀ W, Below w.heap.size w W → W.cell? ⟨b, o + i * 2, Option.none⟩ = some (.int .i64 e.1) ∧ W.cell? ⟨b, o + i * 2 + 1, Option.none⟩ = some (.slice q m c) ∧ MkS W (.slice q m c) e.2 := by
  obtain ⟨h1, u, h2, h3⟩ := h i e hx
  obtain ⟨q, c, rfl, _⟩ := id h3
  exact ⟨q, _, c, fun W k => ⟨(k.cell (p := ⟨b, _, Option.none⟩) hb).trans h1, (k.cell (p := ⟨b, _, Option.none⟩) hb).trans h2, h3.kept k⟩⟩
/-- Places as values. -/
def nvs (L : List Nat) : List Value := L.map fun (n : Nat) => .int .i64 (n : Int)
theorem ns_of_own {w : World} {base : Nat} {u : Value} {L : List Nat} (h : w.ownsRow base 3 1 u L.length (nvs L)) : NsS w u L := by
  have h0 := h
  rcases h.2 with ⟨rfl, hn⟩ | ⟨g, cap, cur, rfl, hbg, hg, hn, hm, hs, ht⟩
  · exact ⟨Option.none, 0, by rw [hn], by omega, .inl ⟨rfl, List.eq_nil_of_length_eq_zero hn⟩⟩
  · refine ⟨_, cap, rfl, hn, .inr ⟨g, 0, rfl, lt_of_block hg, fun i n hi => ?_⟩⟩
    have hil := (List.getElem?_eq_some_iff.1 hi).1
    rw [Nat.zero_add, h0.cellAt i (by omega)]
    simp [nvs, hi]
/-- The rows of what happens ahead: those below J whole, that of J as far as I. -/
structure AhI (dep : Int × List (Int × Bool) → Int × List (Int × Bool) → Bool) (x : List (Int × List (Int × Bool))) (w W : World) (B A J : Nat) (us : List Value) : Prop where
  own : W.ownsRow w.heap.size 40 1 (.slice (some ⟨B, 0, Option.none⟩) A A) A us
  rows : ∀ j u, j < J → us[j]? = some u → NsS W u (ahd dep x j) ∧ ∀ q, u.ownBlock = some q → q ≠ B
  rest : ∀ j u, J ≤ j → us[j]? = some u → u = .slice Option.none 0 0
theorem own_kept {w w2 : World} {base : Nat} {e : TypeId} {size : Nat} {v : Value} {n : Nat} {xs : List Value} (h : w.ownsRow base e size v n xs) (hb : Below w.heap.size w w2) : w2.ownsRow base e size v n xs :=
  h.kept (row := Option.none) ⟨hb.os, hb.tape, hb.output, hb.size, fun k hk _ => hb.block k hk⟩ (by cases hv : v.ownBlock <;> simp)
theorem sl_info : ∃ i0, Try.prog.info? 40 = some i0 ∧ i0.zero = some (.slice Option.none 0 0) ∧ i0.size = 1 ∧ i0.bytes = 24 := info_parts (by kernel_rfl)
theorem in_info : ∃ i0, Try.prog.info? 3 = some i0 ∧ i0.zero = some (.int .i64 0) ∧ i0.size = 1 ∧ i0.bytes = 8 := info_parts (by kernel_rfl)
theorem depend_at (e f : Int × List (Int × Bool)) (v u : Value) (W : World) (he : MkS W v e.2) (hf : MkS W u f.2) (h1 : e.2.length ≤ 1000) (h2 : f.2.length ≤ 1000) :
    Calls Try.prog 17 #[.agg #[.int .i64 e.1, v], .agg #[.int .i64 f.1, u]] W fun r w' => r = .returned (.bool (edep e f)) ∧ Below W.heap.size W w' := depend_any e.1 f.1 e.2 f.2 v u W he hf h1 h2

theorem set_same {α : Type} {l : List α} {i : Nat} {a : α} (h : l[i]? = some a) : l.set i a = l := by
  apply List.ext_getElem?
  intro j
  rw [List.getElem?_set]
  split
  · rename_i hij; subst hij; rw [if_pos (List.getElem?_eq_some_iff.1 h).1, h]
  · rfl
/-- But for one block all is as it was. -/
structure Exb (B : Nat) (w w' : World) : Prop where
  size : w.heap.size ≤ w'.heap.size
  block : ∀ q, q < w.heap.size → q ≠ B → w'.heap[q]? = w.heap[q]?
theorem Exb.refl (B : Nat) (w : World) : Exb B w w := ⟨Nat.le_refl _, fun _ _ _ => rfl⟩
theorem Exb.bel {B : Nat} {a b c : World} (h : Exb B a b) (k : Below b.heap.size b c) : Exb B a c := ⟨Nat.le_trans h.size k.size, fun q hq hb => (k.block q (Nat.lt_of_lt_of_le hq h.size)).trans (h.block q hq hb)⟩
theorem NsS.ex {B : Nat} {w w' : World} {u : Value} {L : List Nat} (h : NsS w u L) (k : Exb B w w') (hu : ∀ q, u.ownBlock = some q → q ≠ B) : NsS w' u L := by
  obtain ⟨p, cap, rfl, h2, h4⟩ := h
  refine ⟨p, cap, rfl, h2, ?_⟩
  rcases h4 with h4 | ⟨b, o, rfl, hb, hr⟩
  · exact .inl h4
  · exact .inr ⟨b, o, rfl, Nat.lt_of_lt_of_le hb k.size, fun i n hi => (World.cell?_of_block (w := w) (k.block b hb (hu b rfl))).trans (hr i n hi)⟩

theorem own_form {w : World} {base : Nat} {e : TypeId} {size : Nat} {v : Value} {n : Nat} {xs : List Value} (h : w.ownsRow base e size v n xs) : ∃ p m c, v = .slice p m c := by
  rcases h.2 with ⟨rfl, _⟩ | ⟨g, cap, cur, rfl, _⟩
  · exact ⟨_, _, _, rfl⟩
  · exact ⟨_, _, _, rfl⟩
/-- A place appended, in a row of the call's own. -/
theorem app_ns (W : World) (base : Nat) (u : Value) (L : List Nat) (i : Nat) (h : W.ownsRow base 3 1 u L.length (nvs L)) (hl : L.length ≤ 1000) (hb : base ≤ W.heap.size) (a : Addr) (h0 : W.cell? (a.add 0) = some (.int .i64 (i : Int))) :
    ∃ p m c w', (∀ ty, (Builtin.append_ #[40, 40] ty #[u, .slice (some a) 1 1]).run Try.prog W = .ok (.slice p m c) w') ∧ w'.ownsRow base 3 1 (.slice p m c) (L ++ [i]).length (nvs (L ++ [i])) ∧ W.grownBy w' u.ownBlock := by
  obtain ⟨i0, hi, hz, hs, hby⟩ := in_info
  have hn : ∀ j c, ([Value.int .i64 (i : Int)] : List Value)[j]? = some c → W.cell? (a.add j) = some c := by
    intro j c hj
    match j with
    | 0 => simp at hj; rw [← hj]; exact h0
    | j + 1 => simp at hj
  have key := fun ty => run_append_own_at (P := Try.prog) W base 40 ty 3 i0 _ 1 8 Try.underlying40 hi hz hs hby rfl (by omega) u L.length (nvs L) h a 1 1 [Value.int .i64 (i : Int)] rfl hn (by intro c hc; simp at hc; rw [hc]; rfl) (by unfold maxLen; omega) (by omega) hb
  obtain ⟨v', w', hr, ho, hg, _, _⟩ := key 0
  obtain ⟨p, m, c, rfl⟩ := own_form ho
  refine ⟨p, m, c, w', fun ty => ?_, by simpa [nvs] using ho, hg⟩
  obtain ⟨v2, w2, hr2, _⟩ := key ty
  exact hr
end Go.Proofs.Ytcbpkagegdfidaa
