/- Races in a row of the call's own; the law's All. -/
import Derived.Test.YtcbpkagegdfidaaCn
import Derived.Deep.RegionHeld3
import Derived.BigRegion
import Derived.BigQuiet
set_option linter.unusedSimpArgs false
set_option linter.unusedVariables false
namespace Go.Proofs.Ytcbpkagegdfidaa
open Go.RowKit

/-- A race's cells. -/
def pv (p : Nat × Nat) : List Value := [.int .i64 (p.1 : Int), .int .i64 (p.2 : Int)]
def pvs (L : List (Nat × Nat)) : List Value := L.flatMap pv
theorem pvs_app (L M : List (Nat × Nat)) : pvs (L ++ M) = pvs L ++ pvs M := List.flatMap_append
theorem pvs_len (L : List (Nat × Nat)) : (pvs L).length = L.length * 2 := by
  induction L with
  | nil => rfl
  | cons p L ih => rw [pvs, List.flatMap_cons, List.length_append, ← pvs, ih]; simp [pv]; omega
theorem pvs_get : ∀ {L : List (Nat × Nat)} {i : Nat} {p : Nat × Nat}, L[i]? = some p → (pvs L)[i * 2]? = some (.int .i64 (p.1 : Int)) ∧ (pvs L)[i * 2 + 1]? = some (.int .i64 (p.2 : Int))
  | [], _, _, h => by simp at h
  | q :: L, 0, p, h => by simp at h; subst h; exact ⟨rfl, rfl⟩
  | q :: L, i + 1, p, h => by
    have := pvs_get (L := L) (i := i) (p := p) (by simpa using h)
    rw [pvs, List.flatMap_cons, ← pvs, show (i + 1) * 2 = i * 2 + 2 by omega, show i * 2 + 2 + 1 = i * 2 + 1 + 2 by omega]
    exact this
/-- A slice of races. -/
def RcS (w : World) (u : Value) (L : List (Nat × Nat)) : Prop := ∃ p cap, u = .slice p L.length cap ∧ L.length ≤ cap ∧ ((p = Option.none ∧ L = []) ∨ ∃ b o, p = some ⟨b, o, Option.none⟩ ∧ b < w.heap.size ∧ ∀ (i : Nat) (q : Nat × Nat), L[i]? = some q → w.cell? ⟨b, o + i * 2, Option.none⟩ = some (.int .i64 (q.1 : Int)) ∧ w.cell? ⟨b, o + i * 2 + 1, Option.none⟩ = some (.int .i64 (q.2 : Int)))
theorem RcS.kept {w w' : World} {u : Value} {L : List (Nat × Nat)} (h : RcS w u L) (k : Below w.heap.size w w') : RcS w' u L := by
  obtain ⟨p, cap, h1, h2, h4⟩ := h
  refine ⟨p, cap, h1, h2, ?_⟩
  rcases h4 with h4 | ⟨b, o, hp, hb, hr⟩
  · exact .inl h4
  · exact .inr ⟨b, o, hp, Nat.lt_of_lt_of_le hb k.size, fun i q hi => ⟨(k.cell (p := ⟨b, _, Option.none⟩) hb).trans (hr i q hi).1, (k.cell (p := ⟨b, _, Option.none⟩) hb).trans (hr i q hi).2⟩⟩
theorem rc_of_own {w : World} {base : Nat} {u : Value} {L : List (Nat × Nat)} (h : w.ownsRow base 30 2 u L.length (pvs L)) : RcS w u L := by
  rcases id h.2 with ⟨rfl, hn⟩ | ⟨g, cap, cur, rfl, hbg, hg, hn, hm, hs, ht⟩
  · exact ⟨Option.none, 0, by rw [hn], by omega, .inl ⟨rfl, List.eq_nil_of_length_eq_zero hn⟩⟩
  · refine ⟨_, cap, rfl, hn, .inr ⟨g, 0, rfl, lt_of_block hg, fun i q hi => ?_⟩⟩
    have hil := (List.getElem?_eq_some_iff.1 hi).1
    obtain ⟨h3, h4⟩ := pvs_get hi
    rw [Nat.zero_add]
    exact ⟨by rw [h.cellAt (i * 2) (by omega), h3], by rw [h.cellAt (i * 2 + 1) (by omega), h4]⟩
theorem rc_info : ∃ i0, Try.prog.info? 30 = some i0 ∧ i0.zero = some (.agg #[.int .i64 0, .int .i64 0]) ∧ i0.size = 2 ∧ i0.bytes = 16 := by
  have h : (Try.prog.info? 30).map (fun i => (i.zero, i.size, i.bytes)) = some (some (.agg #[.int .i64 0, .int .i64 0]), 2, 16) := by kernel_rfl
  cases hq : Try.prog.info? 30 with
  | none => rw [hq] at h; cases h
  | some i =>
    rw [hq] at h
    simp only [Option.map_some, Option.some.injEq, Prod.mk.injEq] at h
    exact ⟨i, rfl, h.1, h.2.1, h.2.2⟩
/-- A race appended. -/
theorem app_rc (W : World) (base : Nat) (u : Value) (L : List (Nat × Nat)) (p : Nat × Nat) (h : W.ownsRow base 30 2 u L.length (pvs L)) (hl : L.length ≤ 1001000) (hb : base ≤ W.heap.size) (a : Addr) (h0 : W.cell? (a.add 0) = some (.int .i64 (p.1 : Int))) (h1 : W.cell? (a.add 1) = some (.int .i64 (p.2 : Int))) :
    ∃ q m c w', (∀ ty, (Builtin.append_ #[28, 28] ty #[u, .slice (some a) 1 1]).run Try.prog W = .ok (.slice q m c) w') ∧ w'.ownsRow base 30 2 (.slice q m c) (L ++ [p]).length (pvs (L ++ [p])) ∧ W.grownBy w' u.ownBlock := by
  obtain ⟨i0, hi, hz, hs, hby⟩ := rc_info
  have hn : ∀ j c, (pv p)[j]? = some c → W.cell? (a.add j) = some c := by
    intro j c hj
    match j with
    | 0 => simp [pv] at hj; rw [← hj]; exact h0
    | 1 => simp [pv] at hj; rw [← hj]; exact h1
    | j + 2 => simp [pv] at hj
  have key := fun ty => run_append_own_at (P := Try.prog) W base 28 ty 30 i0 _ 2 16 Try.underlying28 hi hz hs hby rfl (by omega) u L.length (pvs L) h a 1 1 (pv p) rfl hn (by intro c hc; simp [pv] at hc; rcases hc with rfl | rfl <;> rfl) (by unfold maxLen; omega) (by omega) hb
  obtain ⟨v', w', hr, ho, hg, _, _⟩ := key 0
  obtain ⟨q, m, c, rfl⟩ := own_form ho
  refine ⟨q, m, c, w', fun ty => ?_, by rw [pvs_app]; simpa [pvs] using ho, hg⟩
  obtain ⟨v2, w2, hr2, _⟩ := key ty
  exact hr
theorem racn_len (x : Evl) (j n : Nat) : (racn edep (·.1) x j n).length ≤ n := by
  induction n with
  | zero => simp [racn]
  | succ n ih =>
    rw [racn_step, List.length_append]
    split <;> simp <;> omega
theorem racs_len (x : Evl) (n : Nat) : (racs edep (·.1) x n).length ≤ n * n := by
  induction n with
  | zero => simp [racs]
  | succ n ih =>
    rw [racs_step, List.length_append]
    have := racn_len x n n
    rw [Nat.add_mul, Nat.mul_add]
    omega
end Go.Proofs.Ytcbpkagegdfidaa
