/- slices.CompactFunc of marks by objects: what stays lies at the row's head. -/
import Derived.Test.YtcbpkagegdfidaaMm
import Derived.Lib.SliceRun
set_option linter.unusedSimpArgs false
set_option linter.unusedVariables false
namespace Go.Proofs.Ytcbpkagegdfidaa
open Go.RowKit

/-- The object of the last one looked at. -/
def lst (p : Int) : List (Int × Bool) → Int
  | [] => p
  | y :: r => lst y.1 r
theorem cptF_snoc : ∀ (r : List (Int × Bool)) (p : Int) (y : Int × Bool), cptF p (r ++ [y]) = cptF p r ++ (if y.1 = lst p r then [] else [y])
  | [], p, y => by by_cases h : y.1 = p <;> simp [cptF, lst, h]
  | z :: r, p, y => by
    have e1 : lst p (z :: r) = lst z.1 r := rfl
    by_cases h : z.1 = p
    · have ih := cptF_snoc r p y
      by_cases g : y.1 = lst p r
      · rw [if_pos g] at ih
        rw [if_pos (by rw [e1, h]; exact g)]
        simp [cptF, h]
        simpa using ih
      · rw [if_neg g] at ih
        rw [if_neg (by rw [e1, h]; exact g)]
        simp [cptF, h]
        exact ih
    · have ih := cptF_snoc r z.1 y
      by_cases g : y.1 = lst z.1 r
      · rw [if_pos g] at ih
        rw [if_pos (by rw [e1]; exact g)]
        simp [cptF, h]
        simpa using ih
      · rw [if_neg g] at ih
        rw [if_neg (by rw [e1]; exact g)]
        simp [cptF, h]
        exact ih
theorem lst_last : ∀ (r : List (Int × Bool)) (p : Int) (z : Int × Bool), r.getLast? = some z → lst p r = z.1
  | [], p, z, h => by simp at h
  | [x], p, z, h => by simp at h; subst h; rfl
  | x :: y :: r, p, z, h => lst_last (y :: r) x.1 z (by simpa using h)
theorem cpt_snoc {l : List (Int × Bool)} {m : Nat} {y z : Int × Bool} (hm : 1 ≤ m) (hy : l[m]? = some y) (hz : l[m - 1]? = some z) :
    cpt (l.take (m + 1)) = cpt (l.take m) ++ (if y.1 = z.1 then [] else [y]) := by
  have hml : m < l.length := (List.getElem?_eq_some_iff.1 hy).1
  have e : l.take (m + 1) = l.take m ++ [y] := by rw [List.take_add_one, hy]; rfl
  have hlast : (l.take m).getLast? = some z := by
    rw [List.getLast?_eq_getElem?, List.length_take, Nat.min_eq_left (by omega), List.getElem?_take, if_pos (by omega), hz]
  rw [e]
  cases hk : l.take m with
  | nil => rw [hk] at hlast; simp at hlast
  | cons x r =>
    rw [hk] at hlast
    simp only [List.cons_append, cpt]
    have : lst x.1 r = z.1 := by
      cases r with
      | nil => simp at hlast; rw [← hlast]; rfl
      | cons u r => exact lst_last (u :: r) x.1 z (by simpa using hlast)
    rw [cptF_snoc, this]
theorem cpt_one {l : List (Int × Bool)} (h : l.length ≤ 1) : cpt l = l := by
  match l, h with
  | [], _ => rfl
  | [x], _ => rfl
theorem cpt_take_one (l : List (Int × Bool)) : cpt (l.take 1) = l.take 1 := cpt_one (by simp; omega)

/-- What holds in the second loop: m marks have been looked at, those of them that stay lie at the row's head, the rest is as it was. -/
structure Cinv (l : List (Int × Bool)) (m kk : Nat) (d : List (Int × Bool)) : Prop where
  len : d.length = l.length
  num : (cpt (l.take m)).length = kk
  lt : kk < m
  low : d.take kk = cpt (l.take m)
  high : ∀ j, kk ≤ j → d[j]? = l[j]?
theorem Cinv.start {l : List (Int × Bool)} {k : Nat} {y z : Int × Bool} (hk : 1 ≤ k) (ha : cpt (l.take k) = l.take k) (hy : l[k]? = some y) (hz : l[k - 1]? = some z) (h : y.1 = z.1) : Cinv l (k + 1) k l := by
  have hkl : k < l.length := (List.getElem?_eq_some_iff.1 hy).1
  have e : cpt (l.take (k + 1)) = l.take k := by rw [cpt_snoc hk hy hz, if_pos h, List.append_nil, ha]
  exact ⟨rfl, by rw [e]; simp; omega, by omega, e.symm, fun _ _ => rfl⟩
theorem Cinv.skip {l d : List (Int × Bool)} {m kk : Nat} {y z : Int × Bool} (h : Cinv l m kk d) (hm : 1 ≤ m) (hy : l[m]? = some y) (hz : l[m - 1]? = some z) (e : y.1 = z.1) : Cinv l (m + 1) kk d := by
  have e : cpt (l.take (m + 1)) = cpt (l.take m) := by rw [cpt_snoc hm hy hz, if_pos e, List.append_nil]
  exact ⟨h.len, by rw [e]; exact h.num, by have := h.lt; omega, by rw [e]; exact h.low, h.high⟩
theorem Cinv.keep {l d : List (Int × Bool)} {m kk : Nat} {y z : Int × Bool} (h : Cinv l m kk d) (hm : 1 ≤ m) (hy : l[m]? = some y) (hz : l[m - 1]? = some z) (e : y.1 ≠ z.1) : Cinv l (m + 1) (kk + 1) (d.set kk y) := by
  have hml : m < l.length := (List.getElem?_eq_some_iff.1 hy).1
  have hlt := h.lt
  have e : cpt (l.take (m + 1)) = cpt (l.take m) ++ [y] := by rw [cpt_snoc hm hy hz, if_neg e]
  refine ⟨by rw [List.length_set]; exact h.len, by rw [e]; simp [h.num], by omega, ?_, fun j hj => ?_⟩
  · rw [e, ← h.low]
    have hd := h.len
    rw [List.take_add_one, List.getElem?_set_self (by omega), List.take_set, List.set_eq_of_length_le (by simp; omega)]
    rfl
  · rw [List.getElem?_set_ne (by omega)]
    exact h.high j (by omega)

theorem Row.get {w : World} {b o : Nat} {l : List (Int × Bool)} (h : Row w b o l) {i : Nat} {x : Int × Bool} (hx : l[i]? = some x) : w.cell? ⟨b, o + i * 2, Option.none⟩ = some (.int .i64 x.1) ∧ w.cell? ⟨b, o + i * 2 + 1, Option.none⟩ = some (.bool x.2) := h i x hx
/-- A mark stored. -/
theorem row_set {w : World} {b o : Nat} {l : List (Int × Bool)} {i : Nat} (h : Row w b o l) (hi : i < l.length) (x : Int × Bool) :
    Row ((w.setCell ⟨b, o + i * 2, Option.none⟩ (.int .i64 x.1)).setCell ⟨b, o + i * 2 + 1, Option.none⟩ (.bool x.2)) b o (l.set i x) := by
  have ne : ∀ p q : Nat, p ≠ q → (⟨b, p, Option.none⟩ : Addr) ≠ ⟨b, q, Option.none⟩ := fun p q hpq e => hpq (by simpa using congrArg Addr.off e)
  have far : ∀ (W : World) (p q : Nat) (u : Value), p ≠ q → (W.setCell ⟨b, p, Option.none⟩ u).cell? ⟨b, q, Option.none⟩ = W.cell? ⟨b, q, Option.none⟩ := fun W p q u hpq => World.cell?_setCell_other W _ _ u (ne p q hpq)
  have h0 := (h i l[i] (List.getElem?_eq_getElem hi))
  intro j y hy
  by_cases hj : i = j
  · subst hj
    rw [List.getElem?_set_self hi] at hy
    obtain rfl := Option.some.inj hy
    refine ⟨?_, ?_⟩
    · rw [far _ _ _ _ (by omega)]
      exact World.cell?_setCell_same _ _ _ h0.1
    · refine World.cell?_setCell_same _ _ _ (u := .bool l[i].2) ?_
      rw [far _ _ _ _ (by omega)]; exact h0.2
  · rw [List.getElem?_set_ne hj] at hy
    have g := h j y hy
    refine ⟨?_, ?_⟩
    · rw [far _ _ _ _ (by omega), far _ _ _ _ (by omega)]; exact g.1
    · rw [far _ _ _ _ (by omega), far _ _ _ _ (by omega)]; exact g.2
theorem rwf_set {w : World} {b o n : Nat} (h : Rwf w b o n) (a c : Addr) (u v : Value) : Rwf ((w.setCell a u).setCell c v) b o n := fun j hj => by
  rw [World.frozen?_setCell, World.frozen?_setCell]; exact h j hj
theorem below_set2 {B : Nat} {a w : World} (h : Below B a w) {b : Nat} (hb : B ≤ b) (p q : Nat) (u v : Value) : Below B a ((w.setCell ⟨b, p, Option.none⟩ u).setCell ⟨b, q, Option.none⟩ v) :=
  (h.setCell hb u).setCell hb v
theorem below_setCells {B b : Nat} (hb : B ≤ b) : ∀ (vs : List Value) (o : Nat) {a w : World}, Below B a w → Below B a (w.setCells b o vs)
  | [], _, _, _, h => h
  | v :: r, o, _, _, h => below_setCells hb r (o + 1) (h.setCell hb v)
/-- 'clear' of so many marks. -/
theorem run_clear2 (w : World) (ty : TypeId) (b o n c : Nat) (hn : 0 < n) (hc : ∀ j, j < n * 2 → (w.cell? ⟨b, o + j, Option.none⟩).isSome = true) (hf : ∀ j, j < n * 2 → w.frozen? ⟨b, o + j, Option.none⟩ = false) :
    (Builtin.clear_ #[36] ty #[.slice (some ⟨b, o, Option.none⟩) n c]).run Try.prog w = .ok (.tuple #[]) (w.setCells b o ((Builtin.zeroCells (Value.cells (.agg #[.int .i64 0, .bool false])) n).toList)) := by
  have hl : ((Builtin.zeroCells (Value.cells (.agg #[.int .i64 0, .bool false])) n).toList).length = n * 2 := by simp [Builtin.zeroCells, Value.cells]
  have h1 : ∀ v ∈ (Builtin.zeroCells (Value.cells (.agg #[.int .i64 0, .bool false])) n).toList, v.oneCell' = true := by
    intro v hv
    simp only [Builtin.zeroCells, Value.cells, Array.toList_map, List.mem_map, Array.mem_toList_iff, Array.mem_range] at hv
    obtain ⟨i, _, rfl⟩ := hv
    have : i % 2 = 0 ∨ i % 2 = 1 := by omega
    rcases this with h | h <;> simp [h, Value.oneCell']
  have hst := run_storeCells_cells (P := Try.prog) b o (Builtin.zeroCells (Value.cells (.agg #[.int .i64 0, .bool false])) n).toList 0 w (by simpa [hl] using hc) (by simpa [hl] using hf) h1
  simp only [Nat.add_zero] at hst
  obtain ⟨m, rfl⟩ : ∃ m, n = m + 1 := ⟨n - 1, by omega⟩
  simp [Builtin.clear_, run_underlying Try.underlying36, show ∀ w, (zeroValue 50).run Try.prog w = .ok (.agg #[.int .i64 0, .bool false]) w from Try.zeroValue50, hst]

theorem compact_small (p : Option Addr) (n cap : Nat) (h : n < 2) (fv : Value) (w : World) : Calls Try.prog 45 #[.slice p n cap, fv] w fun e w' => e = .returned (.slice p n cap) ∧ w = w' := by
  have h' : (n : Int) < 2 := by omega
  go_enter Try.func45, Try.ntmps45
  go_wp2
  go_ret
  exact ⟨rfl, rfl⟩
end Go.Proofs.Ytcbpkagegdfidaa
