/- Marks in memory; the order of marks, whether two are of one object, as the program has them. -/
import Derived.Test.YtcbpkagegdfidaaEm
import Derived.Test.YtcbpkagegdfidaaChecked
import Derived.Lib.Hide
import Derived.WalkLawsBesides
import Derived.Laws.StructEq
import Derived.Laws.OwnMore
import Derived.Shelf.SlSortCmp.QuietGrown
set_option linter.unusedSimpArgs false
set_option linter.unusedVariables false
namespace Go.Proofs.Ytcbpkagegdfidaa
open Go.RowKit

/-- A mark's value, its cells. -/
def mv (x : Int × Bool) : Value := .agg #[.int .i64 x.1, .bool x.2]
def mc (x : Int × Bool) : List Value := [.int .i64 x.1, .bool x.2]
/-- Marks lie from a place on. -/
def Row (w : World) (b o : Nat) (l : List (Int × Bool)) : Prop := ∀ i x, l[i]? = some x → w.cell? ⟨b, o + i * 2, Option.none⟩ = some (.int .i64 x.1) ∧ w.cell? ⟨b, o + i * 2 + 1, Option.none⟩ = some (.bool x.2)
/-- .., and may be written. -/
def Rwf (w : World) (b o n : Nat) : Prop := ∀ j, j < n → w.frozen? ⟨b, o + j, Option.none⟩ = false
/-- A slice of marks. -/
def MkS (w : World) (v : Value) (l : List (Int × Bool)) : Prop := ∃ p cap, v = .slice p l.length cap ∧ l.length ≤ cap ∧ cap ≤ maxLen ∧ ((p = Option.none ∧ l = []) ∨ ∃ b o, p = some ⟨b, o, Option.none⟩ ∧ b < w.heap.size ∧ Row w b o l)

theorem Row.kept {w w' : World} {b o : Nat} {l : List (Int × Bool)} (h : Row w b o l) (hb : b < w.heap.size) (k : Below w.heap.size w w') : Row w' b o l :=
  fun i x hx => ⟨(k.cell (p := ⟨b, _, Option.none⟩) hb).trans (h i x hx).1, (k.cell (p := ⟨b, _, Option.none⟩) hb).trans (h i x hx).2⟩
theorem Rwf.kept {w w' : World} {b o n : Nat} (h : Rwf w b o n) (hb : b < w.heap.size) (k : Below w.heap.size w w') : Rwf w' b o n :=
  fun j hj => (k.frozen (p := ⟨b, _, Option.none⟩) hb).trans (h j hj)
theorem MkS.kept {w w' : World} {v : Value} {l : List (Int × Bool)} (h : MkS w v l) (k : Below w.heap.size w w') : MkS w' v l := by
  obtain ⟨p, cap, h1, h2, h3, h4⟩ := h
  refine ⟨p, cap, h1, h2, h3, ?_⟩
  rcases h4 with h4 | ⟨b, o, hp, hb, hr⟩
  · exact .inl h4
  · exact .inr ⟨b, o, hp, Nat.lt_of_lt_of_le hb k.size, hr.kept hb k⟩
theorem MkS.nil (w : World) : MkS w (.slice Option.none 0 0) [] := ⟨Option.none, 0, rfl, Nat.le_refl _, Nat.zero_le _, .inl ⟨rfl, rfl⟩⟩
theorem below_grow (B : Nat) (w : World) (q : Nat) (os : Array Obj) (hB : B ≤ w.heap.size) : Below B w (Go.Sort.grow (w.drewN q) os) :=
  ⟨rfl, rfl, rfl, by simp [Go.Sort.grow, World.drewN], fun k hk => by
    have hk' : k < w.heap.size := by omega
    simp [Go.Sort.grow, World.drewN, Array.getElem?_append, hk']⟩

/-- Marks by '=='. -/
theorem eql_mk (a c : Int) (b d : Bool) (w : World) : (binOp .eql 50 (.agg #[.int .i64 a, .bool b]) (.agg #[.int .i64 c, .bool d])).run Try.prog w = .ok (.bool (a == c && b == d)) w := by
  rw [run_eql_struct, show (10000 : Nat) = 9999 + 1 from rfl, run_equalIn_agg w 9999 50 _ _ (by kernel_rfl) (by kernel_rfl)]
  by_cases h1 : a = c <;> by_cases h2 : b = d <;> simp [Op.eqFields, go_sem, h1, h2]
theorem neq_mk (a c : Int) (b d : Bool) (w : World) : (binOp .neq 50 (.agg #[.int .i64 a, .bool b]) (.agg #[.int .i64 c, .bool d])).run Try.prog w = .ok (.bool (!(a == c && b == d))) w := by
  rw [run_neq_struct, show (10000 : Nat) = 9999 + 1 from rfl, run_equalIn_agg w 9999 50 _ _ (by kernel_rfl) (by kernel_rfl)]
  by_cases h1 : a = c <;> by_cases h2 : b = d <;> simp [Op.eqFields, go_sem, h1, h2]

set_option maxHeartbeats 1000000 in
/-- cmp.Compare of integers. -/
theorem cmp_any (x y : Int) (w : World) : Calls Try.prog 56 #[.int .i64 x, .int .i64 y] w fun e w' => e = .returned (.int .i64 (if x < y then -1 else if y < x then 1 else 0)) ∧ w' = w := by
  go_enter Try.func56, Try.ntmps56
  by_cases h : x < y
  · go_wp2
    go_ret
    exact ⟨rfl, rfl⟩
  · by_cases h2 : y < x
    · go_wp2
      go_ret
      exact ⟨rfl, rfl⟩
    · go_wp2
      go_ret
      exact ⟨rfl, rfl⟩

set_option maxHeartbeats 1000000 in
/-- The order of marks. -/
theorem order_any (x y : Int × Bool) (w : World) : Calls Try.prog 44 #[.agg #[.int .i64 x.1, .bool x.2], .agg #[.int .i64 y.1, .bool y.2]] w fun e w' => e = .returned (.int .i64 (cmpM x y)) ∧ ∃ q os', w' = Go.Sort.grow (w.drewN q) os' := by
  obtain ⟨a, b⟩ := x
  obtain ⟨c, d⟩ := y
  have he := eql_mk a c b d
  have hc := cmp_any a c
  simp only
  by_cases h : a = c
  · subst h
    cases b <;> cases d <;>
      (go_enter Try.func44, Try.ntmps44
       go_wp2
       go_ret
       exact ⟨by simp [cmpM], 0, _, by rw [Go.Sort.alloc_eq_grow, Go.Sort.alloc_eq_grow, Go.Sort.grow_grow]; rfl⟩)
  · have he' : ∀ w, (binOp .eql 50 (.agg #[.int .i64 a, .bool b]) (.agg #[.int .i64 c, .bool d])).run Try.prog w = .ok (.bool false) w := fun w => by rw [eql_mk]; simp [h]
    clear he
    by_cases h2 : a < c
    · have hr : cmpM (a, b) (c, d) = -1 := by simp [cmpM, h, h2]
      rw [hr]
      rw [if_pos h2] at hc
      clear hr
      go_enter Try.func44, Try.ntmps44
      go_wp2_with (go_at_call 56; refine (hc _).mono ?_; rintro e w' ⟨rfl, rfl⟩)
      go_ret
      exact ⟨rfl, 0, _, by rw [Go.Sort.alloc_eq_grow, Go.Sort.alloc_eq_grow, Go.Sort.grow_grow]; rfl⟩
    · have h3 : c < a := by omega
      have hr : cmpM (a, b) (c, d) = 1 := by simp [cmpM, h, h2]
      rw [hr]
      rw [if_neg h2, if_pos h3] at hc
      clear hr
      go_enter Try.func44, Try.ntmps44
      go_wp2_with (go_at_call 56; refine (hc _).mono ?_; rintro e w' ⟨rfl, rfl⟩)
      go_ret
      exact ⟨rfl, 0, _, by rw [Go.Sort.alloc_eq_grow, Go.Sort.alloc_eq_grow, Go.Sort.grow_grow]; rfl⟩

set_option maxHeartbeats 1000000 in
/-- Are marks of one object? -/
theorem same_any (x y : Int × Bool) (w : World) : Calls Try.prog 46 #[.agg #[.int .i64 x.1, .bool x.2], .agg #[.int .i64 y.1, .bool y.2]] w fun e w' => e = .returned (.bool (x.1 == y.1)) ∧ ∃ q os', w' = Go.Sort.grow (w.drewN q) os' := by
  go_enter Try.func46, Try.ntmps46
  go_wp2
  go_ret
  exact ⟨rfl, 0, _, by rw [Go.Sort.alloc_eq_grow, Go.Sort.alloc_eq_grow, Go.Sort.grow_grow]; rfl⟩
end Go.Proofs.Ytcbpkagegdfidaa
