/- The laws' own small functions over pairs: near, small; is, minus. -/
import Derived.Test.YtmbdbdgilhjgeaaDoorAw
set_option linter.unusedSimpArgs false
set_option linter.unusedVariables false
namespace Go.Proofs.YtmbdbdgilhjgeaaDoor
open Go.RowKit Ieee

/-- A pair's parts. -/
def I32 (n : Int) : Prop := -2147483648 ≤ n ∧ n ≤ 2147483647
abbrev pr (a b : Int) : Value := .agg #[.int .i32 a, .int .i32 b]
theorem tmod_bd (a : Int) (k : Nat) (hk : 0 < k) : Bd (k - 1) (a.tmod k) := by
  unfold Bd
  rw [Int.natAbs_tmod, Int.natAbs_natCast]
  have := Nat.mod_lt a.natAbs hk
  omega
theorem tmod_in (a : Int) (k : Nat) (hk : 0 < k) : -(k : Int) < a.tmod k ∧ a.tmod k < k := by
  have := tmod_bd a k hk
  unfold Bd at this
  omega

set_option maxRecDepth 100000 in
theorem near_any (a b : Int) (ha : I32 a) (hb : I32 b) (w : World) :
    Calls Tryd.prog 14 #[pr a b] w fun e w' => e = .returned (.tuple #[.int .i64 (a.tmod 1050000), .int .i64 (b.tmod 1050000)]) ∧ Below w.heap.size w w' := by
  obtain ⟨a1, a2⟩ := ha
  obtain ⟨b1, b2⟩ := hb
  go_enter Tryd.func14, Tryd.ntmps14
  go_wp2
  go_quiet (fail)
  go_wp2
  go_ret2
  exact ⟨rfl, ⟨rfl, rfl, rfl, by simp, fun k hk => Below.heap_alloc w _ k hk⟩⟩
set_option maxRecDepth 100000 in
theorem small_any (a b : Int) (ha : I32 a) (hb : I32 b) (w : World) :
    Calls Tryd.prog 33 #[pr a b] w fun e w' => e = .returned (.complex .f64 (fl false (a.tmod 400)) (fl false (b.tmod 400))) ∧ Below w.heap.size w w' := by
  obtain ⟨a1, a2⟩ := ha
  obtain ⟨b1, b2⟩ := hb
  obtain ⟨t1, t2⟩ : -400 < a.tmod 400 ∧ a.tmod 400 < 400 := tmod_in a 400 (by omega)
  obtain ⟨t3, t4⟩ : -400 < b.tmod 400 ∧ b.tmod 400 < 400 := tmod_in b 400 (by omega)
  go_enter Tryd.func33, Tryd.ntmps33
  go_wp2_with (go_at_call 15; refine (number_any _ _ _).mono ?_; rintro e w' ⟨rfl, rfl⟩)
  go_ret
  exact ⟨rfl, (Below.refl _ _).alloc (Nat.le_refl _) _⟩

/-- A nought of ours has no sign. -/
theorem signbit0 (w : World) : Calls Tryd.prog 42 #[.float .f64 0] w fun e w' => e = .returned (.bool false) ∧ w = w' := by
  have hx : (callFunc 52 #[.float .f64 0]).run Tryd.prog w = .ok (.value (.int .u64 0)) w := by
    rw [run_callFunc_extern Tryd.func52 (by kernel_rfl) (by kernel_rfl) (by kernel_rfl) (e := Extern.MathFloatBits.float64bits) (by kernel_rfl)]
    rfl
  go_enter Tryd.func42, Tryd.ntmps42
  go_wp2
  go_ret
  exact ⟨rfl, rfl⟩
theorem minus_any {r i : Int} (hr : Sm r) (hi : Sm i) (w : World) :
    Calls Tryd.prog 32 #[.complex .f64 (fl false r) (fl false i)] w fun e w' => e = .returned (.bool false) ∧ w = w' := by
  have e1 := eq_fl0 false hr
  have e2 := eq_fl0 false hi
  have o2 : (FloatKind.f64.format.order 0 0 == some .eq) = true := by decide +kernel
  by_cases h1 : r = 0
  · subst h1
    rw [fl0]
    clear e1
    by_cases h2 : i = 0
    · subst h2
      rw [fl0]
      clear e2
      go_enter Tryd.func32, Tryd.ntmps32
      go_wp2_with (go_at_call 42; refine (signbit0 _).mono ?_; rintro e w' ⟨rfl, rfl⟩)
      go_ret
      exact ⟨rfl, rfl⟩
    · have e2' : (FloatKind.f64.format.order (fl false i) 0 == some .eq) = false := by rw [e2]; simp [h2]
      clear e2 h2
      go_enter Tryd.func32, Tryd.ntmps32
      go_wp2_with (go_at_call 42; refine (signbit0 _).mono ?_; rintro e w' ⟨rfl, rfl⟩)
      go_ret
      exact ⟨rfl, rfl⟩
  · have e1' : (FloatKind.f64.format.order (fl false r) 0 == some .eq) = false := by rw [e1]; simp [h1]
    clear e1 h1
    by_cases h2 : i = 0
    · subst h2
      rw [fl0]
      clear e2
      go_enter Tryd.func32, Tryd.ntmps32
      go_wp2_with (go_at_call 42; refine (signbit0 _).mono ?_; rintro e w' ⟨rfl, rfl⟩)
      go_ret
      exact ⟨rfl, rfl⟩
    · have e2' : (FloatKind.f64.format.order (fl false i) 0 == some .eq) = false := by rw [e2]; simp [h2]
      clear e2 h2
      go_enter Tryd.func32, Tryd.ntmps32
      go_wp2_with (go_at_call 42; refine (signbit0 _).mono ?_; rintro e w' ⟨rfl, rfl⟩)
      go_ret
      exact ⟨rfl, rfl⟩

/-- An answer is the number, if it fits, and nothing, if not. -/
theorem is_yes (p q : Int) (may : Bool) (hp : Sm p) (hq : Sm q) (h : (may && ok2 p q) = true) (w : World) :
    Calls Tryd.prog 20 #[.complex .f64 (fl false p) (fl false q), .bool true, .int .i64 p, .int .i64 q, .bool may] w fun e w' => e = .returned (.bool true) ∧ w = w' := by
  obtain rfl : may = true := by cases may <;> simp_all
  have h' : ok2 p q = true := by simpa using h
  have e1 : (FloatKind.f64.format.order (fl false p) (fl false p) == some .eq) = true := by rw [eq_fl false false hp hp]; simp
  have e2 : (FloatKind.f64.format.order (fl false q) (fl false q) == some .eq) = true := by rw [eq_fl false false hq hq]; simp
  clear h
  go_enter Tryd.func20, Tryd.ntmps20
  go_wp2_with (first
    | (go_at_call 16; refine (refFits_any _ _ _).mono ?_; rintro e w' ⟨rfl, rfl⟩)
    | (go_at_call 15; refine (number_any _ _ _).mono ?_; rintro e w' ⟨rfl, rfl⟩)
    | (go_at_call 32; refine (minus_any hp hq _).mono ?_; rintro e w' ⟨rfl, rfl⟩))
  go_ret
  exact ⟨rfl, rfl⟩
theorem is_no (p q : Int) (may : Bool) (h : (may && ok2 p q) = false) (w : World) :
    Calls Tryd.prog 20 #[.complex .f64 0 0, .bool false, .int .i64 p, .int .i64 q, .bool may] w fun e w' => e = .returned (.bool true) ∧ w = w' := by
  have o2 : (FloatKind.f64.format.order 0 0 == some .eq) = true := by decide +kernel
  cases may with
  | false =>
    clear h
    go_enter Tryd.func20, Tryd.ntmps20
    go_wp2_with (go_at_call 16; refine (refFits_any _ _ _).mono ?_; rintro e w' ⟨rfl, rfl⟩)
    go_ret
    exact ⟨rfl, rfl⟩
  | true =>
    have h' : ok2 p q = false := by simpa using h
    clear h
    go_enter Tryd.func20, Tryd.ntmps20
    go_wp2_with (go_at_call 16; refine (refFits_any _ _ _).mono ?_; rintro e w' ⟨rfl, rfl⟩)
    go_ret
    exact ⟨rfl, rfl⟩
/-- An answer of ours, held: true. -/
theorem is_any (p q : Int) (may c : Bool) (hp : Sm p) (hq : Sm q) (h : (may && ok2 p q) = c) (w : World) :
    Calls Tryd.prog 20 #[.complex .f64 (fl false (pk c p)) (fl false (pk c q)), .bool c, .int .i64 p, .int .i64 q, .bool may] w fun e w' => e = .returned (.bool true) ∧ w = w' := by
  cases c with
  | false => rw [pk_false, pk_false, fl0]; exact is_no p q may h w
  | true => exact is_yes p q may hp hq h w
end Go.Proofs.YtmbdbdgilhjgeaaDoor
