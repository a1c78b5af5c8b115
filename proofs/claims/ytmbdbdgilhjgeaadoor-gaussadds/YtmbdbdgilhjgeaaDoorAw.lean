/- Awake: the fixed fact of chapter 2's example holds; the laws' own small functions: number, near, small, is, minus, and the document's Fits. -/
import Derived.Test.YtmbdbdgilhjgeaaDoorTx
import Derived.Deep.QuietTactic
import Derived.BigQuiet
set_option linter.unusedSimpArgs false
set_option linter.unusedVariables false
namespace Go.Proofs.YtmbdbdgilhjgeaaDoor
open Go.RowKit Ieee

theorem fl3 : fl false 3 = 4613937818241073152 := by decide +kernel
theorem fl4 : fl false 4 = 4616189618054758400 := by decide +kernel
theorem fl25 : fl false 25 = 4627730092099895296 := by decide +kernel
theorem flm2 : fl false (-2) = 13835058055282163712 := by decide +kernel
theorem sm_few : Sm 3 ∧ Sm 4 ∧ Sm 25 ∧ Sm (-2) ∧ Sm 0 ∧ Sm 1 := by unfold Sm; decide

theorem norm34 (w : World) : Calls Tryd.prog 22 #[.complex .f64 4613937818241073152 4616189618054758400] w fun e w' => e = .returned (.tuple #[.complex .f64 4627730092099895296 0, .bool true]) ∧ w = w' := by
  have h := norm_any false false sm_few.1 sm_few.2.1 w
  rw [show (ok2 3 4 && ok2 (3 * 3 + 4 * 4) 0) = true by decide, ans_true, show (3 * 3 + 4 * 4 : Int) = 25 by decide, fl3, fl4, fl25, fl0] at h
  exact h
theorem txt34 : txt 3 4 = [51, 43, 52, 105] := by simp [txt, Lib.itoa, Lib.decDigits]
theorem txtm2 : txt 0 (-2) = [45, 50, 105] := by simp [txt, Lib.itoa, Lib.decDigits]
theorem text34 (w : World) (ht : Tb w) : Calls Tryd.prog 27 #[.complex .f64 4613937818241073152 4616189618054758400] w fun e w' => e = .returned (.string ⟨#[51, 43, 52, 105]⟩) ∧ Below w.heap.size w w' := by
  have h := text_any false false sm_few.1 sm_few.2.1 (by decide) w ht
  rw [fl3, fl4, txt34] at h
  exact h
theorem textm2 (w : World) (ht : Tb w) : Calls Tryd.prog 27 #[.complex .f64 0 13835058055282163712] w fun e w' => e = .returned (.string ⟨#[45, 50, 105]⟩) ∧ Below w.heap.size w w' := by
  have h := text_any false false sm_few.2.2.2.2.1 sm_few.2.2.2.1 (by decide) w ht
  rw [fl0, flm2, txtm2] at h
  exact h

/-- True comes back; nothing that was there has turned. -/
def Yes (w : World) (e : Ending) (w' : World) : Prop := e = .returned (.bool true) ∧ Below w.heap.size w w'

set_option maxRecDepth 100000 in
theorem awake_any (w : World) (ht : Tb w) : Calls Tryd.prog 13 #[] w (Yes w) := by
  have o1 : (FloatKind.f64.format.order 4627730092099895296 4627730092099895296 == some .eq) = true := by decide +kernel
  have o2 : (FloatKind.f64.format.order 0 0 == some .eq) = true := by decide +kernel
  go_enter Tryd.func13, Tryd.ntmps13
  go_wp2_with (first
    | (go_at_call 22; refine (norm34 _).mono ?_; rintro e w' ⟨rfl, rfl⟩)
    | (go_at_call 27; refine Hid.out ?_))
  refine Lib.hid ((text34 _ ht).mono ?_)
  rintro e w1 ⟨rfl, hb⟩
  have ht1 := ht.on hb
  go_wp2_with (go_at_call 27; refine Hid.out ?_)
  refine Lib.hid ((textm2 _ ht1).mono ?_)
  rintro e w2 ⟨rfl, hb2⟩
  go_wp2
  go_ret
  exact ⟨rfl, below_trans hb hb2⟩

theorem number_any (r i : Int) (w : World) : Calls Tryd.prog 15 #[.int .i64 r, .int .i64 i] w fun e w' => e = .returned (.complex .f64 (fl false r) (fl false i)) ∧ w = w' := by
  rw [← floatOfInt_fl, ← floatOfInt_fl]
  go_enter Tryd.func15, Tryd.ntmps15
  go_wp2
  go_ret
  exact ⟨rfl, rfl⟩

theorem refFits_any (r i : Int) (w : World) : Calls Tryd.prog 16 #[.int .i64 r, .int .i64 i] w fun e w' => e = .returned (.bool (ok2 r i)) ∧ w = w' := by
  have key : ∀ b, ok2 r i = b → Calls Tryd.prog 16 #[.int .i64 r, .int .i64 i] w fun e w' => e = .returned (.bool b) ∧ w = w' := by
    intro b hb
    simp only [ok2, okI] at hb
    by_cases h1 : -1048576 ≤ r
    · by_cases h2 : r ≤ 1048576
      · by_cases h3 : -1048576 ≤ i
        · by_cases h4 : i ≤ 1048576
          · obtain rfl : b = true := by simp [h1, h2, h3, h4] at hb; exact hb
            clear hb
            go_enter Tryd.func16, Tryd.ntmps16
            go_wp2
            go_ret
            exact ⟨rfl, rfl⟩
          · obtain rfl : b = false := by simp [h1, h2, h3, h4] at hb; exact hb
            clear hb
            go_enter Tryd.func16, Tryd.ntmps16
            go_wp2
            go_ret
            exact ⟨rfl, rfl⟩
        · obtain rfl : b = false := by simp [h1, h2, h3] at hb; exact hb
          clear hb
          go_enter Tryd.func16, Tryd.ntmps16
          go_wp2
          go_ret
          exact ⟨rfl, rfl⟩
      · obtain rfl : b = false := by simp [h1, h2] at hb; exact hb
        clear hb
        go_enter Tryd.func16, Tryd.ntmps16
        go_wp2
        go_ret
        exact ⟨rfl, rfl⟩
    · obtain rfl : b = false := by simp [h1] at hb; exact hb
      clear hb
      go_enter Tryd.func16, Tryd.ntmps16
      go_wp2
      go_ret
      exact ⟨rfl, rfl⟩
  exact key _ rfl
end Go.Proofs.YtmbdbdgilhjgeaaDoor
