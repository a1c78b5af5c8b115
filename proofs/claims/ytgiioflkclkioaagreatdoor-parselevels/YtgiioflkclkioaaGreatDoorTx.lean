/- gauss.digits, Text at whole numbers; Awake: the fixed fact of chapter 2's example holds. -/
import Derived.Test.YtgiioflkclkioaaGreatDoorAr
import Derived.Test.YtgiioflkclkioaaGreatDoorSh
import Derived.Lib.SmallJoins
import Derived.Lib.ItoaLen
import Derived.Lib.AppendIntMem
set_option linter.unusedSimpArgs false
set_option linter.unusedVariables false
namespace Go.Proofs.YtgiioflkclkioaaGreatDoor
open Go.RowKit Ieee

/-- The library's table of powers lies there. -/
def Tb (w : World) : Prop := Lib.TabIs Tryz.prog w "internal/strconv.uint64pow10" .u64 Lib.pow10Tab
theorem gPow : Tryz.prog.globalNamed "internal/strconv.uint64pow10" = some 5 := by kernel_rfl
theorem Tb.on {w w' : World} (h : Tb w) (hb : Below w.heap.size w w') : Tb w' := by
  exact Joins.tab_stays gPow h hb (Nat.le_refl _)
theorem below_trans3 {a b c : World} (h : Below a.heap.size a b) (k : Below b.heap.size b c) : Below a.heap.size a c := h.trans (k.mono h.size)

theorem int_fl (z : Bool) {n : Int} (h : Sm n) : floatToIntVal .f64 (fl z n) .i64 = some n := by
  unfold floatToIntVal
  rw [toInt_fl z h]
  unfold Sm at h
  have h1 : IntKind.i64.min = -9223372036854775808 := by decide
  have h2 : IntKind.i64.max = 9223372036854775807 := by decide
  simp only [h1, h2]
  rw [if_pos (by omega)]

theorem itoa_len {n : Int} (h : Sm n) : (Lib.itoa n).length ≤ 21 := by
  unfold Sm at h
  exact Lib.itoa_length_le n (by omega) (by omega)

theorem digits_any (z : Bool) {n : Int} (h : Sm n) (w : World) (ht : Tb w) :
    Calls Tryz.prog 181 #[.float .f64 (fl z n)] w fun e w' => e = .returned (.string ⟨(Lib.itoa n).toArray⟩) ∧ Below w.heap.size w w' := by
  have hc := fun w => run_convert_float_int (P := Tryz.prog) w 68 3 .f64 .i64 (fl z n) n (by kernel_rfl) Tryz.underlying3 (int_fl z h)
  have hb : -9223372036854775808 ≤ n ∧ n ≤ 9223372036854775807 := by unfold Sm at h; omega
  go_enter Tryz.func181, Tryz.ntmps181
  go_wp2_with (go_at_call 28; refine (Tryz.strconv_Itoa n hb.1 hb.2 _ ht).mono ?_; rintro e w' ⟨rfl, k, os, rfl⟩)
  go_ret
  exact ⟨rfl, Lib.below_grow _ _ (Nat.le_refl _) _ _⟩

/-- A number's text. -/
def txt (r i : Int) : List UInt8 :=
  if i = 0 then Lib.itoa r
  else if r = 0 then Lib.itoa i ++ [105]
  else if 0 < i then Lib.itoa r ++ ([43] ++ (Lib.itoa i ++ [105]))
  else Lib.itoa r ++ (Lib.itoa i ++ [105])

theorem cat_run (x y : List UInt8) (hx : x.length ≤ 1000) (hy : y.length ≤ 1000) (w : World) : (Op.stringOp .add ⟨x.toArray⟩ ⟨y.toArray⟩).run Tryz.prog w = .ok (.string ⟨(x ++ y).toArray⟩) w :=
  run_string_add_lists w x y (by omega) (by omega)
theorem cat_run_i (x : List UInt8) (hx : x.length ≤ 1000) (w : World) : (Op.stringOp .add ⟨x.toArray⟩ ⟨#[105]⟩).run Tryz.prog w = .ok (.string ⟨(x ++ [105]).toArray⟩) w :=
  cat_run x [105] hx (by simp) w
theorem cat_run_p (x : List UInt8) (hx : x.length ≤ 1000) (w : World) : (Op.stringOp .add ⟨#[43]⟩ ⟨x.toArray⟩).run Tryz.prog w = .ok (.string ⟨([43] ++ x).toArray⟩) w :=
  cat_run [43] x (by simp) hx w

theorem text_none (z y : Bool) {r i : Int} (hr : Sm r) (hi : Sm i) (h : ok2 r i = false) (w : World) :
    Calls Tryz.prog 167 #[.complex .f64 (fl z r) (fl y i)] w fun e w' => e = .returned (.string ⟨#[]⟩) ∧ w = w' := by
  go_enter Tryz.func167, Tryz.ntmps167
  go_wp2_with (go_at_call 166; refine (fits_fl _ _ (by assumption) (by assumption) _).mono ?_; rintro e w' ⟨rfl, rfl⟩)
  go_ret
  exact ⟨rfl, rfl⟩

set_option maxRecDepth 100000 in
theorem text_any (z y : Bool) {r i : Int} (hr : Sm r) (hi : Sm i) (h : ok2 r i = true) (w : World) (ht : Tb w) :
    Calls Tryz.prog 167 #[.complex .f64 (fl z r) (fl y i)] w fun e w' => e = .returned (.string ⟨(txt r i).toArray⟩) ∧ Below w.heap.size w w' := by
  have l1 := itoa_len hr
  have l2 := itoa_len hi
  have c1 := cat_run_i (Lib.itoa i) (by omega)
  have e1 := eq_fl0 y hi
  have e2 := eq_fl0 z hr
  have e3 := gt_fl0 y hi
  unfold txt
  by_cases h1 : i = 0
  · rw [if_pos h1]
    have e1' : (FloatKind.f64.format.order (fl y i) 0 == some .eq) = true := by rw [e1]; simp [h1]
    clear e1 e2 e3 h1 c1
    go_enter Tryz.func167, Tryz.ntmps167
    go_wp2_with (first
      | (go_at_call 166; refine (fits_fl _ _ (by assumption) (by assumption) _).mono ?_; rintro e w' ⟨rfl, rfl⟩)
      | (go_at_call 181; refine (digits_any _ (by assumption) _ (by assumption)).mono ?_; rintro e w' ⟨rfl, hb⟩))
    go_ret
    exact ⟨rfl, hb⟩
  · rw [if_neg h1]
    have e1' : (FloatKind.f64.format.order (fl y i) 0 == some .eq) = false := by rw [e1]; simp [h1]
    clear e1
    by_cases h2 : r = 0
    · rw [if_pos h2]
      have e2' : (FloatKind.f64.format.order (fl z r) 0 == some .eq) = true := by rw [e2]; simp [h2]
      clear e2 e3 h1 h2
      go_enter Tryz.func167, Tryz.ntmps167
      go_wp2_with (first
        | (go_at_call 166; refine (fits_fl _ _ (by assumption) (by assumption) _).mono ?_; rintro e w' ⟨rfl, rfl⟩)
        | (go_at_call 181; refine (digits_any _ (by assumption) _ (by assumption)).mono ?_; rintro e w' ⟨rfl, hb⟩))
      go_ret
      exact ⟨rfl, hb⟩
    · rw [if_neg h2]
      have e2' : (FloatKind.f64.format.order (fl z r) 0 == some .eq) = false := by rw [e2]; simp [h2]
      clear e2 h2 h1
      by_cases h3 : 0 < i
      · rw [if_pos h3]
        have e3' : (FloatKind.f64.format.order (fl y i) 0 == some .gt) = true := by rw [e3]; simp [h3]
        have c2 := cat_run_p (Lib.itoa i ++ [105]) (by simp; omega)
        have c3 := cat_run (Lib.itoa r) ([43] ++ (Lib.itoa i ++ [105])) (by omega) (by simp; omega)
        clear e3 h3
        generalize hA : [43] ++ (Lib.itoa i ++ [105]) = A at *
        generalize hB : Lib.itoa i ++ [105] = B at *
        clear hA hB
        go_enter Tryz.func167, Tryz.ntmps167
        go_wp2_with (first
          | (go_at_call 166; refine (fits_fl _ _ (by assumption) (by assumption) _).mono ?_; rintro e w' ⟨rfl, rfl⟩)
          | (go_at_call 181; refine Hid.out ?_))
        refine Lib.hid ((digits_any _ (by assumption) _ (by assumption)).mono ?_)
        rintro e w1 ⟨rfl, hb⟩
        have ht1 := ht.on hb
        go_wp2_with (go_at_call 181; refine Hid.out ?_)
        refine Lib.hid ((digits_any _ (by assumption) _ (by assumption)).mono ?_)
        rintro e w2 ⟨rfl, hb2⟩
        go_wp2
        go_ret
        exact ⟨rfl, below_trans3 hb hb2⟩
      · rw [if_neg h3]
        have e3' : (FloatKind.f64.format.order (fl y i) 0 == some .gt) = false := by rw [e3]; simp [h3]
        have c3 := cat_run (Lib.itoa r) (Lib.itoa i ++ [105]) (by omega) (by simp; omega)
        clear e3 h3
        generalize hB : Lib.itoa i ++ [105] = B at *
        clear hB
        go_enter Tryz.func167, Tryz.ntmps167
        go_wp2_with (first
          | (go_at_call 166; refine (fits_fl _ _ (by assumption) (by assumption) _).mono ?_; rintro e w' ⟨rfl, rfl⟩)
          | (go_at_call 181; refine Hid.out ?_))
        refine Lib.hid ((digits_any _ (by assumption) _ (by assumption)).mono ?_)
        rintro e w1 ⟨rfl, hb⟩
        have ht1 := ht.on hb
        go_wp2_with (go_at_call 181; refine Hid.out ?_)
        refine Lib.hid ((digits_any _ (by assumption) _ (by assumption)).mono ?_)
        rintro e w2 ⟨rfl, hb2⟩
        go_wp2
        go_ret
        exact ⟨rfl, below_trans3 hb hb2⟩
end Go.Proofs.YtgiioflkclkioaaGreatDoor
