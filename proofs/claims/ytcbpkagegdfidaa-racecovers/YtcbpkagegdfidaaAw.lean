/- The law's fixed fact. -/
import Derived.Test.YtcbpkagegdfidaaMk
set_option linter.unusedSimpArgs false
set_option linter.unusedVariables false
namespace Go.Proofs.Ytcbpkagegdfidaa
open Go.RowKit

theorem mks_lit (X : World) (a : Int) (b : Bool) : MkS (X.alloc (.cells #[.int .i64 a, .bool b] 50)) (.slice (some ⟨X.heap.size, 0, Option.none⟩) 1 1) [(a, b)] := by
  refine ⟨_, 1, rfl, Nat.le_refl _, by unfold maxLen; omega, .inr ⟨X.heap.size, 0, rfl, by simp, fun i x hx => ?_⟩⟩
  match i with
  | 0 =>
    simp at hx; subst hx
    have hg := heap_alloc_new X (.cells #[.int .i64 a, .bool b] 50)
    exact ⟨by rw [cell_of_row _ _ _ _ _ _ hg]; rfl, by rw [cell_of_row _ _ _ _ _ _ hg]; rfl⟩
  | i + 1 => simp at hx
theorem below_alloc (X : World) (o : Obj) : Below X.heap.size X (X.alloc o) := (Below.refl _ X).alloc (Nat.le_refl _) o
theorem asc_one (x : Int × Bool) : asc [x] := by simp [asc]
theorem clh_rr : clh [(1, false)] [(1, false)] = false := by decide
theorem clh_rw : clh [(1, false)] [(1, true)] = true := by decide

set_option maxHeartbeats 2000000 in
theorem awake_any (w : World) : Calls Try.prog 51 #[] w fun e w' => e = .returned (.bool true) ∧ Below w.heap.size w w' := by
  have n1 := nrm_asc (asc_one (1, false))
  have HN := Lib.hid n1
  have hnew1 := Lib.hid (new_any 0 [(1, false)] _ _ (mks_lit w 1 false) (by simp))
  clear n1
  go_enter Try.func51, Try.ntmps51
  go_wp2_with (go_at_call 22; refine Hid.out ?_)
  refine Lib.hid ?_
  refine hnew1.out.mono ?_
  rintro e w1 ⟨v1, rfl, hm1, hb1⟩
  rw [HN.out] at hm1
  have HM1 := Lib.hid hm1
  have HB1 : Hid (Below w.heap.size w w1) := Lib.hid ((below_alloc w _).trans (hb1.mono (by simp)))
  clear hm1 hb1 hnew1
  have hnew2 := Lib.hid (new_any 1 [(1, false)] _ _ (mks_lit w1 1 false) (by simp))
  go_wp2_with (go_at_call 22; refine Hid.out ?_)
  refine Lib.hid ?_
  refine hnew2.out.mono ?_
  rintro e w2 ⟨v2, rfl, hm2, hb2⟩
  rw [HN.out] at hm2
  have hb12 : Below w1.heap.size w1 w2 := (below_alloc w1 _).trans (hb2.mono (by simp))
  have HM1' := Lib.hid (HM1.out.kept hb12)
  have HB2 : Hid (Below w.heap.size w w2) := Lib.hid (HB1.out.trans (hb12.mono HB1.out.size))
  have HM2 := Lib.hid hm2
  clear hnew2 hm2 hb2 hb12 HM1 HB1
  obtain ⟨p1, c1, e1, _⟩ := HM1'.out
  obtain ⟨p2, c2, e2, _⟩ := HM2.out
  rw [show ([(1, false)] : List (Int × Bool)).length = 1 from rfl] at e1 e2
  subst e1; subst e2
  obtain ⟨W3, hW3⟩ : ∃ W3, (w2.alloc (Obj.cells #[Value.int .i64 0, .slice p1 1 c1] 38)).alloc (Obj.cells #[Value.int .i64 1, .slice p2 1 c2] 38) = W3 := ⟨_, rfl⟩
  have hb23 : Below w2.heap.size w2 W3 := by rw [← hW3]; exact (below_alloc w2 _).alloc (by simp) _
  have hsz : W3.heap.size = w2.heap.size + 1 + 1 := by rw [← hW3]; simp
  have hg0 : W3.heap[w2.heap.size]? = some (.cells #[Value.int .i64 0, .slice p1 1 c1] 38 (0, 0)) := by
    rw [← hW3, heap_alloc_old _ _ (by simp)]; exact heap_alloc_new _ _
  have hc1 := Lib.hid (clash_any _ _ _ _ W3 (HM1'.out.kept hb23) (HM2.out.kept hb23) (by simp) (by simp))
  have HG0 := Lib.hid hg0
  have HSZ := Lib.hid hsz
  have HB3 : Hid (Below w.heap.size w W3) := Lib.hid (HB2.out.trans (hb23.mono HB2.out.size))
  have HM3 := Lib.hid (HM1'.out.kept hb23)
  have HW := Lib.hid hW3
  clear hb23 hsz hg0 hW3
  go_wp2_with (go_at_call 32; refine Hid.out ?_)
  refine Lib.hid ?_
  rw [HW.out]
  refine hc1.out.mono ?_
  rintro e w4 ⟨rfl, hb4⟩
  rw [clh_rr]
  have hs3 := HSZ.out
  have g1 : w4.cell? ⟨w2.heap.size, 1, Option.none⟩ = some (.slice p1 1 c1) := by
    rw [hb4.cell (p := ⟨w2.heap.size, 1, Option.none⟩) (by show w2.heap.size < _; omega), cell_of_row _ _ _ _ _ _ HG0.out]; rfl
  have HB4 : Hid (Below w.heap.size w w4) := Lib.hid (HB3.out.trans (hb4.mono HB3.out.size))
  have hc2 := Lib.hid (clash_any [(1, false)] [(1, true)] _ _ (w4.alloc (Obj.cells #[Value.int .i64 1, .bool true] 50)) ((HM3.out.kept hb4).kept (below_alloc w4 _)) (mks_lit w4 1 true) (by simp) (by simp))
  clear hs3 hb4 HW hc1
  go_wp2_with (go_at_call 32; refine Hid.out ?_)
  refine Lib.hid ?_
  refine hc2.out.mono ?_
  rintro e w5 ⟨rfl, hb5⟩
  rw [clh_rw]
  have HB5 : Hid (Below w.heap.size w w5) := Lib.hid ((HB4.out.alloc HB4.out.size _).trans (hb5.mono (by simp; have := HB4.out.size; omega)))
  clear hb5 hc2
  go_wp2
  go_ret
  exact ⟨rfl, HB5.out⟩
end Go.Proofs.Ytcbpkagegdfidaa
