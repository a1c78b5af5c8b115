/- TreeWords: any number as a kind, a sort. -/
import Derived.Test.YtmomdcnlhljhcaaDoorAw
import Derived.BigQuiet
import Derived.Deep.QuietTactic
set_option linter.unusedSimpArgs false
set_option linter.unusedVariables false
namespace Go.Proofs.YtmomdcnlhljhcaaDoor
open Go.RowKit Ieee

set_option maxRecDepth 100000 in
set_option maxHeartbeats 3200000 in
theorem words_out (n : Int) (h0 : -9223372036854775808 ≤ n) (h1 : n ≤ 9223372036854775807) (h : n < 0 ∨ 17 ≤ n) (w : World) (hl : Lb w) : Calls Tryd.prog 3 #[.int .i64 n] w fun e w' => e = .returned (.bool true) ∧ Below w.heap.size w w' := by
  have HL := Lib.hid hl
  clear hl
  rcases h with h | h
  · go_enter Tryd.func3, Tryd.ntmps3
    go_wp2_with fail
    refine (awake_any w HL.out).mono ?_
    rintro en w1 ⟨rfl, hb1⟩
    have HB1 := Lib.hid hb1
    clear hb1
    go_wp2_with (first
      | (go_at_call 7; refine (sword_out n (.inl h) _).mono ?_; rintro en w2 ⟨rfl, rfl⟩)
      | (go_at_call 8; refine (kword_out n (.inl h) _).mono ?_; rintro en w2 ⟨rfl, rfl⟩))
    go_ret
    exact ⟨rfl, HB1.out.alloc HB1.out.size _⟩
  · have hn0 : ¬ n < 0 := by omega
    have hn6 : ¬ n < 6 := by omega
    have hn16 : 16 < n := by omega
    have hn1 : 0 ≤ n := by omega
    go_enter Tryd.func3, Tryd.ntmps3
    go_wp2_with fail
    refine (awake_any w HL.out).mono ?_
    rintro en w1 ⟨rfl, hb1⟩
    have HB1 := Lib.hid hb1
    clear hb1
    go_wp2_with (first
      | (go_at_call 7; refine (sword_out n (.inr (by omega)) _).mono ?_; rintro en w2 ⟨rfl, rfl⟩)
      | (go_at_call 8; refine (kword_out n (.inr h) _).mono ?_; rintro en w2 ⟨rfl, rfl⟩))
    go_ret
    exact ⟨rfl, HB1.out.alloc HB1.out.size _⟩

theorem flip {f : FuncId} {args : Array Value} {w : World} {r : Ending} (h : Calls Tryd.prog f args w fun e w' => e = r ∧ w = w') : Calls Tryd.prog f args w fun e w' => e = r ∧ w' = w := h.mono fun _ _ ⟨a, b⟩ => ⟨a, b.symm⟩
theorem below_drewN {B : Nat} {w w' : World} (h : Below B w w') (n : Nat) : Below B w (w'.drewN n) := ⟨h.os, h.tape, h.output, h.size, h.block⟩
theorem Lb.alloc {w : World} (h : Lb w) (o : Obj) : Lb (w.alloc o) := h.new (below_alloc w o)
set_option maxRecDepth 100000 in
set_option maxHeartbeats 3200000 in
theorem words_0 (w : World) (hl : Lb w) : Calls Tryd.prog 3 #[.int .i64 0] w fun e w' => e = .returned (.bool true) ∧ Below w.heap.size w w' := by
  have HL := Lib.hid hl
  clear hl
  have c7 : ∀ w, Lb w → Calls Tryd.prog 7 #[.int .i64 0] w fun e w' => e = .returned (.string ⟨#[99, 101, 108, 108]⟩) ∧ w = w' := fun w h => sword_any 0 (by omega) w h
  have c8 : ∀ w, Lb w → Calls Tryd.prog 8 #[.int .i64 0] w fun e w' => e = .returned (.string ⟨#[]⟩) ∧ w' = w := fun w h => flip (kword_any 0 (by omega) w h)
  have c9 : ∀ w, Calls Tryd.prog 9 #[.int .i64 0] w fun e w' => e = .returned (.bool true) ∧ w' = w := fun w => flip (gives_any 0 (by omega) w)
  have c10 : ∀ w, Calls Tryd.prog 10 #[.int .i64 0] w fun e w' => e = .returned (.int .i64 1) ∧ w' = w := fun w => flip (takes_any 0 (by omega) w)
  have c11 : ∀ w, Calls Tryd.prog 11 #[.int .i64 0] w fun e w' => e = .returned (.bool false) ∧ w' = w := fun w => flip (named_any 0 (by omega) w)
  have c12 : ∀ w, Calls Tryd.prog 12 #[.int .i64 0] w fun e w' => e = .returned (.bool false) ∧ w' = w := fun w => flip (celled_any 0 (by omega) w)
  have H7 := Lib.hid c7
  have H8 := Lib.hid c8
  have H9 := Lib.hid c9
  have H10 := Lib.hid c10
  have H11 := Lib.hid c11
  have H12 := Lib.hid c12
  clear c7 c8 c9 c10 c11 c12
  go_enter Tryd.func3, Tryd.ntmps3
  go_wp2_with fail
  refine (awake_any w HL.out).mono ?_
  rintro en w1 ⟨rfl, hb1⟩
  have HL1 := Lib.hid (HL.out.new hb1)
  have HB1 := Lib.hid hb1
  clear hb1
  go_wp2_with (go_at_call 7; refine (H7.out _ (HL1.out.alloc _)).mono ?_; rintro en w2 ⟨rfl, rfl⟩)
  go_quiet ((first
    | (go_at_call 8; exact Calls.quiet_of_same (H8.out _ (((((HL1.out.alloc _).alloc _).alloc _).alloc _).drewN _)))
    | (go_at_call 9; exact Calls.quiet_of_same (H9.out _))
    | (go_at_call 10; exact Calls.quiet_of_same (H10.out _))
    | (go_at_call 11; exact Calls.quiet_of_same (H11.out _))
    | (go_at_call 12; exact Calls.quiet_of_same (H12.out _))))
  go_wp2
  go_ret
  exact ⟨rfl, below_drewN (((((HB1.out.alloc HB1.out.size _).alloc (by have := HB1.out.size; simp; omega) _).alloc (by have := HB1.out.size; simp; omega) _).alloc (by have := HB1.out.size; simp; omega) _)) _⟩
set_option maxRecDepth 100000 in
set_option maxHeartbeats 3200000 in
theorem words_1 (w : World) (hl : Lb w) : Calls Tryd.prog 3 #[.int .i64 1] w fun e w' => e = .returned (.bool true) ∧ Below w.heap.size w w' := by
  have HL := Lib.hid hl
  clear hl
  have c7 : ∀ w, Lb w → Calls Tryd.prog 7 #[.int .i64 1] w fun e w' => e = .returned (.string ⟨#[97, 114, 114, 97, 121]⟩) ∧ w = w' := fun w h => sword_any 1 (by omega) w h
  have c8 : ∀ w, Lb w → Calls Tryd.prog 8 #[.int .i64 1] w fun e w' => e = .returned (.string ⟨#[108, 111, 97, 100]⟩) ∧ w' = w := fun w h => flip (kword_any 1 (by omega) w h)
  have c9 : ∀ w, Calls Tryd.prog 9 #[.int .i64 1] w fun e w' => e = .returned (.bool true) ∧ w' = w := fun w => flip (gives_any 1 (by omega) w)
  have c10 : ∀ w, Calls Tryd.prog 10 #[.int .i64 1] w fun e w' => e = .returned (.int .i64 0) ∧ w' = w := fun w => flip (takes_any 1 (by omega) w)
  have c11 : ∀ w, Calls Tryd.prog 11 #[.int .i64 1] w fun e w' => e = .returned (.bool true) ∧ w' = w := fun w => flip (named_any 1 (by omega) w)
  have c12 : ∀ w, Calls Tryd.prog 12 #[.int .i64 1] w fun e w' => e = .returned (.bool true) ∧ w' = w := fun w => flip (celled_any 1 (by omega) w)
  have H7 := Lib.hid c7
  have H8 := Lib.hid c8
  have H9 := Lib.hid c9
  have H10 := Lib.hid c10
  have H11 := Lib.hid c11
  have H12 := Lib.hid c12
  clear c7 c8 c9 c10 c11 c12
  go_enter Tryd.func3, Tryd.ntmps3
  go_wp2_with fail
  refine (awake_any w HL.out).mono ?_
  rintro en w1 ⟨rfl, hb1⟩
  have HL1 := Lib.hid (HL.out.new hb1)
  have HB1 := Lib.hid hb1
  clear hb1
  go_wp2_with (go_at_call 7; refine (H7.out _ (HL1.out.alloc _)).mono ?_; rintro en w2 ⟨rfl, rfl⟩)
  go_quiet ((first
    | (go_at_call 8; exact Calls.quiet_of_same (H8.out _ (((((HL1.out.alloc _).alloc _).alloc _).alloc _).drewN _)))
    | (go_at_call 9; exact Calls.quiet_of_same (H9.out _))
    | (go_at_call 10; exact Calls.quiet_of_same (H10.out _))
    | (go_at_call 11; exact Calls.quiet_of_same (H11.out _))
    | (go_at_call 12; exact Calls.quiet_of_same (H12.out _))))
  go_wp2
  go_ret
  exact ⟨rfl, below_drewN (((((HB1.out.alloc HB1.out.size _).alloc (by have := HB1.out.size; simp; omega) _).alloc (by have := HB1.out.size; simp; omega) _).alloc (by have := HB1.out.size; simp; omega) _)) _⟩
set_option maxRecDepth 100000 in
set_option maxHeartbeats 3200000 in
theorem words_2 (w : World) (hl : Lb w) : Calls Tryd.prog 3 #[.int .i64 2] w fun e w' => e = .returned (.bool true) ∧ Below w.heap.size w w' := by
  have HL := Lib.hid hl
  clear hl
  have c7 : ∀ w, Lb w → Calls Tryd.prog 7 #[.int .i64 2] w fun e w' => e = .returned (.string ⟨#[109, 117, 116, 101, 120]⟩) ∧ w = w' := fun w h => sword_any 2 (by omega) w h
  have c8 : ∀ w, Lb w → Calls Tryd.prog 8 #[.int .i64 2] w fun e w' => e = .returned (.string ⟨#[115, 116, 111, 114, 101]⟩) ∧ w' = w := fun w h => flip (kword_any 2 (by omega) w h)
  have c9 : ∀ w, Calls Tryd.prog 9 #[.int .i64 2] w fun e w' => e = .returned (.bool false) ∧ w' = w := fun w => flip (gives_any 2 (by omega) w)
  have c10 : ∀ w, Calls Tryd.prog 10 #[.int .i64 2] w fun e w' => e = .returned (.int .i64 1) ∧ w' = w := fun w => flip (takes_any 2 (by omega) w)
  have c11 : ∀ w, Calls Tryd.prog 11 #[.int .i64 2] w fun e w' => e = .returned (.bool true) ∧ w' = w := fun w => flip (named_any 2 (by omega) w)
  have c12 : ∀ w, Calls Tryd.prog 12 #[.int .i64 2] w fun e w' => e = .returned (.bool true) ∧ w' = w := fun w => flip (celled_any 2 (by omega) w)
  have H7 := Lib.hid c7
  have H8 := Lib.hid c8
  have H9 := Lib.hid c9
  have H10 := Lib.hid c10
  have H11 := Lib.hid c11
  have H12 := Lib.hid c12
  clear c7 c8 c9 c10 c11 c12
  go_enter Tryd.func3, Tryd.ntmps3
  go_wp2_with fail
  refine (awake_any w HL.out).mono ?_
  rintro en w1 ⟨rfl, hb1⟩
  have HL1 := Lib.hid (HL.out.new hb1)
  have HB1 := Lib.hid hb1
  clear hb1
  go_wp2_with (go_at_call 7; refine (H7.out _ (HL1.out.alloc _)).mono ?_; rintro en w2 ⟨rfl, rfl⟩)
  go_quiet ((first
    | (go_at_call 8; exact Calls.quiet_of_same (H8.out _ (((((HL1.out.alloc _).alloc _).alloc _).alloc _).drewN _)))
    | (go_at_call 9; exact Calls.quiet_of_same (H9.out _))
    | (go_at_call 10; exact Calls.quiet_of_same (H10.out _))
    | (go_at_call 11; exact Calls.quiet_of_same (H11.out _))
    | (go_at_call 12; exact Calls.quiet_of_same (H12.out _))))
  go_wp2
  go_ret
  exact ⟨rfl, below_drewN (((((HB1.out.alloc HB1.out.size _).alloc (by have := HB1.out.size; simp; omega) _).alloc (by have := HB1.out.size; simp; omega) _).alloc (by have := HB1.out.size; simp; omega) _)) _⟩
set_option maxRecDepth 100000 in
set_option maxHeartbeats 3200000 in
theorem words_3 (w : World) (hl : Lb w) : Calls Tryd.prog 3 #[.int .i64 3] w fun e w' => e = .returned (.bool true) ∧ Below w.heap.size w w' := by
  have HL := Lib.hid hl
  clear hl
  have c7 : ∀ w, Lb w → Calls Tryd.prog 7 #[.int .i64 3] w fun e w' => e = .returned (.string ⟨#[115, 101, 109]⟩) ∧ w = w' := fun w h => sword_any 3 (by omega) w h
  have c8 : ∀ w, Lb w → Calls Tryd.prog 8 #[.int .i64 3] w fun e w' => e = .returned (.string ⟨#[97, 100, 100]⟩) ∧ w' = w := fun w h => flip (kword_any 3 (by omega) w h)
  have c9 : ∀ w, Calls Tryd.prog 9 #[.int .i64 3] w fun e w' => e = .returned (.bool true) ∧ w' = w := fun w => flip (gives_any 3 (by omega) w)
  have c10 : ∀ w, Calls Tryd.prog 10 #[.int .i64 3] w fun e w' => e = .returned (.int .i64 1) ∧ w' = w := fun w => flip (takes_any 3 (by omega) w)
  have c11 : ∀ w, Calls Tryd.prog 11 #[.int .i64 3] w fun e w' => e = .returned (.bool true) ∧ w' = w := fun w => flip (named_any 3 (by omega) w)
  have c12 : ∀ w, Calls Tryd.prog 12 #[.int .i64 3] w fun e w' => e = .returned (.bool true) ∧ w' = w := fun w => flip (celled_any 3 (by omega) w)
  have H7 := Lib.hid c7
  have H8 := Lib.hid c8
  have H9 := Lib.hid c9
  have H10 := Lib.hid c10
  have H11 := Lib.hid c11
  have H12 := Lib.hid c12
  clear c7 c8 c9 c10 c11 c12
  go_enter Tryd.func3, Tryd.ntmps3
  go_wp2_with fail
  refine (awake_any w HL.out).mono ?_
  rintro en w1 ⟨rfl, hb1⟩
  have HL1 := Lib.hid (HL.out.new hb1)
  have HB1 := Lib.hid hb1
  clear hb1
  go_wp2_with (go_at_call 7; refine (H7.out _ (HL1.out.alloc _)).mono ?_; rintro en w2 ⟨rfl, rfl⟩)
  go_quiet ((first
    | (go_at_call 8; exact Calls.quiet_of_same (H8.out _ (((((HL1.out.alloc _).alloc _).alloc _).alloc _).drewN _)))
    | (go_at_call 9; exact Calls.quiet_of_same (H9.out _))
    | (go_at_call 10; exact Calls.quiet_of_same (H10.out _))
    | (go_at_call 11; exact Calls.quiet_of_same (H11.out _))
    | (go_at_call 12; exact Calls.quiet_of_same (H12.out _))))
  go_wp2
  go_ret
  exact ⟨rfl, below_drewN (((((HB1.out.alloc HB1.out.size _).alloc (by have := HB1.out.size; simp; omega) _).alloc (by have := HB1.out.size; simp; omega) _).alloc (by have := HB1.out.size; simp; omega) _)) _⟩
set_option maxRecDepth 100000 in
set_option maxHeartbeats 3200000 in
theorem words_4 (w : World) (hl : Lb w) : Calls Tryd.prog 3 #[.int .i64 4] w fun e w' => e = .returned (.bool true) ∧ Below w.heap.size w w' := by
  have HL := Lib.hid hl
  clear hl
  have c7 : ∀ w, Lb w → Calls Tryd.prog 7 #[.int .i64 4] w fun e w' => e = .returned (.string ⟨#[98, 117, 100, 103, 101, 116]⟩) ∧ w = w' := fun w h => sword_any 4 (by omega) w h
  have c8 : ∀ w, Lb w → Calls Tryd.prog 8 #[.int .i64 4] w fun e w' => e = .returned (.string ⟨#[115, 119, 97, 112]⟩) ∧ w' = w := fun w h => flip (kword_any 4 (by omega) w h)
  have c9 : ∀ w, Calls Tryd.prog 9 #[.int .i64 4] w fun e w' => e = .returned (.bool true) ∧ w' = w := fun w => flip (gives_any 4 (by omega) w)
  have c10 : ∀ w, Calls Tryd.prog 10 #[.int .i64 4] w fun e w' => e = .returned (.int .i64 1) ∧ w' = w := fun w => flip (takes_any 4 (by omega) w)
  have c11 : ∀ w, Calls Tryd.prog 11 #[.int .i64 4] w fun e w' => e = .returned (.bool true) ∧ w' = w := fun w => flip (named_any 4 (by omega) w)
  have c12 : ∀ w, Calls Tryd.prog 12 #[.int .i64 4] w fun e w' => e = .returned (.bool true) ∧ w' = w := fun w => flip (celled_any 4 (by omega) w)
  have H7 := Lib.hid c7
  have H8 := Lib.hid c8
  have H9 := Lib.hid c9
  have H10 := Lib.hid c10
  have H11 := Lib.hid c11
  have H12 := Lib.hid c12
  clear c7 c8 c9 c10 c11 c12
  go_enter Tryd.func3, Tryd.ntmps3
  go_wp2_with fail
  refine (awake_any w HL.out).mono ?_
  rintro en w1 ⟨rfl, hb1⟩
  have HL1 := Lib.hid (HL.out.new hb1)
  have HB1 := Lib.hid hb1
  clear hb1
  go_wp2_with (go_at_call 7; refine (H7.out _ (HL1.out.alloc _)).mono ?_; rintro en w2 ⟨rfl, rfl⟩)
  go_quiet ((first
    | (go_at_call 8; exact Calls.quiet_of_same (H8.out _ (((((HL1.out.alloc _).alloc _).alloc _).alloc _).drewN _)))
    | (go_at_call 9; exact Calls.quiet_of_same (H9.out _))
    | (go_at_call 10; exact Calls.quiet_of_same (H10.out _))
    | (go_at_call 11; exact Calls.quiet_of_same (H11.out _))
    | (go_at_call 12; exact Calls.quiet_of_same (H12.out _))))
  go_wp2
  go_ret
  exact ⟨rfl, below_drewN (((((HB1.out.alloc HB1.out.size _).alloc (by have := HB1.out.size; simp; omega) _).alloc (by have := HB1.out.size; simp; omega) _).alloc (by have := HB1.out.size; simp; omega) _)) _⟩
set_option maxRecDepth 100000 in
set_option maxHeartbeats 3200000 in
theorem words_5 (w : World) (hl : Lb w) : Calls Tryd.prog 3 #[.int .i64 5] w fun e w' => e = .returned (.bool true) ∧ Below w.heap.size w w' := by
  have HL := Lib.hid hl
  clear hl
  have c7 : ∀ w, Lb w → Calls Tryd.prog 7 #[.int .i64 5] w fun e w' => e = .returned (.string ⟨#[116, 104, 114, 101, 97, 100]⟩) ∧ w = w' := fun w h => sword_any 5 (by omega) w h
  have c8 : ∀ w, Lb w → Calls Tryd.prog 8 #[.int .i64 5] w fun e w' => e = .returned (.string ⟨#[99, 97, 115]⟩) ∧ w' = w := fun w h => flip (kword_any 5 (by omega) w h)
  have c9 : ∀ w, Calls Tryd.prog 9 #[.int .i64 5] w fun e w' => e = .returned (.bool true) ∧ w' = w := fun w => flip (gives_any 5 (by omega) w)
  have c10 : ∀ w, Calls Tryd.prog 10 #[.int .i64 5] w fun e w' => e = .returned (.int .i64 2) ∧ w' = w := fun w => flip (takes_any 5 (by omega) w)
  have c11 : ∀ w, Calls Tryd.prog 11 #[.int .i64 5] w fun e w' => e = .returned (.bool true) ∧ w' = w := fun w => flip (named_any 5 (by omega) w)
  have c12 : ∀ w, Calls Tryd.prog 12 #[.int .i64 5] w fun e w' => e = .returned (.bool true) ∧ w' = w := fun w => flip (celled_any 5 (by omega) w)
  have H7 := Lib.hid c7
  have H8 := Lib.hid c8
  have H9 := Lib.hid c9
  have H10 := Lib.hid c10
  have H11 := Lib.hid c11
  have H12 := Lib.hid c12
  clear c7 c8 c9 c10 c11 c12
  go_enter Tryd.func3, Tryd.ntmps3
  go_wp2_with fail
  refine (awake_any w HL.out).mono ?_
  rintro en w1 ⟨rfl, hb1⟩
  have HL1 := Lib.hid (HL.out.new hb1)
  have HB1 := Lib.hid hb1
  clear hb1
  go_wp2_with (go_at_call 7; refine (H7.out _ (HL1.out.alloc _)).mono ?_; rintro en w2 ⟨rfl, rfl⟩)
  go_quiet ((first
    | (go_at_call 8; exact Calls.quiet_of_same (H8.out _ (((((HL1.out.alloc _).alloc _).alloc _).alloc _).drewN _)))
    | (go_at_call 9; exact Calls.quiet_of_same (H9.out _))
    | (go_at_call 10; exact Calls.quiet_of_same (H10.out _))
    | (go_at_call 11; exact Calls.quiet_of_same (H11.out _))
    | (go_at_call 12; exact Calls.quiet_of_same (H12.out _))))
  go_wp2
  go_ret
  exact ⟨rfl, below_drewN (((((HB1.out.alloc HB1.out.size _).alloc (by have := HB1.out.size; simp; omega) _).alloc (by have := HB1.out.size; simp; omega) _).alloc (by have := HB1.out.size; simp; omega) _)) _⟩
set_option maxRecDepth 100000 in
set_option maxHeartbeats 3200000 in
theorem words_6 (w : World) (hl : Lb w) : Calls Tryd.prog 3 #[.int .i64 6] w fun e w' => e = .returned (.bool true) ∧ Below w.heap.size w w' := by
  have HL := Lib.hid hl
  clear hl
  have c7 : ∀ w, Lb w → Calls Tryd.prog 7 #[.int .i64 6] w fun e w' => e = .returned (.string ⟨#[]⟩) ∧ w = w' := fun w h => sword_out 6 (by omega) w
  have c8 : ∀ w, Lb w → Calls Tryd.prog 8 #[.int .i64 6] w fun e w' => e = .returned (.string ⟨#[108, 111, 99, 107]⟩) ∧ w' = w := fun w h => flip (kword_any 6 (by omega) w h)
  have c9 : ∀ w, Calls Tryd.prog 9 #[.int .i64 6] w fun e w' => e = .returned (.bool false) ∧ w' = w := fun w => flip (gives_any 6 (by omega) w)
  have c10 : ∀ w, Calls Tryd.prog 10 #[.int .i64 6] w fun e w' => e = .returned (.int .i64 0) ∧ w' = w := fun w => flip (takes_any 6 (by omega) w)
  have c11 : ∀ w, Calls Tryd.prog 11 #[.int .i64 6] w fun e w' => e = .returned (.bool true) ∧ w' = w := fun w => flip (named_any 6 (by omega) w)
  have c12 : ∀ w, Calls Tryd.prog 12 #[.int .i64 6] w fun e w' => e = .returned (.bool false) ∧ w' = w := fun w => flip (celled_any 6 (by omega) w)
  have H7 := Lib.hid c7
  have H8 := Lib.hid c8
  have H9 := Lib.hid c9
  have H10 := Lib.hid c10
  have H11 := Lib.hid c11
  have H12 := Lib.hid c12
  clear c7 c8 c9 c10 c11 c12
  go_enter Tryd.func3, Tryd.ntmps3
  go_wp2_with fail
  refine (awake_any w HL.out).mono ?_
  rintro en w1 ⟨rfl, hb1⟩
  have HL1 := Lib.hid (HL.out.new hb1)
  have HB1 := Lib.hid hb1
  clear hb1
  go_wp2_with (go_at_call 7; refine (H7.out _ (HL1.out.alloc _)).mono ?_; rintro en w2 ⟨rfl, rfl⟩)
  go_quiet ((first
    | (go_at_call 8; exact Calls.quiet_of_same (H8.out _ (((((HL1.out.alloc _).alloc _).alloc _).alloc _).drewN _)))
    | (go_at_call 9; exact Calls.quiet_of_same (H9.out _))
    | (go_at_call 10; exact Calls.quiet_of_same (H10.out _))
    | (go_at_call 11; exact Calls.quiet_of_same (H11.out _))
    | (go_at_call 12; exact Calls.quiet_of_same (H12.out _))))
  go_wp2
  go_ret
  exact ⟨rfl, below_drewN (((((HB1.out.alloc HB1.out.size _).alloc (by have := HB1.out.size; simp; omega) _).alloc (by have := HB1.out.size; simp; omega) _).alloc (by have := HB1.out.size; simp; omega) _)) _⟩
set_option maxRecDepth 100000 in
set_option maxHeartbeats 3200000 in
theorem words_7 (w : World) (hl : Lb w) : Calls Tryd.prog 3 #[.int .i64 7] w fun e w' => e = .returned (.bool true) ∧ Below w.heap.size w w' := by
  have HL := Lib.hid hl
  clear hl
  have c7 : ∀ w, Lb w → Calls Tryd.prog 7 #[.int .i64 7] w fun e w' => e = .returned (.string ⟨#[]⟩) ∧ w = w' := fun w h => sword_out 7 (by omega) w
  have c8 : ∀ w, Lb w → Calls Tryd.prog 8 #[.int .i64 7] w fun e w' => e = .returned (.string ⟨#[117, 110, 108, 111, 99, 107]⟩) ∧ w' = w := fun w h => flip (kword_any 7 (by omega) w h)
  have c9 : ∀ w, Calls Tryd.prog 9 #[.int .i64 7] w fun e w' => e = .returned (.bool false) ∧ w' = w := fun w => flip (gives_any 7 (by omega) w)
  have c10 : ∀ w, Calls Tryd.prog 10 #[.int .i64 7] w fun e w' => e = .returned (.int .i64 0) ∧ w' = w := fun w => flip (takes_any 7 (by omega) w)
  have c11 : ∀ w, Calls Tryd.prog 11 #[.int .i64 7] w fun e w' => e = .returned (.bool true) ∧ w' = w := fun w => flip (named_any 7 (by omega) w)
  have c12 : ∀ w, Calls Tryd.prog 12 #[.int .i64 7] w fun e w' => e = .returned (.bool false) ∧ w' = w := fun w => flip (celled_any 7 (by omega) w)
  have H7 := Lib.hid c7
  have H8 := Lib.hid c8
  have H9 := Lib.hid c9
  have H10 := Lib.hid c10
  have H11 := Lib.hid c11
  have H12 := Lib.hid c12
  clear c7 c8 c9 c10 c11 c12
  go_enter Tryd.func3, Tryd.ntmps3
  go_wp2_with fail
  refine (awake_any w HL.out).mono ?_
  rintro en w1 ⟨rfl, hb1⟩
  have HL1 := Lib.hid (HL.out.new hb1)
  have HB1 := Lib.hid hb1
  clear hb1
  go_wp2_with (go_at_call 7; refine (H7.out _ (HL1.out.alloc _)).mono ?_; rintro en w2 ⟨rfl, rfl⟩)
  go_quiet ((first
    | (go_at_call 8; exact Calls.quiet_of_same (H8.out _ (((((HL1.out.alloc _).alloc _).alloc _).alloc _).drewN _)))
    | (go_at_call 9; exact Calls.quiet_of_same (H9.out _))
    | (go_at_call 10; exact Calls.quiet_of_same (H10.out _))
    | (go_at_call 11; exact Calls.quiet_of_same (H11.out _))
    | (go_at_call 12; exact Calls.quiet_of_same (H12.out _))))
  go_wp2
  go_ret
  exact ⟨rfl, below_drewN (((((HB1.out.alloc HB1.out.size _).alloc (by have := HB1.out.size; simp; omega) _).alloc (by have := HB1.out.size; simp; omega) _).alloc (by have := HB1.out.size; simp; omega) _)) _⟩
set_option maxRecDepth 100000 in
set_option maxHeartbeats 3200000 in
theorem words_8 (w : World) (hl : Lb w) : Calls Tryd.prog 3 #[.int .i64 8] w fun e w' => e = .returned (.bool true) ∧ Below w.heap.size w w' := by
  have HL := Lib.hid hl
  clear hl
  have c7 : ∀ w, Lb w → Calls Tryd.prog 7 #[.int .i64 8] w fun e w' => e = .returned (.string ⟨#[]⟩) ∧ w = w' := fun w h => sword_out 8 (by omega) w
  have c8 : ∀ w, Lb w → Calls Tryd.prog 8 #[.int .i64 8] w fun e w' => e = .returned (.string ⟨#[116, 114, 121]⟩) ∧ w' = w := fun w h => flip (kword_any 8 (by omega) w h)
  have c9 : ∀ w, Calls Tryd.prog 9 #[.int .i64 8] w fun e w' => e = .returned (.bool true) ∧ w' = w := fun w => flip (gives_any 8 (by omega) w)
  have c10 : ∀ w, Calls Tryd.prog 10 #[.int .i64 8] w fun e w' => e = .returned (.int .i64 0) ∧ w' = w := fun w => flip (takes_any 8 (by omega) w)
  have c11 : ∀ w, Calls Tryd.prog 11 #[.int .i64 8] w fun e w' => e = .returned (.bool true) ∧ w' = w := fun w => flip (named_any 8 (by omega) w)
  have c12 : ∀ w, Calls Tryd.prog 12 #[.int .i64 8] w fun e w' => e = .returned (.bool false) ∧ w' = w := fun w => flip (celled_any 8 (by omega) w)
  have H7 := Lib.hid c7
  have H8 := Lib.hid c8
  have H9 := Lib.hid c9
  have H10 := Lib.hid c10
  have H11 := Lib.hid c11
  have H12 := Lib.hid c12
  clear c7 c8 c9 c10 c11 c12
  go_enter Tryd.func3, Tryd.ntmps3
  go_wp2_with fail
  refine (awake_any w HL.out).mono ?_
  rintro en w1 ⟨rfl, hb1⟩
  have HL1 := Lib.hid (HL.out.new hb1)
  have HB1 := Lib.hid hb1
  clear hb1
  go_wp2_with (go_at_call 7; refine (H7.out _ (HL1.out.alloc _)).mono ?_; rintro en w2 ⟨rfl, rfl⟩)
  go_quiet ((first
    | (go_at_call 8; exact Calls.quiet_of_same (H8.out _ (((((HL1.out.alloc _).alloc _).alloc _).alloc _).drewN _)))
    | (go_at_call 9; exact Calls.quiet_of_same (H9.out _))
    | (go_at_call 10; exact Calls.quiet_of_same (H10.out _))
    | (go_at_call 11; exact Calls.quiet_of_same (H11.out _))
    | (go_at_call 12; exact Calls.quiet_of_same (H12.out _))))
  go_wp2
  go_ret
  exact ⟨rfl, below_drewN (((((HB1.out.alloc HB1.out.size _).alloc (by have := HB1.out.size; simp; omega) _).alloc (by have := HB1.out.size; simp; omega) _).alloc (by have := HB1.out.size; simp; omega) _)) _⟩
set_option maxRecDepth 100000 in
set_option maxHeartbeats 3200000 in
theorem words_9 (w : World) (hl : Lb w) : Calls Tryd.prog 3 #[.int .i64 9] w fun e w' => e = .returned (.bool true) ∧ Below w.heap.size w w' := by
  have HL := Lib.hid hl
  clear hl
  have c7 : ∀ w, Lb w → Calls Tryd.prog 7 #[.int .i64 9] w fun e w' => e = .returned (.string ⟨#[]⟩) ∧ w = w' := fun w h => sword_out 9 (by omega) w
  have c8 : ∀ w, Lb w → Calls Tryd.prog 8 #[.int .i64 9] w fun e w' => e = .returned (.string ⟨#[119, 97, 105, 116]⟩) ∧ w' = w := fun w h => flip (kword_any 9 (by omega) w h)
  have c9 : ∀ w, Calls Tryd.prog 9 #[.int .i64 9] w fun e w' => e = .returned (.bool false) ∧ w' = w := fun w => flip (gives_any 9 (by omega) w)
  have c10 : ∀ w, Calls Tryd.prog 10 #[.int .i64 9] w fun e w' => e = .returned (.int .i64 0) ∧ w' = w := fun w => flip (takes_any 9 (by omega) w)
  have c11 : ∀ w, Calls Tryd.prog 11 #[.int .i64 9] w fun e w' => e = .returned (.bool true) ∧ w' = w := fun w => flip (named_any 9 (by omega) w)
  have c12 : ∀ w, Calls Tryd.prog 12 #[.int .i64 9] w fun e w' => e = .returned (.bool false) ∧ w' = w := fun w => flip (celled_any 9 (by omega) w)
  have H7 := Lib.hid c7
  have H8 := Lib.hid c8
  have H9 := Lib.hid c9
  have H10 := Lib.hid c10
  have H11 := Lib.hid c11
  have H12 := Lib.hid c12
  clear c7 c8 c9 c10 c11 c12
  go_enter Tryd.func3, Tryd.ntmps3
  go_wp2_with fail
  refine (awake_any w HL.out).mono ?_
  rintro en w1 ⟨rfl, hb1⟩
  have HL1 := Lib.hid (HL.out.new hb1)
  have HB1 := Lib.hid hb1
  clear hb1
  go_wp2_with (go_at_call 7; refine (H7.out _ (HL1.out.alloc _)).mono ?_; rintro en w2 ⟨rfl, rfl⟩)
  go_quiet ((first
    | (go_at_call 8; exact Calls.quiet_of_same (H8.out _ (((((HL1.out.alloc _).alloc _).alloc _).alloc _).drewN _)))
    | (go_at_call 9; exact Calls.quiet_of_same (H9.out _))
    | (go_at_call 10; exact Calls.quiet_of_same (H10.out _))
    | (go_at_call 11; exact Calls.quiet_of_same (H11.out _))
    | (go_at_call 12; exact Calls.quiet_of_same (H12.out _))))
  go_wp2
  go_ret
  exact ⟨rfl, below_drewN (((((HB1.out.alloc HB1.out.size _).alloc (by have := HB1.out.size; simp; omega) _).alloc (by have := HB1.out.size; simp; omega) _).alloc (by have := HB1.out.size; simp; omega) _)) _⟩
set_option maxRecDepth 100000 in
set_option maxHeartbeats 3200000 in
theorem words_10 (w : World) (hl : Lb w) : Calls Tryd.prog 3 #[.int .i64 10] w fun e w' => e = .returned (.bool true) ∧ Below w.heap.size w w' := by
  have HL := Lib.hid hl
  clear hl
  have c7 : ∀ w, Lb w → Calls Tryd.prog 7 #[.int .i64 10] w fun e w' => e = .returned (.string ⟨#[]⟩) ∧ w = w' := fun w h => sword_out 10 (by omega) w
  have c8 : ∀ w, Lb w → Calls Tryd.prog 8 #[.int .i64 10] w fun e w' => e = .returned (.string ⟨#[112, 111, 115, 116]⟩) ∧ w' = w := fun w h => flip (kword_any 10 (by omega) w h)
  have c9 : ∀ w, Calls Tryd.prog 9 #[.int .i64 10] w fun e w' => e = .returned (.bool false) ∧ w' = w := fun w => flip (gives_any 10 (by omega) w)
  have c10 : ∀ w, Calls Tryd.prog 10 #[.int .i64 10] w fun e w' => e = .returned (.int .i64 0) ∧ w' = w := fun w => flip (takes_any 10 (by omega) w)
  have c11 : ∀ w, Calls Tryd.prog 11 #[.int .i64 10] w fun e w' => e = .returned (.bool true) ∧ w' = w := fun w => flip (named_any 10 (by omega) w)
  have c12 : ∀ w, Calls Tryd.prog 12 #[.int .i64 10] w fun e w' => e = .returned (.bool false) ∧ w' = w := fun w => flip (celled_any 10 (by omega) w)
  have H7 := Lib.hid c7
  have H8 := Lib.hid c8
  have H9 := Lib.hid c9
  have H10 := Lib.hid c10
  have H11 := Lib.hid c11
  have H12 := Lib.hid c12
  clear c7 c8 c9 c10 c11 c12
  go_enter Tryd.func3, Tryd.ntmps3
  go_wp2_with fail
  refine (awake_any w HL.out).mono ?_
  rintro en w1 ⟨rfl, hb1⟩
  have HL1 := Lib.hid (HL.out.new hb1)
  have HB1 := Lib.hid hb1
  clear hb1
  go_wp2_with (go_at_call 7; refine (H7.out _ (HL1.out.alloc _)).mono ?_; rintro en w2 ⟨rfl, rfl⟩)
  go_quiet ((first
    | (go_at_call 8; exact Calls.quiet_of_same (H8.out _ (((((HL1.out.alloc _).alloc _).alloc _).alloc _).drewN _)))
    | (go_at_call 9; exact Calls.quiet_of_same (H9.out _))
    | (go_at_call 10; exact Calls.quiet_of_same (H10.out _))
    | (go_at_call 11; exact Calls.quiet_of_same (H11.out _))
    | (go_at_call 12; exact Calls.quiet_of_same (H12.out _))))
  go_wp2
  go_ret
  exact ⟨rfl, below_drewN (((((HB1.out.alloc HB1.out.size _).alloc (by have := HB1.out.size; simp; omega) _).alloc (by have := HB1.out.size; simp; omega) _).alloc (by have := HB1.out.size; simp; omega) _)) _⟩
set_option maxRecDepth 100000 in
set_option maxHeartbeats 3200000 in
theorem words_11 (w : World) (hl : Lb w) : Calls Tryd.prog 3 #[.int .i64 11] w fun e w' => e = .returned (.bool true) ∧ Below w.heap.size w w' := by
  have HL := Lib.hid hl
  clear hl
  have c7 : ∀ w, Lb w → Calls Tryd.prog 7 #[.int .i64 11] w fun e w' => e = .returned (.string ⟨#[]⟩) ∧ w = w' := fun w h => sword_out 11 (by omega) w
  have c8 : ∀ w, Lb w → Calls Tryd.prog 8 #[.int .i64 11] w fun e w' => e = .returned (.string ⟨#[115, 112, 97, 119, 110]⟩) ∧ w' = w := fun w h => flip (kword_any 11 (by omega) w h)
  have c9 : ∀ w, Calls Tryd.prog 9 #[.int .i64 11] w fun e w' => e = .returned (.bool false) ∧ w' = w := fun w => flip (gives_any 11 (by omega) w)
  have c10 : ∀ w, Calls Tryd.prog 10 #[.int .i64 11] w fun e w' => e = .returned (.int .i64 0) ∧ w' = w := fun w => flip (takes_any 11 (by omega) w)
  have c11 : ∀ w, Calls Tryd.prog 11 #[.int .i64 11] w fun e w' => e = .returned (.bool true) ∧ w' = w := fun w => flip (named_any 11 (by omega) w)
  have c12 : ∀ w, Calls Tryd.prog 12 #[.int .i64 11] w fun e w' => e = .returned (.bool false) ∧ w' = w := fun w => flip (celled_any 11 (by omega) w)
  have H7 := Lib.hid c7
  have H8 := Lib.hid c8
  have H9 := Lib.hid c9
  have H10 := Lib.hid c10
  have H11 := Lib.hid c11
  have H12 := Lib.hid c12
  clear c7 c8 c9 c10 c11 c12
  go_enter Tryd.func3, Tryd.ntmps3
  go_wp2_with fail
  refine (awake_any w HL.out).mono ?_
  rintro en w1 ⟨rfl, hb1⟩
  have HL1 := Lib.hid (HL.out.new hb1)
  have HB1 := Lib.hid hb1
  clear hb1
  go_wp2_with (go_at_call 7; refine (H7.out _ (HL1.out.alloc _)).mono ?_; rintro en w2 ⟨rfl, rfl⟩)
  go_quiet ((first
    | (go_at_call 8; exact Calls.quiet_of_same (H8.out _ (((((HL1.out.alloc _).alloc _).alloc _).alloc _).drewN _)))
    | (go_at_call 9; exact Calls.quiet_of_same (H9.out _))
    | (go_at_call 10; exact Calls.quiet_of_same (H10.out _))
    | (go_at_call 11; exact Calls.quiet_of_same (H11.out _))
    | (go_at_call 12; exact Calls.quiet_of_same (H12.out _))))
  go_wp2
  go_ret
  exact ⟨rfl, below_drewN (((((HB1.out.alloc HB1.out.size _).alloc (by have := HB1.out.size; simp; omega) _).alloc (by have := HB1.out.size; simp; omega) _).alloc (by have := HB1.out.size; simp; omega) _)) _⟩
set_option maxRecDepth 100000 in
set_option maxHeartbeats 3200000 in
theorem words_12 (w : World) (hl : Lb w) : Calls Tryd.prog 3 #[.int .i64 12] w fun e w' => e = .returned (.bool true) ∧ Below w.heap.size w w' := by
  have HL := Lib.hid hl
  clear hl
  have c7 : ∀ w, Lb w → Calls Tryd.prog 7 #[.int .i64 12] w fun e w' => e = .returned (.string ⟨#[]⟩) ∧ w = w' := fun w h => sword_out 12 (by omega) w
  have c8 : ∀ w, Lb w → Calls Tryd.prog 8 #[.int .i64 12] w fun e w' => e = .returned (.string ⟨#[106, 111, 105, 110]⟩) ∧ w' = w := fun w h => flip (kword_any 12 (by omega) w h)
  have c9 : ∀ w, Calls Tryd.prog 9 #[.int .i64 12] w fun e w' => e = .returned (.bool false) ∧ w' = w := fun w => flip (gives_any 12 (by omega) w)
  have c10 : ∀ w, Calls Tryd.prog 10 #[.int .i64 12] w fun e w' => e = .returned (.int .i64 0) ∧ w' = w := fun w => flip (takes_any 12 (by omega) w)
  have c11 : ∀ w, Calls Tryd.prog 11 #[.int .i64 12] w fun e w' => e = .returned (.bool true) ∧ w' = w := fun w => flip (named_any 12 (by omega) w)
  have c12 : ∀ w, Calls Tryd.prog 12 #[.int .i64 12] w fun e w' => e = .returned (.bool false) ∧ w' = w := fun w => flip (celled_any 12 (by omega) w)
  have H7 := Lib.hid c7
  have H8 := Lib.hid c8
  have H9 := Lib.hid c9
  have H10 := Lib.hid c10
  have H11 := Lib.hid c11
  have H12 := Lib.hid c12
  clear c7 c8 c9 c10 c11 c12
  go_enter Tryd.func3, Tryd.ntmps3
  go_wp2_with fail
  refine (awake_any w HL.out).mono ?_
  rintro en w1 ⟨rfl, hb1⟩
  have HL1 := Lib.hid (HL.out.new hb1)
  have HB1 := Lib.hid hb1
  clear hb1
  go_wp2_with (go_at_call 7; refine (H7.out _ (HL1.out.alloc _)).mono ?_; rintro en w2 ⟨rfl, rfl⟩)
  go_quiet ((first
    | (go_at_call 8; exact Calls.quiet_of_same (H8.out _ (((((HL1.out.alloc _).alloc _).alloc _).alloc _).drewN _)))
    | (go_at_call 9; exact Calls.quiet_of_same (H9.out _))
    | (go_at_call 10; exact Calls.quiet_of_same (H10.out _))
    | (go_at_call 11; exact Calls.quiet_of_same (H11.out _))
    | (go_at_call 12; exact Calls.quiet_of_same (H12.out _))))
  go_wp2
  go_ret
  exact ⟨rfl, below_drewN (((((HB1.out.alloc HB1.out.size _).alloc (by have := HB1.out.size; simp; omega) _).alloc (by have := HB1.out.size; simp; omega) _).alloc (by have := HB1.out.size; simp; omega) _)) _⟩
set_option maxRecDepth 100000 in
set_option maxHeartbeats 3200000 in
theorem words_13 (w : World) (hl : Lb w) : Calls Tryd.prog 3 #[.int .i64 13] w fun e w' => e = .returned (.bool true) ∧ Below w.heap.size w w' := by
  have HL := Lib.hid hl
  clear hl
  have c7 : ∀ w, Lb w → Calls Tryd.prog 7 #[.int .i64 13] w fun e w' => e = .returned (.string ⟨#[]⟩) ∧ w = w' := fun w h => sword_out 13 (by omega) w
  have c8 : ∀ w, Lb w → Calls Tryd.prog 8 #[.int .i64 13] w fun e w' => e = .returned (.string ⟨#[97, 115, 115, 101, 114, 116]⟩) ∧ w' = w := fun w h => flip (kword_any 13 (by omega) w h)
  have c9 : ∀ w, Calls Tryd.prog 9 #[.int .i64 13] w fun e w' => e = .returned (.bool false) ∧ w' = w := fun w => flip (gives_any 13 (by omega) w)
  have c10 : ∀ w, Calls Tryd.prog 10 #[.int .i64 13] w fun e w' => e = .returned (.int .i64 1) ∧ w' = w := fun w => flip (takes_any 13 (by omega) w)
  have c11 : ∀ w, Calls Tryd.prog 11 #[.int .i64 13] w fun e w' => e = .returned (.bool false) ∧ w' = w := fun w => flip (named_any 13 (by omega) w)
  have c12 : ∀ w, Calls Tryd.prog 12 #[.int .i64 13] w fun e w' => e = .returned (.bool false) ∧ w' = w := fun w => flip (celled_any 13 (by omega) w)
  have H7 := Lib.hid c7
  have H8 := Lib.hid c8
  have H9 := Lib.hid c9
  have H10 := Lib.hid c10
  have H11 := Lib.hid c11
  have H12 := Lib.hid c12
  clear c7 c8 c9 c10 c11 c12
  go_enter Tryd.func3, Tryd.ntmps3
  go_wp2_with fail
  refine (awake_any w HL.out).mono ?_
  rintro en w1 ⟨rfl, hb1⟩
  have HL1 := Lib.hid (HL.out.new hb1)
  have HB1 := Lib.hid hb1
  clear hb1
  go_wp2_with (go_at_call 7; refine (H7.out _ (HL1.out.alloc _)).mono ?_; rintro en w2 ⟨rfl, rfl⟩)
  go_quiet ((first
    | (go_at_call 8; exact Calls.quiet_of_same (H8.out _ (((((HL1.out.alloc _).alloc _).alloc _).alloc _).drewN _)))
    | (go_at_call 9; exact Calls.quiet_of_same (H9.out _))
    | (go_at_call 10; exact Calls.quiet_of_same (H10.out _))
    | (go_at_call 11; exact Calls.quiet_of_same (H11.out _))
    | (go_at_call 12; exact Calls.quiet_of_same (H12.out _))))
  go_wp2
  go_ret
  exact ⟨rfl, below_drewN (((((HB1.out.alloc HB1.out.size _).alloc (by have := HB1.out.size; simp; omega) _).alloc (by have := HB1.out.size; simp; omega) _).alloc (by have := HB1.out.size; simp; omega) _)) _⟩
set_option maxRecDepth 100000 in
set_option maxHeartbeats 3200000 in
theorem words_14 (w : World) (hl : Lb w) : Calls Tryd.prog 3 #[.int .i64 14] w fun e w' => e = .returned (.bool true) ∧ Below w.heap.size w w' := by
  have HL := Lib.hid hl
  clear hl
  have c7 : ∀ w, Lb w → Calls Tryd.prog 7 #[.int .i64 14] w fun e w' => e = .returned (.string ⟨#[]⟩) ∧ w = w' := fun w h => sword_out 14 (by omega) w
  have c8 : ∀ w, Lb w → Calls Tryd.prog 8 #[.int .i64 14] w fun e w' => e = .returned (.string ⟨#[97, 115, 115, 117, 109, 101]⟩) ∧ w' = w := fun w h => flip (kword_any 14 (by omega) w h)
  have c9 : ∀ w, Calls Tryd.prog 9 #[.int .i64 14] w fun e w' => e = .returned (.bool false) ∧ w' = w := fun w => flip (gives_any 14 (by omega) w)
  have c10 : ∀ w, Calls Tryd.prog 10 #[.int .i64 14] w fun e w' => e = .returned (.int .i64 1) ∧ w' = w := fun w => flip (takes_any 14 (by omega) w)
  have c11 : ∀ w, Calls Tryd.prog 11 #[.int .i64 14] w fun e w' => e = .returned (.bool false) ∧ w' = w := fun w => flip (named_any 14 (by omega) w)
  have c12 : ∀ w, Calls Tryd.prog 12 #[.int .i64 14] w fun e w' => e = .returned (.bool false) ∧ w' = w := fun w => flip (celled_any 14 (by omega) w)
  have H7 := Lib.hid c7
  have H8 := Lib.hid c8
  have H9 := Lib.hid c9
  have H10 := Lib.hid c10
  have H11 := Lib.hid c11
  have H12 := Lib.hid c12
  clear c7 c8 c9 c10 c11 c12
  go_enter Tryd.func3, Tryd.ntmps3
  go_wp2_with fail
  refine (awake_any w HL.out).mono ?_
  rintro en w1 ⟨rfl, hb1⟩
  have HL1 := Lib.hid (HL.out.new hb1)
  have HB1 := Lib.hid hb1
  clear hb1
  go_wp2_with (go_at_call 7; refine (H7.out _ (HL1.out.alloc _)).mono ?_; rintro en w2 ⟨rfl, rfl⟩)
  go_quiet ((first
    | (go_at_call 8; exact Calls.quiet_of_same (H8.out _ (((((HL1.out.alloc _).alloc _).alloc _).alloc _).drewN _)))
    | (go_at_call 9; exact Calls.quiet_of_same (H9.out _))
    | (go_at_call 10; exact Calls.quiet_of_same (H10.out _))
    | (go_at_call 11; exact Calls.quiet_of_same (H11.out _))
    | (go_at_call 12; exact Calls.quiet_of_same (H12.out _))))
  go_wp2
  go_ret
  exact ⟨rfl, below_drewN (((((HB1.out.alloc HB1.out.size _).alloc (by have := HB1.out.size; simp; omega) _).alloc (by have := HB1.out.size; simp; omega) _).alloc (by have := HB1.out.size; simp; omega) _)) _⟩
set_option maxRecDepth 100000 in
set_option maxHeartbeats 3200000 in
theorem words_15 (w : World) (hl : Lb w) : Calls Tryd.prog 3 #[.int .i64 15] w fun e w' => e = .returned (.bool true) ∧ Below w.heap.size w w' := by
  have HL := Lib.hid hl
  clear hl
  have c7 : ∀ w, Lb w → Calls Tryd.prog 7 #[.int .i64 15] w fun e w' => e = .returned (.string ⟨#[]⟩) ∧ w = w' := fun w h => sword_out 15 (by omega) w
  have c8 : ∀ w, Lb w → Calls Tryd.prog 8 #[.int .i64 15] w fun e w' => e = .returned (.string ⟨#[105, 102]⟩) ∧ w' = w := fun w h => flip (kword_any 15 (by omega) w h)
  have c9 : ∀ w, Calls Tryd.prog 9 #[.int .i64 15] w fun e w' => e = .returned (.bool false) ∧ w' = w := fun w => flip (gives_any 15 (by omega) w)
  have c10 : ∀ w, Calls Tryd.prog 10 #[.int .i64 15] w fun e w' => e = .returned (.int .i64 1) ∧ w' = w := fun w => flip (takes_any 15 (by omega) w)
  have c11 : ∀ w, Calls Tryd.prog 11 #[.int .i64 15] w fun e w' => e = .returned (.bool false) ∧ w' = w := fun w => flip (named_any 15 (by omega) w)
  have c12 : ∀ w, Calls Tryd.prog 12 #[.int .i64 15] w fun e w' => e = .returned (.bool false) ∧ w' = w := fun w => flip (celled_any 15 (by omega) w)
  have H7 := Lib.hid c7
  have H8 := Lib.hid c8
  have H9 := Lib.hid c9
  have H10 := Lib.hid c10
  have H11 := Lib.hid c11
  have H12 := Lib.hid c12
  clear c7 c8 c9 c10 c11 c12
  go_enter Tryd.func3, Tryd.ntmps3
  go_wp2_with fail
  refine (awake_any w HL.out).mono ?_
  rintro en w1 ⟨rfl, hb1⟩
  have HL1 := Lib.hid (HL.out.new hb1)
  have HB1 := Lib.hid hb1
  clear hb1
  go_wp2_with (go_at_call 7; refine (H7.out _ (HL1.out.alloc _)).mono ?_; rintro en w2 ⟨rfl, rfl⟩)
  go_quiet ((first
    | (go_at_call 8; exact Calls.quiet_of_same (H8.out _ (((((HL1.out.alloc _).alloc _).alloc _).alloc _).drewN _)))
    | (go_at_call 9; exact Calls.quiet_of_same (H9.out _))
    | (go_at_call 10; exact Calls.quiet_of_same (H10.out _))
    | (go_at_call 11; exact Calls.quiet_of_same (H11.out _))
    | (go_at_call 12; exact Calls.quiet_of_same (H12.out _))))
  go_wp2
  go_ret
  exact ⟨rfl, below_drewN (((((HB1.out.alloc HB1.out.size _).alloc (by have := HB1.out.size; simp; omega) _).alloc (by have := HB1.out.size; simp; omega) _).alloc (by have := HB1.out.size; simp; omega) _)) _⟩
set_option maxRecDepth 100000 in
set_option maxHeartbeats 3200000 in
theorem words_16 (w : World) (hl : Lb w) : Calls Tryd.prog 3 #[.int .i64 16] w fun e w' => e = .returned (.bool true) ∧ Below w.heap.size w w' := by
  have HL := Lib.hid hl
  clear hl
  have c7 : ∀ w, Lb w → Calls Tryd.prog 7 #[.int .i64 16] w fun e w' => e = .returned (.string ⟨#[]⟩) ∧ w = w' := fun w h => sword_out 16 (by omega) w
  have c8 : ∀ w, Lb w → Calls Tryd.prog 8 #[.int .i64 16] w fun e w' => e = .returned (.string ⟨#[119, 104, 105, 108, 101]⟩) ∧ w' = w := fun w h => flip (kword_any 16 (by omega) w h)
  have c9 : ∀ w, Calls Tryd.prog 9 #[.int .i64 16] w fun e w' => e = .returned (.bool false) ∧ w' = w := fun w => flip (gives_any 16 (by omega) w)
  have c10 : ∀ w, Calls Tryd.prog 10 #[.int .i64 16] w fun e w' => e = .returned (.int .i64 1) ∧ w' = w := fun w => flip (takes_any 16 (by omega) w)
  have c11 : ∀ w, Calls Tryd.prog 11 #[.int .i64 16] w fun e w' => e = .returned (.bool false) ∧ w' = w := fun w => flip (named_any 16 (by omega) w)
  have c12 : ∀ w, Calls Tryd.prog 12 #[.int .i64 16] w fun e w' => e = .returned (.bool false) ∧ w' = w := fun w => flip (celled_any 16 (by omega) w)
  have H7 := Lib.hid c7
  have H8 := Lib.hid c8
  have H9 := Lib.hid c9
  have H10 := Lib.hid c10
  have H11 := Lib.hid c11
  have H12 := Lib.hid c12
  clear c7 c8 c9 c10 c11 c12
  go_enter Tryd.func3, Tryd.ntmps3
  go_wp2_with fail
  refine (awake_any w HL.out).mono ?_
  rintro en w1 ⟨rfl, hb1⟩
  have HL1 := Lib.hid (HL.out.new hb1)
  have HB1 := Lib.hid hb1
  clear hb1
  go_wp2_with (go_at_call 7; refine (H7.out _ (HL1.out.alloc _)).mono ?_; rintro en w2 ⟨rfl, rfl⟩)
  go_quiet ((first
    | (go_at_call 8; exact Calls.quiet_of_same (H8.out _ (((((HL1.out.alloc _).alloc _).alloc _).alloc _).drewN _)))
    | (go_at_call 9; exact Calls.quiet_of_same (H9.out _))
    | (go_at_call 10; exact Calls.quiet_of_same (H10.out _))
    | (go_at_call 11; exact Calls.quiet_of_same (H11.out _))
    | (go_at_call 12; exact Calls.quiet_of_same (H12.out _))))
  go_wp2
  go_ret
  exact ⟨rfl, below_drewN (((((HB1.out.alloc HB1.out.size _).alloc (by have := HB1.out.size; simp; omega) _).alloc (by have := HB1.out.size; simp; omega) _).alloc (by have := HB1.out.size; simp; omega) _)) _⟩
theorem words_any (n : Int) (h0 : -9223372036854775808 ≤ n) (h1 : n ≤ 9223372036854775807) (w : World) (hl : Lb w) : Calls Tryd.prog 3 #[.int .i64 n] w fun e w' => e = .returned (.bool true) ∧ Below w.heap.size w w' := by
  by_cases h : n < 0 ∨ 17 ≤ n
  · exact words_out n h0 h1 h w hl
  · have hn : n = 0 ∨ n = 1 ∨ n = 2 ∨ n = 3 ∨ n = 4 ∨ n = 5 ∨ n = 6 ∨ n = 7 ∨ n = 8 ∨ n = 9 ∨ n = 10 ∨ n = 11 ∨ n = 12 ∨ n = 13 ∨ n = 14 ∨ n = 15 ∨ n = 16 := by omega
    rcases hn with rfl | rfl | rfl | rfl | rfl | rfl | rfl | rfl | rfl | rfl | rfl | rfl | rfl | rfl | rfl | rfl | rfl
    · exact words_0 w hl
    · exact words_1 w hl
    · exact words_2 w hl
    · exact words_3 w hl
    · exact words_4 w hl
    · exact words_5 w hl
    · exact words_6 w hl
    · exact words_7 w hl
    · exact words_8 w hl
    · exact words_9 w hl
    · exact words_10 w hl
    · exact words_11 w hl
    · exact words_12 w hl
    · exact words_13 w hl
    · exact words_14 w hl
    · exact words_15 w hl
    · exact words_16 w hl
end Go.Proofs.YtmomdcnlhljhcaaDoor
