/- The law GaussTurns, walked: true at any pair. -/
import Derived.Test.YtmbdbdgilhjgeaaDoorGa
set_option linter.unusedSimpArgs false
set_option linter.unusedVariables false
namespace Go.Proofs.YtmbdbdgilhjgeaaDoor
open Go.RowKit Ieee

theorem ok2_neg (r i : Int) : ok2 r (-i) = ok2 r i := by
  simp only [ok2, okI]
  rw [show decide (-1048576 ≤ -i) = decide (i ≤ 1048576) by rw [decide_eq_decide]; omega, show decide (-i ≤ 1048576) = decide (-1048576 ≤ i) by rw [decide_eq_decide]; omega]
  rw [Bool.and_comm (decide (i ≤ 1048576))]
theorem ok2_self (r i : Int) : (ok2 r i && ok2 r i) = ok2 r i := by simp

set_option maxRecDepth 100000 in
set_option maxHeartbeats 1600000 in
theorem turns_any (a b : Int) (ha : I32 a) (hb : I32 b) (w : World) (ht : Tb w) : Calls Tryd.prog 4 #[pr a b] w (Yes w) := by
  go_enter Tryd.func4, Tryd.ntmps4
  go_wp2_with (go_at_call 13; refine Hid.out ?_)
  have k0 : Below w.heap.size w (w.alloc (.cells #[.int .i32 a, .int .i32 b] 23)) := below_alloc _ _
  have ht0 := ht.on k0
  refine Lib.hid ((awake_any _ ht0).mono ?_)
  rintro e w1 ⟨rfl, k1⟩
  obtain ⟨c1, f1⟩ := bcell k1
  have z1 : w.heap.size < w1.heap.size := by have := k1.size; simp at this; omega
  have K1 := Lib.hid (below_trans k0 k1)
  clear k0 k1 ht0
  go_wp2_with (go_at_call 14; refine Hid.out ?_)
  refine Lib.hid ((near_any a b ha hb _).mono ?_)
  rintro e w2 ⟨rfl, k2⟩
  obtain ⟨c2, f2⟩ := bcell k2
  have K2 := Lib.hid (below_trans K1.out k2)
  clear k2 K1
  have r1 : Bd 1049999 (a.tmod 1050000) := tmod_bd a 1050000 (by omega)
  have r2 : Bd 1049999 (b.tmod 1050000) := tmod_bd b 1050000 (by omega)
  generalize a.tmod 1050000 = r at *
  generalize b.tmod 1050000 = i at *
  have q1 : Bd 1049999 (r.tmod 1030) := (tmod_bd r 1030 (by omega)).le (by omega)
  have q2 : Bd 1049999 (i.tmod 1030) := (tmod_bd i 1030 (by omega)).le (by omega)
  obtain ⟨a1, a2⟩ := ha
  obtain ⟨u1, v1⟩ := inb r1
  obtain ⟨u2, v2⟩ := inb r2
  by_cases h3 : a.tmod 3 = 0
  all_goals
    first
      | have g3 : (a.tmod 3 == 0) = true := by rw [h3]; rfl
      | have g3 : (a.tmod 3 == 0) = false := by simpa using h3
    clear h3
    go_wp2_with (go_at_call 15; refine Hid.out ?_)
    refine Lib.hid ?_
    clear g3 c1 f1 c2 f2 z1 a1 a2
  · clear u1 v1 u2 v2 r1 r2
    generalize r.tmod 1030 = r at *
    generalize i.tmod 1030 = i at *
    have r1 := q1
    have r2 := q2
    clear q1 q2
    obtain ⟨u1, v1⟩ := inb r1
    obtain ⟨u2, v2⟩ := inb r2
    have s1 := r1.sm (by decide)
    have s2 := r2.sm (by decide)
    have s3 := r2.neg.sm (by decide)
    have s0 : Sm 0 := sm_lim.2.2
    have p1 := r1.mul r1
    have p2 := r2.mul r2
    have t1 := (p1.add p2).sm (by decide)
    obtain ⟨u5, v5⟩ := inb p1
    obtain ⟨u6, v6⟩ := inb p2
    clear r1 r2 p1 p2
    have Q1 : Hid ((ok2 r i && ok2 r (-i)) = ok2 r (-i)) := Lib.hid (by rw [ok2_neg, ok2_self])
    go_wp2_with (first
      | (go_at_call 15; refine (number_any _ _ _).mono ?_; rintro e w' ⟨rfl, rfl⟩)
      | (go_at_call 16; refine (refFits_any _ _ _).mono ?_; rintro e w' ⟨rfl, rfl⟩)
      | (go_at_call 21; refine (conj_any _ _ (by assumption) (by assumption) _).mono ?_; rintro e w' ⟨rfl, rfl⟩)
      | (go_at_call 22; refine (norm_any _ _ (by assumption) (by assumption) _).mono ?_; rintro e w' ⟨rfl, rfl⟩)
      | (go_at_call 23; refine (fits_fl _ _ (by assumption) (by assumption) _).mono ?_; rintro e w' ⟨rfl, rfl⟩)
      | (go_at_call 20; refine (is_any _ _ _ _ (by assumption) (by assumption) (by first | exact Q1.out | rfl) _).mono ?_; rintro e w' ⟨rfl, rfl⟩))
    go_ret
    exact ⟨rfl, K2.out⟩
  · clear q1 q2
    have s1 := r1.sm (by decide)
    have s2 := r2.sm (by decide)
    have s3 := r2.neg.sm (by decide)
    have s0 : Sm 0 := sm_lim.2.2
    have p1 := r1.mul r1
    have p2 := r2.mul r2
    have t1 := (p1.add p2).sm (by decide)
    obtain ⟨u5, v5⟩ := inb p1
    obtain ⟨u6, v6⟩ := inb p2
    clear r1 r2 p1 p2
    have Q1 : Hid ((ok2 r i && ok2 r (-i)) = ok2 r (-i)) := Lib.hid (by rw [ok2_neg, ok2_self])
    go_wp2_with (first
      | (go_at_call 15; refine (number_any _ _ _).mono ?_; rintro e w' ⟨rfl, rfl⟩)
      | (go_at_call 16; refine (refFits_any _ _ _).mono ?_; rintro e w' ⟨rfl, rfl⟩)
      | (go_at_call 21; refine (conj_any _ _ (by assumption) (by assumption) _).mono ?_; rintro e w' ⟨rfl, rfl⟩)
      | (go_at_call 22; refine (norm_any _ _ (by assumption) (by assumption) _).mono ?_; rintro e w' ⟨rfl, rfl⟩)
      | (go_at_call 23; refine (fits_fl _ _ (by assumption) (by assumption) _).mono ?_; rintro e w' ⟨rfl, rfl⟩)
      | (go_at_call 20; refine (is_any _ _ _ _ (by assumption) (by assumption) (by first | exact Q1.out | rfl) _).mono ?_; rintro e w' ⟨rfl, rfl⟩))
    go_ret
    exact ⟨rfl, K2.out⟩
end Go.Proofs.YtmbdbdgilhjgeaaDoor
