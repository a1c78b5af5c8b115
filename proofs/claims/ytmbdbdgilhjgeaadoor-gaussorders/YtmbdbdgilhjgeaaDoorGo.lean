/- The law GaussOrders, walked: true at any two pairs. -/
import Derived.Test.YtmbdbdgilhjgeaaDoorGc
import Derived.IntWalk
set_option linter.unusedSimpArgs false
set_option linter.unusedVariables false
namespace Go.Proofs.YtmbdbdgilhjgeaaDoor
open Go.RowKit Ieee

theorem truth_t (w : World) : Calls Tryd.prog 29 #[.bool true] w fun e w' => e = .returned (.complex .f64 4607182418800017408 0) ∧ w = w' := by
  have h := truth_any true w
  rw [show (if true = true then (1 : Int) else 0) = 1 from rfl, fl1, fl0] at h
  exact h
theorem truth_f (w : World) : Calls Tryd.prog 29 #[.bool false] w fun e w' => e = .returned (.complex .f64 0 0) ∧ w = w' := by
  have h := truth_any false w
  rw [show (if false = true then (1 : Int) else 0) = 0 from rfl, fl0] at h
  exact h
theorem I32.sm {n : Int} (h : I32 n) : Sm n := by unfold I32 at h; unfold Sm; omega

theorem tri4 (r i s k : Int) :
    (decide (r < s) = true ∧ lessB r i s k = true) ∨
    (decide (r < s) = false ∧ (r == s) = false ∧ lessB r i s k = false) ∨
    (decide (r < s) = false ∧ (r == s) = true ∧ decide (i < k) = true ∧ lessB r i s k = true) ∨
    (decide (r < s) = false ∧ (r == s) = true ∧ decide (i < k) = false ∧ lessB r i s k = false) := by
  rcases Int.lt_trichotomy r s with h | h | h
  · refine .inl ⟨by simp; omega, ?_⟩
    simp only [lessB, if_neg (show ¬ r = s by omega)]; simp; omega
  · subst h
    by_cases h : i < k
    · refine .inr (.inr (.inl ⟨by simp, by simp, by simp; omega, ?_⟩)); simp [lessB]; omega
    · refine .inr (.inr (.inr ⟨by simp, by simp, by simp; omega, ?_⟩)); simp [lessB]; omega
  · refine .inr (.inl ⟨by simp; omega, by simp; omega, ?_⟩)
    simp only [lessB, if_neg (show ¬ r = s by omega)]; simp; omega

set_option maxRecDepth 100000 in
set_option maxHeartbeats 3200000 in
theorem orders_any (a b c d : Int) (same : Bool) (ha : I32 a) (hb : I32 b) (hc : I32 c) (hd : I32 d) (w : World) (ht : Tb w) : Calls Tryd.prog 6 #[pr a b, pr c d, .bool same] w (Yes w) := by
  go_enter Tryd.func6, Tryd.ntmps6
  go_wp2_with (go_at_call 13; refine Hid.out ?_)
  have k0 : Below w.heap.size w ((w.alloc (.cells #[.int .i32 a, .int .i32 b] 23)).alloc (.cells #[.int .i32 c, .int .i32 d] 23)) := below_trans (below_alloc _ _) (below_alloc _ _)
  have ht0 := ht.on k0
  refine Lib.hid ((awake_any _ ht0).mono ?_)
  rintro e w1 ⟨rfl, k1⟩
  obtain ⟨c1, f1⟩ := bcell k1
  have z1 : w.heap.size + 1 < w1.heap.size := by have := k1.size; simp at this; omega
  have g0 : w1.cell? ⟨w.heap.size, 0, none⟩ = some (.int .i32 a) := by rw [c1 _ _ (by simp; omega)]; simp [go_sem]
  have g1 : w1.cell? ⟨w.heap.size, 1, none⟩ = some (.int .i32 b) := by rw [c1 _ _ (by simp; omega)]; simp [go_sem]
  have g2 : w1.cell? ⟨w.heap.size + 1, 0, none⟩ = some (.int .i32 c) := by rw [c1 _ _ (by simp)]; simp [go_sem]
  have g3 : w1.cell? ⟨w.heap.size + 1, 1, none⟩ = some (.int .i32 d) := by rw [c1 _ _ (by simp)]; simp [go_sem]
  have g4 : w1.frozen? ⟨w.heap.size + 1, 0, none⟩ = false := by rw [f1 _ _ (by simp)]; simp [go_sem]
  have K1 := below_trans k0 k1
  clear k0 k1 ht0 c1 f1
  cases same
  case' false =>
    have KK := Lib.hid K1
    obtain ⟨c', hc'⟩ : ∃ c' : Int, c' = c := ⟨c, rfl⟩
    have n0 := g0
    have n1 := g1
    have n2 : w1.cell? ⟨w.heap.size + 1, 0, none⟩ = some (.int .i32 c') := by rw [hc']; exact g2
    have n3 := g3
    have hcc : I32 c' := by rw [hc']; exact hc
    clear hc' g0 g1 g2 g3 g4 z1 K1
    go_wp2_with fail
    generalize w1 = w2 at *
  case' true =>
    have KK := Lib.hid (K1.setCell (p := ⟨w.heap.size + 1, 0, none⟩) (by simp) (.int .i32 a))
    obtain ⟨c', hc'⟩ : ∃ c' : Int, c' = a := ⟨a, rfl⟩
    have n0 : (w1.setCell ⟨w.heap.size + 1, 0, none⟩ (.int .i32 a)).cell? ⟨w.heap.size, 0, none⟩ = some (.int .i32 a) := by simp [go_sem, g0]
    have n1 : (w1.setCell ⟨w.heap.size + 1, 0, none⟩ (.int .i32 a)).cell? ⟨w.heap.size, 1, none⟩ = some (.int .i32 b) := by simp [go_sem, g1]
    have n2 : (w1.setCell ⟨w.heap.size + 1, 0, none⟩ (.int .i32 a)).cell? ⟨w.heap.size + 1, 0, none⟩ = some (.int .i32 c') := by rw [hc']; simp [go_sem, g2]
    have n3 : (w1.setCell ⟨w.heap.size + 1, 0, none⟩ (.int .i32 a)).cell? ⟨w.heap.size + 1, 1, none⟩ = some (.int .i32 d) := by simp [go_sem, g3]
    have hcc : I32 c' := by rw [hc']; exact ha
    have HC := Lib.hid hc'
    clear K1 hc'
    go_wp2_with fail
    clear g0 g1 g2 g3 g4 z1 HC
    generalize w1.setCell ⟨w.heap.size + 1, 0, none⟩ (.int .i32 a) = w2 at *
  all_goals
    have s1 := ha.sm
    have s2 := hb.sm
    have s3 := hcc.sm
    have s4 := hd.sm
    obtain ⟨a1, a2⟩ := ha
    obtain ⟨a3, a4⟩ := hb
    obtain ⟨a5, a6⟩ := hcc
    obtain ⟨a7, a8⟩ := hd
    have x1 : IntKind.i64.wrap a = a := IntWalk.i64_in _ (by omega)
    have x2 : IntKind.i64.wrap b = b := IntWalk.i64_in _ (by omega)
    have x3 : IntKind.i64.wrap c' = c' := IntWalk.i64_in _ (by omega)
    have x4 : IntKind.i64.wrap d = d := IntWalk.i64_in _ (by omega)
    go_region_held3 (fun w' => Below w2.heap.size w2 w' ∧ w'.cell? ⟨w.heap.size, 0, none⟩ = some (.int .i32 a) ∧ w'.cell? ⟨w.heap.size, 1, none⟩ = some (.int .i32 b) ∧ w'.cell? ⟨w.heap.size + 1, 0, none⟩ = some (.int .i32 c') ∧ w'.cell? ⟨w.heap.size + 1, 1, none⟩ = some (.int .i32 d))
      (first | exact ⟨below_drew w2, n0, n1, n2, n3⟩ | assumption)
      (first | (go_at_call 15; refine (number_any _ _ _).mono ?_; rintro e w' ⟨rfl, rfl⟩))
    rename_i hH
    obtain ⟨hH0, m0, m1, m2, m3⟩ := hH
    have K2 := Lib.hid (below_trans KK.out (below_drew w2))
    clear KK n0 n1 n2 n3 x1 x2 x3 x4 hH0
    generalize w2.drew = w3 at *
    have o1 : (FloatKind.f64.format.order 4607182418800017408 4607182418800017408 == some .eq) = true := by decide +kernel
    have o2 : (FloatKind.f64.format.order 0 0 == some .eq) = true := by decide +kernel
    rcases tri4 a b c' d with ⟨t1, l1⟩ | ⟨t1, t2, l1⟩ | ⟨t1, t2, t3, l1⟩ | ⟨t1, t2, t3, l1⟩
    all_goals
      go_wp2_with (first
        | (go_at_call 28; refine (less_any _ _ _ _ (by assumption) (by assumption) (by assumption) (by assumption) _).mono ?_; rintro e w' ⟨rfl, rfl⟩)
        | (go_at_call_of 29 (Value.bool true); refine (truth_t _).mono ?_; rintro e w' ⟨rfl, rfl⟩)
        | (go_at_call_of 29 (Value.bool false); refine (truth_f _).mono ?_; rintro e w' ⟨rfl, rfl⟩))
      go_ret
      exact ⟨rfl, K2.out⟩
end Go.Proofs.YtmbdbdgilhjgeaaDoor
