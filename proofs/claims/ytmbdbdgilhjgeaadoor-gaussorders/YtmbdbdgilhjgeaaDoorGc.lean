/- The law GaussConjs, walked: true at any two pairs. -/
import Derived.Test.YtmbdbdgilhjgeaaDoorGr
set_option linter.unusedSimpArgs false
set_option linter.unusedVariables false
namespace Go.Proofs.YtmbdbdgilhjgeaaDoor
open Go.RowKit Ieee

theorem held4 {w1 w' w'' : World} {a0 a1 a2 a3 : Addr} {v0 v1 v2 v3 : Value}
    (h : Below w1.heap.size w1 w' ∧ w'.cell? a0 = some v0 ∧ w'.cell? a1 = some v1 ∧ w'.cell? a2 = some v2 ∧ w'.cell? a3 = some v3) (k : Below w'.heap.size w' w'') :
    Below w1.heap.size w1 w'' ∧ w''.cell? a0 = some v0 ∧ w''.cell? a1 = some v1 ∧ w''.cell? a2 = some v2 ∧ w''.cell? a3 = some v3 := by
  obtain ⟨hb, c0, c1, c2, c3⟩ := h
  exact ⟨below_trans hb k, cell_on c0 k, cell_on c1 k, cell_on c2 k, cell_on c3 k⟩

/-- A Conj's imaginary part under a name of its own. -/
theorem conj_nm (z y : Bool) {r i j : Int} (hr : Fi r) (hi : Fi i) (hj : Hid (j = -i)) (w : World) :
    Calls Tryd.prog 21 #[.complex .f64 (fl z r) (fl y i)] w fun e w' => e = .returned (.tuple #[.complex .f64 (fl false r) (fl false j), .bool true]) ∧ w = w' := by
  rw [hj.out]; exact conj_ok z y hr hi w

set_option maxRecDepth 100000 in
set_option maxHeartbeats 3200000 in
theorem conjs_any (a b c d : Int) (ha : I32 a) (hb : I32 b) (hc : I32 c) (hd : I32 d) (w : World) (ht : Tb w) : Calls Tryd.prog 11 #[pr a b, pr c d] w (Yes w) := by
  go_enter Tryd.func11, Tryd.ntmps11
  go_wp2_with (go_at_call 13; refine Hid.out ?_)
  have k0 : Below w.heap.size w ((w.alloc (.cells #[.int .i32 a, .int .i32 b] 23)).alloc (.cells #[.int .i32 c, .int .i32 d] 23)) := below_trans (below_alloc _ _) (below_alloc _ _)
  have ht0 := ht.on k0
  refine Lib.hid ((awake_any _ ht0).mono ?_)
  rintro e w1 ⟨rfl, k1⟩
  obtain ⟨c1, f1⟩ := bcell k1
  have z1 : w.heap.size + 1 < w1.heap.size := by have := k1.size; simp at this; omega
  have g0 : w1.cell? ⟨w.heap.size, 0, none⟩ = some (.int .i32 a) := by rw [c1 _ _ (by simp; omega)]; simp [go_sem]
  have g1 : w1.cell? ⟨w.heap.size, 1, none⟩ = some (.int .i32 b) := by rw [c1 _ _ (by simp; omega)]; simp [go_sem]
  have g2 : w1.cell? ⟨w.heap.size + 1, 0, none⟩ = some (.int .i32 c) := by rw [c1 _ _ (by simp)]; simp [go_sem]
  have g3 : w1.cell? ⟨w.heap.size + 1, 1, none⟩ = some (.int .i32 d) := by rw [c1 _ _ (by simp)]; simp [go_sem]
  have K1 := Lib.hid (below_trans k0 k1)
  clear k0 k1 ht0 c1 f1
  go_wp2_with fail
  go_region_held3 (fun w' => Below w1.heap.size w1 w' ∧ w'.cell? ⟨w.heap.size, 0, none⟩ = some (.int .i32 a) ∧ w'.cell? ⟨w.heap.size, 1, none⟩ = some (.int .i32 b) ∧ w'.cell? ⟨w.heap.size + 1, 0, none⟩ = some (.int .i32 c) ∧ w'.cell? ⟨w.heap.size + 1, 1, none⟩ = some (.int .i32 d))
    (first | exact ⟨below_drew w1, g0, g1, g2, g3⟩ | assumption | exact held4 (by assumption) (by assumption))
    (first | (go_at_call 33; refine (small_any _ _ (by assumption) (by assumption) _).mono ?_; rintro e w' ⟨rfl, kb⟩))
  rename_i hH
  have K2 := Lib.hid (below_trans K1.out hH.1)
  clear hH kb K1 g0 g1 g2 g3 z1
  have b1 : Bd 399 (a.tmod 400) := tmod_bd a 400 (by omega)
  have b2 : Bd 399 (b.tmod 400) := tmod_bd b 400 (by omega)
  have b3 : Bd 399 (c.tmod 400) := tmod_bd c 400 (by omega)
  have b4 : Bd 399 (d.tmod 400) := tmod_bd d 400 (by omega)
  generalize a.tmod 400 = r at *
  generalize b.tmod 400 = i at *
  generalize c.tmod 400 = s at *
  generalize d.tmod 400 = k at *
  obtain ⟨i', hi'⟩ : ∃ i', i' = -i := ⟨_, rfl⟩
  obtain ⟨k', hk'⟩ : ∃ k', k' = -k := ⟨_, rfl⟩
  obtain ⟨m', hm'⟩ : ∃ m', m' = -(i + k) := ⟨_, rfl⟩
  obtain ⟨n', hn'⟩ : ∃ n', n' = -(r * k + i * s) := ⟨_, rfl⟩
  have b5 : Bd 399 i' := by rw [hi']; exact b2.neg
  have b6 : Bd 399 k' := by rw [hk']; exact b4.neg
  have f1 : Fi r := b1.le (by decide)
  have f2 : Fi i := b2.le (by decide)
  have f3 : Fi s := b3.le (by decide)
  have f4 : Fi k := b4.le (by decide)
  have f5 : Fi i' := b5.le (by decide)
  have f6 : Fi k' := b6.le (by decide)
  have f7 : Fi (r + s) := (b1.add b3).le (by decide)
  have f8 : Fi (i + k) := (b2.add b4).le (by decide)
  have f9 : Fi (r * s - i * k) := ((b1.mul b3).sub (b2.mul b4)).le (by decide)
  have f10 : Fi (r * k + i * s) := ((b1.mul b4).add (b2.mul b3)).le (by decide)
  have f11 : Fi (i' + k') := (b5.add b6).le (by decide)
  have f12 : Fi (r * s - i' * k') := ((b1.mul b3).sub (b5.mul b6)).le (by decide)
  have f13 : Fi (r * k' + i' * s) := ((b1.mul b6).add (b5.mul b3)).le (by decide)
  have f14 : Fi m' := by rw [hm']; exact Bd.neg f8
  have f15 : Fi n' := by rw [hn']; exact Bd.neg f10
  have e0 := same_fl (rfl : r = r) f1
  have e1 := same_fl (rfl : i = i) f2
  have e2 := same_fl (rfl : r + s = r + s) f7
  have e3 := same_fl (show m' = i' + k' by omega) f14
  have e4 := same_fl (show r * s - i * k = r * s - i' * k' by rw [hi', hk', Int.neg_mul_neg]) f9
  have e5 := same_fl (show n' = r * k' + i' * s by rw [hn', hi', hk']; grind) f15
  have h1 := Lib.hid hi'
  have h2 := Lib.hid hk'
  have h3 := Lib.hid hm'
  have h4 := Lib.hid hn'
  have h5 : Hid (i = -i') := Lib.hid (by omega)
  clear b1 b2 b3 b4 b5 b6 hi' hk' hm' hn'
  go_wp2_with (go_at_call 21; refine Hid.out ?_)
  refine Lib.hid ((conj_nm _ _ f1 f2 h1 _).mono ?_)
  rintro e w2 ⟨rfl, rfl⟩
  go_wp2_with (go_at_call 21; refine Hid.out ?_)
  refine Lib.hid ((conj_nm _ _ f3 f4 h2 _).mono ?_)
  rintro e w2 ⟨rfl, rfl⟩
  go_wp2_with (go_at_call 21; refine Hid.out ?_)
  refine Lib.hid ((conj_nm _ _ f1 f5 h5 _).mono ?_)
  rintro e w2 ⟨rfl, rfl⟩
  go_wp2_with (first
    | (go_at_call 17; refine (add_ok _ _ _ _ (by assumption) (by assumption) (by assumption) (by assumption) (by assumption) (by assumption) _).mono ?_; rintro e w' ⟨rfl, rfl⟩)
    | (go_at_call 19; refine (mul_ok _ _ _ _ (by assumption) (by assumption) (by assumption) (by assumption) (by assumption) (by assumption) _).mono ?_; rintro e w' ⟨rfl, rfl⟩)
    | (go_at_call 21; refine Hid.out ?_))
  refine Lib.hid ((conj_nm _ _ f7 f8 h3 _).mono ?_)
  rintro e w2 ⟨rfl, rfl⟩
  go_wp2_with (go_at_call 21; refine Hid.out ?_)
  refine Lib.hid ((conj_nm _ _ f9 f10 h4 _).mono ?_)
  rintro e w2 ⟨rfl, rfl⟩
  go_wp2
  go_ret
  exact ⟨rfl, K2.out⟩
end Go.Proofs.YtmbdbdgilhjgeaaDoor
