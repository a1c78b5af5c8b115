/- The law GaussNorms, walked: true at any two pairs. -/
import Derived.Test.YtmbdbdgilhjgeaaDoorGc
import Derived.IntWalk
set_option linter.unusedSimpArgs false
set_option linter.unusedVariables false
namespace Go.Proofs.YtmbdbdgilhjgeaaDoor
open Go.RowKit Ieee

theorem norm_nm (z y : Bool) {r i T : Int} (hr : Fi r) (hi : Fi i) (hT : Hid (T = r * r + i * i)) (h1 : Fi T) (w : World) :
    Calls Tryd.prog 22 #[.complex .f64 (fl z r) (fl y i)] w fun e w' => e = .returned (.tuple #[.complex .f64 (fl false T) (fl false 0), .bool true]) ∧ w = w' := by
  rw [hT.out] at h1 ⊢; exact norm_ok z y hr hi h1 w
theorem mul_nm (z y x u : Bool) {r i s k P Q : Int} (hr : Fi r) (hi : Fi i) (hs : Fi s) (hk : Fi k) (hP : Hid (P = r * s - i * k)) (hQ : Hid (Q = r * k + i * s)) (h1 : Fi P) (h2 : Fi Q) (w : World) :
    Calls Tryd.prog 19 #[.complex .f64 (fl z r) (fl y i), .complex .f64 (fl x s) (fl u k)] w fun e w' => e = .returned (.tuple #[.complex .f64 (fl false P) (fl false Q), .bool true]) ∧ w = w' := by
  rw [hP.out] at h1 ⊢; rw [hQ.out] at h2 ⊢; exact mul_ok z y x u hr hi hs hk h1 h2 w

set_option maxRecDepth 100000 in
set_option maxHeartbeats 3200000 in
theorem norms_any (a b c d : Int) (ha : I32 a) (hb : I32 b) (hc : I32 c) (hd : I32 d) (w : World) (ht : Tb w) : Calls Tryd.prog 10 #[pr a b, pr c d] w (Yes w) := by
  go_enter Tryd.func10, Tryd.ntmps10
  go_wp2_with (go_at_call 13; refine Hid.out ?_)
  have k0 : Below w.heap.size w ((w.alloc (.cells #[.int .i32 a, .int .i32 b] 23)).alloc (.cells #[.int .i32 c, .int .i32 d] 23)) := below_trans (below_alloc _ _) (below_alloc _ _)
  have ht0 := ht.on k0
  refine Lib.hid ((awake_any _ ht0).mono ?_)
  rintro e w1 ⟨rfl, k1⟩
  obtain ⟨c1, f1⟩ := bcell k1
  have z1 : w.heap.size + 1 < w1.heap.size := by have := k1.size; simp at this; omega
  have g0 : w1.cell? ⟨w.heap.size, 0, none⟩ = some (.int .i32 a) := by rw [c1 _ _ (by simp; omega)]; simp [go_sem]
  have g1 : w1.cell? ⟨w.heap.size, 1, none⟩ = some (.int .i32 b) := by rw [c1 _ _ (by simp; omega)]; simp [go_sem]
  have g2 : w1.cell? ⟨w.heap.size + 1, 0, none⟩ = some (.int .i32 c) := by rw [c1 _ _ (by simp)]; simp [go_sem]
  have g3 : w1.cell? ⟨w.heap.size + 1, 1, none⟩ = some (.int .i32 d) := by rw [c1 _ _ (by simp)]; simp [go_sem]
  have K1 := Lib.hid (below_trans k0 k1)
  clear k0 k1 ht0 c1 f1
  obtain ⟨a1, a2⟩ := ha
  obtain ⟨a3, a4⟩ := hb
  obtain ⟨a5, a6⟩ := hc
  obtain ⟨a7, a8⟩ := hd
  obtain ⟨t1, t2⟩ : -20 < a.tmod 20 ∧ a.tmod 20 < 20 := tmod_in a 20 (by omega)
  obtain ⟨t3, t4⟩ : -20 < b.tmod 20 ∧ b.tmod 20 < 20 := tmod_in b 20 (by omega)
  obtain ⟨t5, t6⟩ : -20 < c.tmod 20 ∧ c.tmod 20 < 20 := tmod_in c 20 (by omega)
  obtain ⟨t7, t8⟩ : -20 < d.tmod 20 ∧ d.tmod 20 < 20 := tmod_in d 20 (by omega)
  have x1 : IntKind.i64.wrap (a.tmod 20) = a.tmod 20 := IntWalk.i64_in _ (by omega)
  have x2 : IntKind.i64.wrap (b.tmod 20) = b.tmod 20 := IntWalk.i64_in _ (by omega)
  have x3 : IntKind.i64.wrap (c.tmod 20) = c.tmod 20 := IntWalk.i64_in _ (by omega)
  have x4 : IntKind.i64.wrap (d.tmod 20) = d.tmod 20 := IntWalk.i64_in _ (by omega)
  go_wp2_with fail
  go_region_held3 (fun w' => Below w1.heap.size w1 w' ∧ w'.cell? ⟨w.heap.size, 0, none⟩ = some (.int .i32 a) ∧ w'.cell? ⟨w.heap.size, 1, none⟩ = some (.int .i32 b) ∧ w'.cell? ⟨w.heap.size + 1, 0, none⟩ = some (.int .i32 c) ∧ w'.cell? ⟨w.heap.size + 1, 1, none⟩ = some (.int .i32 d))
    (first | exact ⟨below_drew w1, g0, g1, g2, g3⟩ | assumption)
    (first | (go_at_call 15; refine (number_any _ _ _).mono ?_; rintro e w' ⟨rfl, rfl⟩))
  rename_i hH
  have K2 := Lib.hid (below_trans K1.out (below_drew w1))
  clear hH K1 g0 g1 g2 g3 z1 x1 x2 x3 x4 t1 t2 t3 t4 t5 t6 t7 t8 a1 a2 a3 a4 a5 a6 a7 a8
  generalize w1.drew = w2 at *
  have b1 : Bd 19 (a.tmod 20) := tmod_bd a 20 (by omega)
  have b2 : Bd 19 (b.tmod 20) := tmod_bd b 20 (by omega)
  have b3 : Bd 19 (c.tmod 20) := tmod_bd c 20 (by omega)
  have b4 : Bd 19 (d.tmod 20) := tmod_bd d 20 (by omega)
  generalize a.tmod 20 = r at *
  generalize b.tmod 20 = i at *
  generalize c.tmod 20 = s at *
  generalize d.tmod 20 = k at *
  obtain ⟨A, hA⟩ : ∃ A, A = r * s - i * k := ⟨_, rfl⟩
  obtain ⟨B, hB⟩ : ∃ B, B = r * k + i * s := ⟨_, rfl⟩
  obtain ⟨T, hT⟩ : ∃ T, T = A * A + B * B := ⟨_, rfl⟩
  obtain ⟨M, hM⟩ : ∃ M, M = r * r + i * i := ⟨_, rfl⟩
  obtain ⟨N, hN⟩ : ∃ N, N = s * s + k * k := ⟨_, rfl⟩
  obtain ⟨i', hi'⟩ : ∃ i', i' = -i := ⟨_, rfl⟩
  have c1 : Bd 722 A := by rw [hA]; exact ((b1.mul b3).sub (b2.mul b4)).le (by decide)
  have c2 : Bd 722 B := by rw [hB]; exact ((b1.mul b4).add (b2.mul b3)).le (by decide)
  have f1 : Fi r := b1.le (by decide)
  have f2 : Fi i := b2.le (by decide)
  have f3 : Fi s := b3.le (by decide)
  have f4 : Fi k := b4.le (by decide)
  have f5 : Fi A := c1.le (by decide)
  have f6 : Fi B := c2.le (by decide)
  have f7 : Fi T := by rw [hT]; exact ((c1.mul c1).add (c2.mul c2)).le (by decide)
  have f8 : Fi M := by rw [hM]; exact ((b1.mul b1).add (b2.mul b2)).le (by decide)
  have f9 : Fi N := by rw [hN]; exact ((b3.mul b3).add (b4.mul b4)).le (by decide)
  have f0 : Fi 0 := by unfold Fi Bd; decide
  have f10 : Fi i' := by rw [hi']; exact Bd.neg f2
  have e1 := same_fl (rfl : T = T) f7
  have e2 := same_fl (rfl : (0 : Int) = 0) f0
  have e3 := same_fl (rfl : M = M) f8
  have h1 := Lib.hid hA
  have h2 := Lib.hid hB
  have h3 := Lib.hid hT
  have h4 := Lib.hid hM
  have h5 := Lib.hid hN
  have h6 := Lib.hid hi'
  have h7 : Hid (T = M * N - 0 * 0) := Lib.hid (by rw [hT, hA, hB, hM, hN]; grind)
  have h8 : Hid (0 = M * 0 + 0 * N) := Lib.hid (by simp)
  have h9 : Hid (M = r * r - i * i') := Lib.hid (by rw [hM, hi']; grind)
  have h10 : Hid (0 = r * i' + i * r) := Lib.hid (by rw [hi']; grind)
  clear b1 b2 b3 b4 c1 c2 hA hB hT hM hN hi'
  go_wp2_with (go_at_call 19; refine Hid.out ?_)
  refine Lib.hid ((mul_nm _ _ _ _ f1 f2 f3 f4 h1 h2 f5 f6 _).mono ?_)
  rintro e w3 ⟨rfl, rfl⟩
  go_wp2_with (go_at_call 22; refine Hid.out ?_)
  refine Lib.hid ((norm_nm _ _ f5 f6 h3 f7 _).mono ?_)
  rintro e w3 ⟨rfl, rfl⟩
  go_wp2_with (go_at_call 22; refine Hid.out ?_)
  refine Lib.hid ((norm_nm _ _ f1 f2 h4 f8 _).mono ?_)
  rintro e w3 ⟨rfl, rfl⟩
  go_wp2_with (go_at_call 22; refine Hid.out ?_)
  refine Lib.hid ((norm_nm _ _ f3 f4 h5 f9 _).mono ?_)
  rintro e w3 ⟨rfl, rfl⟩
  go_wp2_with (go_at_call 19; refine Hid.out ?_)
  refine Lib.hid ((mul_nm _ _ _ _ f8 f0 f9 f0 h7 h8 f7 f0 _).mono ?_)
  rintro e w3 ⟨rfl, rfl⟩
  go_wp2_with (go_at_call 21; refine Hid.out ?_)
  refine Lib.hid ((conj_nm _ _ f1 f2 h6 _).mono ?_)
  rintro e w3 ⟨rfl, rfl⟩
  go_wp2_with (go_at_call 19; refine Hid.out ?_)
  refine Lib.hid ((mul_nm _ _ _ _ f1 f2 f1 f10 h9 h10 f8 f0 _).mono ?_)
  rintro e w3 ⟨rfl, rfl⟩
  go_wp2
  go_ret
  exact ⟨rfl, K2.out⟩
end Go.Proofs.YtmbdbdgilhjgeaaDoor
