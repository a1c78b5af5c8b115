/- The law GaussRing, walked: true at any three pairs. -/
import Derived.Test.YtmbdbdgilhjgeaaDoorGw
set_option linter.unusedSimpArgs false
set_option linter.unusedVariables false
namespace Go.Proofs.YtmbdbdgilhjgeaaDoor
open Go.RowKit Ieee

/-- What fits. -/
def Fi (n : Int) : Prop := Bd 1048576 n
theorem Fi.sm {n : Int} (h : Fi n) : Sm n := Bd.sm h (by decide)
theorem add_ok (z y x u : Bool) {r i s k : Int} (hr : Fi r) (hi : Fi i) (hs : Fi s) (hk : Fi k) (h1 : Fi (r + s)) (h2 : Fi (i + k)) (w : World) :
    Calls Tryd.prog 17 #[.complex .f64 (fl z r) (fl y i), .complex .f64 (fl x s) (fl u k)] w fun e w' => e = .returned (.tuple #[.complex .f64 (fl false (r + s)) (fl false (i + k)), .bool true]) ∧ w = w' := by
  have h := add_any z y x u hr.sm hi.sm hs.sm hk.sm w
  rw [both_of (ok2_of hr hi) (ok2_of hs hk), ok2_of h1 h2] at h
  exact h
theorem mul_ok (z y x u : Bool) {r i s k : Int} (hr : Fi r) (hi : Fi i) (hs : Fi s) (hk : Fi k) (h1 : Fi (r * s - i * k)) (h2 : Fi (r * k + i * s)) (w : World) :
    Calls Tryd.prog 19 #[.complex .f64 (fl z r) (fl y i), .complex .f64 (fl x s) (fl u k)] w fun e w' => e = .returned (.tuple #[.complex .f64 (fl false (r * s - i * k)) (fl false (r * k + i * s)), .bool true]) ∧ w = w' := by
  have h := mul_any z y x u hr.sm hi.sm hs.sm hk.sm w
  rw [both_of (ok2_of hr hi) (ok2_of hs hk), ok2_of h1 h2] at h
  exact h
theorem conj_ok (z y : Bool) {r i : Int} (hr : Fi r) (hi : Fi i) (w : World) :
    Calls Tryd.prog 21 #[.complex .f64 (fl z r) (fl y i)] w fun e w' => e = .returned (.tuple #[.complex .f64 (fl false r) (fl false (-i)), .bool true]) ∧ w = w' := by
  have h := conj_any z y hr.sm hi.sm w
  rw [ok2_of hr (Bd.neg hi)] at h
  exact h
theorem norm_ok (z y : Bool) {r i : Int} (hr : Fi r) (hi : Fi i) (h1 : Fi (r * r + i * i)) (w : World) :
    Calls Tryd.prog 22 #[.complex .f64 (fl z r) (fl y i)] w fun e w' => e = .returned (.tuple #[.complex .f64 (fl false (r * r + i * i)) (fl false 0), .bool true]) ∧ w = w' := by
  have h := norm_any z y hr.sm hi.sm w
  rw [ok2_of hr hi, ok2_of h1 (show Bd 1048576 0 by unfold Bd; decide)] at h
  exact h
/-- Two floats of one number are the same. -/
theorem same_fl {a b : Int} (h : a = b) (ha : Fi a) : (FloatKind.f64.format.order (fl false a) (fl false b) == some .eq) = true := by
  subst h; rw [eq_fl false false ha.sm ha.sm]; simp

set_option maxRecDepth 100000 in
set_option maxHeartbeats 3200000 in
theorem ring_any (a b c d f g : Int) (ha : I32 a) (hb : I32 b) (hc : I32 c) (hd : I32 d) (hf : I32 f) (hg : I32 g) (w : World) (ht : Tb w) : Calls Tryd.prog 9 #[pr a b, pr c d, pr f g] w (Yes w) := by
  go_enter Tryd.func9, Tryd.ntmps9
  go_wp2_with (go_at_call 13; refine Hid.out ?_)
  have k0 : Below w.heap.size w (((w.alloc (.cells #[.int .i32 a, .int .i32 b] 23)).alloc (.cells #[.int .i32 c, .int .i32 d] 23)).alloc (.cells #[.int .i32 f, .int .i32 g] 23)) := below_trans (below_trans (below_alloc _ _) (below_alloc _ _)) (below_alloc _ _)
  have ht0 := ht.on k0
  refine Lib.hid ((awake_any _ ht0).mono ?_)
  rintro e w1 ⟨rfl, k1⟩
  obtain ⟨c1, f1⟩ := bcell k1
  have z1 : w.heap.size + 2 < w1.heap.size := by have := k1.size; simp at this; omega
  have g0 : w1.cell? ⟨w.heap.size, 0, none⟩ = some (.int .i32 a) := by rw [c1 _ _ (by simp; omega)]; simp [go_sem]
  have g1 : w1.cell? ⟨w.heap.size, 1, none⟩ = some (.int .i32 b) := by rw [c1 _ _ (by simp; omega)]; simp [go_sem]
  have g2 : w1.cell? ⟨w.heap.size + 1, 0, none⟩ = some (.int .i32 c) := by rw [c1 _ _ (by simp)]; simp [go_sem]
  have g3 : w1.cell? ⟨w.heap.size + 1, 1, none⟩ = some (.int .i32 d) := by rw [c1 _ _ (by simp)]; simp [go_sem]
  have g4 : w1.cell? ⟨w.heap.size + 1 + 1, 0, none⟩ = some (.int .i32 f) := by rw [c1 _ _ (by simp)]; simp [go_sem]
  have g5 : w1.cell? ⟨w.heap.size + 1 + 1, 1, none⟩ = some (.int .i32 g) := by rw [c1 _ _ (by simp)]; simp [go_sem]
  have K1 := Lib.hid (below_trans k0 k1)
  clear k0 k1 ht0 c1 f1
  go_wp2_with fail
  go_region_held3 (fun w' => Below w1.heap.size w1 w' ∧ w'.cell? ⟨w.heap.size, 0, none⟩ = some (.int .i32 a) ∧ w'.cell? ⟨w.heap.size, 1, none⟩ = some (.int .i32 b) ∧ w'.cell? ⟨w.heap.size + 1, 0, none⟩ = some (.int .i32 c) ∧ w'.cell? ⟨w.heap.size + 1, 1, none⟩ = some (.int .i32 d) ∧ w'.cell? ⟨w.heap.size + 1 + 1, 0, none⟩ = some (.int .i32 f) ∧ w'.cell? ⟨w.heap.size + 1 + 1, 1, none⟩ = some (.int .i32 g))
    (first | exact ⟨below_drew w1, g0, g1, g2, g3, g4, g5⟩ | assumption | exact held6 (by assumption) (by assumption))
    (first | (go_at_call 33; refine (small_any _ _ (by assumption) (by assumption) _).mono ?_; rintro e w' ⟨rfl, kb⟩))
  rename_i hH
  have K2 := Lib.hid (below_trans K1.out hH.1)
  clear hH kb K1 g0 g1 g2 g3 g4 g5 z1
  have b1 : Bd 399 (a.tmod 400) := tmod_bd a 400 (by omega)
  have b2 : Bd 399 (b.tmod 400) := tmod_bd b 400 (by omega)
  have b3 : Bd 399 (c.tmod 400) := tmod_bd c 400 (by omega)
  have b4 : Bd 399 (d.tmod 400) := tmod_bd d 400 (by omega)
  have b5 : Bd 399 (f.tmod 400) := tmod_bd f 400 (by omega)
  have b6 : Bd 399 (g.tmod 400) := tmod_bd g 400 (by omega)
  generalize a.tmod 400 = r at *
  generalize b.tmod 400 = i at *
  generalize c.tmod 400 = s at *
  generalize d.tmod 400 = k at *
  generalize f.tmod 400 = p at *
  generalize g.tmod 400 = q at *
  have f1 : Fi r := b1.le (by decide)
  have f2 : Fi i := b2.le (by decide)
  have f3 : Fi s := b3.le (by decide)
  have f4 : Fi k := b4.le (by decide)
  have f5 : Fi p := b5.le (by decide)
  have f6 : Fi q := b6.le (by decide)
  have f7 : Fi (r + s) := (b1.add b3).le (by decide)
  have f8 : Fi (i + k) := (b2.add b4).le (by decide)
  have f9 : Fi ((r + s) * p - (i + k) * q) := (((b1.add b3).mul b5).sub ((b2.add b4).mul b6)).le (by decide)
  have f10 : Fi ((r + s) * q + (i + k) * p) := (((b1.add b3).mul b6).add ((b2.add b4).mul b5)).le (by decide)
  have f11 : Fi (r * p - i * q) := ((b1.mul b5).sub (b2.mul b6)).le (by decide)
  have f12 : Fi (r * q + i * p) := ((b1.mul b6).add (b2.mul b5)).le (by decide)
  have f13 : Fi (s * p - k * q) := ((b3.mul b5).sub (b4.mul b6)).le (by decide)
  have f14 : Fi (s * q + k * p) := ((b3.mul b6).add (b4.mul b5)).le (by decide)
  have f15 : Fi (r * p - i * q + (s * p - k * q)) := (((b1.mul b5).sub (b2.mul b6)).add ((b3.mul b5).sub (b4.mul b6))).le (by decide)
  have f16 : Fi (r * q + i * p + (s * q + k * p)) := (((b1.mul b6).add (b2.mul b5)).add ((b3.mul b6).add (b4.mul b5))).le (by decide)
  have f17 : Fi (p * (r + s) - q * (i + k)) := ((b5.mul (b1.add b3)).sub (b6.mul (b2.add b4))).le (by decide)
  have f18 : Fi (p * (i + k) + q * (r + s)) := ((b5.mul (b2.add b4)).add (b6.mul (b1.add b3))).le (by decide)
  have f19 : Fi (s + r) := (b3.add b1).le (by decide)
  have f20 : Fi (k + i) := (b4.add b2).le (by decide)
  have e1 := same_fl (show (r + s) * p - (i + k) * q = r * p - i * q + (s * p - k * q) by grind) f9
  have e2 := same_fl (show (r + s) * q + (i + k) * p = r * q + i * p + (s * q + k * p) by grind) f10
  have e3 := same_fl (show p * (r + s) - q * (i + k) = (r + s) * p - (i + k) * q by grind) f17
  have e4 := same_fl (show p * (i + k) + q * (r + s) = (r + s) * q + (i + k) * p by grind) f18
  have e5 := same_fl (show s + r = r + s by omega) f19
  have e6 := same_fl (show k + i = i + k by omega) f20
  clear b1 b2 b3 b4 b5 b6
  go_wp2_with (first
    | (go_at_call 17; refine (add_ok _ _ _ _ (by assumption) (by assumption) (by assumption) (by assumption) (by assumption) (by assumption) _).mono ?_; rintro e w' ⟨rfl, rfl⟩)
    | (go_at_call 19; refine (mul_ok _ _ _ _ (by assumption) (by assumption) (by assumption) (by assumption) (by assumption) (by assumption) _).mono ?_; rintro e w' ⟨rfl, rfl⟩))
  go_ret
  exact ⟨rfl, K2.out⟩
end Go.Proofs.YtmbdbdgilhjgeaaDoor
