/- The law GaussWhole, walked: true at any three pairs. -/
import Derived.Test.YtmbdbdgilhjgeaaDoorGa
import Derived.Deep.RegionHeld3
set_option linter.unusedSimpArgs false
set_option linter.unusedVariables false
namespace Go.Proofs.YtmbdbdgilhjgeaaDoor
open Go.RowKit Ieee

theorem lt_of_cell {w : World} {a : Addr} {v : Value} (h : w.cell? a = some v) : a.block < w.heap.size := by
  rcases Nat.lt_or_ge a.block w.heap.size with hlt | hge
  · exact hlt
  · simp [World.cell?, Array.getElem?_eq_none hge] at h
theorem cell_on {w w' : World} {a : Addr} {v : Value} (h : w.cell? a = some v) (k : Below w.heap.size w w') : w'.cell? a = some v := (k.cell (lt_of_cell h)).trans h
theorem below_drew (w : World) : Below w.heap.size w w.drew := ⟨rfl, rfl, rfl, Nat.le_refl _, fun _ _ => rfl⟩
/-- What is held of three pairs that lie in memory, behind a call that makes memory alone. -/
theorem held6 {w1 w' w'' : World} {a0 a1 a2 a3 a4 a5 : Addr} {v0 v1 v2 v3 v4 v5 : Value}
    (h : Below w1.heap.size w1 w' ∧ w'.cell? a0 = some v0 ∧ w'.cell? a1 = some v1 ∧ w'.cell? a2 = some v2 ∧ w'.cell? a3 = some v3 ∧ w'.cell? a4 = some v4 ∧ w'.cell? a5 = some v5) (k : Below w'.heap.size w' w'') :
    Below w1.heap.size w1 w'' ∧ w''.cell? a0 = some v0 ∧ w''.cell? a1 = some v1 ∧ w''.cell? a2 = some v2 ∧ w''.cell? a3 = some v3 ∧ w''.cell? a4 = some v4 ∧ w''.cell? a5 = some v5 := by
  obtain ⟨hb, c0, c1, c2, c3, c4, c5⟩ := h
  exact ⟨below_trans hb k, cell_on c0 k, cell_on c1 k, cell_on c2 k, cell_on c3 k, cell_on c4 k, cell_on c5 k⟩

theorem less_self (r i : Int) : lessB r i r i = false := by simp [lessB]
theorem less_trans {r i s k p q : Int} (h1 : lessB r i s k = true) (h2 : lessB s k p q = true) : lessB r i p q = true := by
  simp only [lessB] at *
  by_cases a : r = s <;> by_cases b : s = p <;> by_cases c : r = p <;> simp_all <;> omega
theorem tri5 {r i s k : Int} (hr : Sm r) (hi : Sm i) (hs : Sm s) (hk : Sm k) :
    ((FloatKind.f64.format.order (fl false r) (fl false s) == some .eq) = false ∧ lessB r i s k = true ∧ lessB s k r i = false) ∨
    ((FloatKind.f64.format.order (fl false r) (fl false s) == some .eq) = false ∧ lessB r i s k = false ∧ lessB s k r i = true) ∨
    ((FloatKind.f64.format.order (fl false r) (fl false s) == some .eq) = true ∧ (FloatKind.f64.format.order (fl false i) (fl false k) == some .eq) = false ∧ lessB r i s k = true ∧ lessB s k r i = false) ∨
    ((FloatKind.f64.format.order (fl false r) (fl false s) == some .eq) = true ∧ (FloatKind.f64.format.order (fl false i) (fl false k) == some .eq) = false ∧ lessB r i s k = false ∧ lessB s k r i = true) ∨
    ((FloatKind.f64.format.order (fl false r) (fl false s) == some .eq) = true ∧ (FloatKind.f64.format.order (fl false i) (fl false k) == some .eq) = true ∧ lessB r i s k = false ∧ lessB s k r i = false) := by
  rw [eq_fl false false hr hs, eq_fl false false hi hk]
  rcases Int.lt_trichotomy r s with h | h | h
  · refine .inl ⟨by simp; omega, ?_, ?_⟩
    · simp only [lessB, if_neg (show ¬ r = s by omega)]; simp; omega
    · simp only [lessB, if_neg (show ¬ s = r by omega)]; simp; omega
  · subst h
    rcases Int.lt_trichotomy i k with h | h | h
    · refine .inr (.inr (.inl ⟨by simp, by simp; omega, ?_, ?_⟩)) <;> simp [lessB] <;> omega
    · subst h
      exact .inr (.inr (.inr (.inr ⟨by simp, by simp, by simp [lessB], by simp [lessB]⟩)))
    · refine .inr (.inr (.inr (.inl ⟨by simp, by simp; omega, ?_, ?_⟩))) <;> simp [lessB] <;> omega
  · refine .inr (.inl ⟨by simp; omega, ?_, ?_⟩)
    · simp only [lessB, if_neg (show ¬ r = s by omega)]; simp; omega
    · simp only [lessB, if_neg (show ¬ s = r by omega)]; simp; omega

set_option maxRecDepth 100000 in
set_option maxHeartbeats 3200000 in
theorem whole_any (a b c d f g : Int) (ha : I32 a) (hb : I32 b) (hc : I32 c) (hd : I32 d) (hf : I32 f) (hg : I32 g) (w : World) (ht : Tb w) : Calls Tryd.prog 12 #[pr a b, pr c d, pr f g] w (Yes w) := by
  go_enter Tryd.func12, Tryd.ntmps12
  go_wp2_with (go_at_call 13; refine Hid.out ?_)
  have k0 : Below w.heap.size w (((w.alloc (.cells #[.int .i32 a, .int .i32 b] 23)).alloc (.cells #[.int .i32 c, .int .i32 d] 23)).alloc (.cells #[.int .i32 f, .int .i32 g] 23)) := below_trans (below_trans (below_alloc _ _) (below_alloc _ _)) (below_alloc _ _)
  have ht0 := ht.on k0
  refine Lib.hid ((awake_any _ ht0).mono ?_)
  rintro e w1 ⟨rfl, k1⟩
  obtain ⟨c1, f1⟩ := bcell k1
  have z1 : w.heap.size + 2 < w1.heap.size := by have := k1.size; simp at this; omega
  have g0 : w1.cell? ⟨w.heap.size, 0, none⟩ = some (.int .i32 a) := by rw [c1 _ _ (by simp; omega)]; simp [go_sem]
  have g1 : w1.cell? ⟨w.heap.size, 1, none⟩ = some (.int .i32 b) := by rw [c1 _ _ (by simp; omega)]; simp [go_sem]
  have g2 : w1.cell? ⟨w.heap.size + 1, 0, none⟩ = some (.int .i32 c) := by rw [c1 _ _ (by simp)]; simp [go_sem]
  have g3 : w1.cell? ⟨w.heap.size + 1, 1, none⟩ = some (.int .i32 d) := by rw [c1 _ _ (by simp)]; simp [go_sem]
  have g4 : w1.cell? ⟨w.heap.size + 1 + 1, 0, none⟩ = some (.int .i32 f) := by rw [c1 _ _ (by simp)]; simp [go_sem]
  have g5 : w1.cell? ⟨w.heap.size + 1 + 1, 1, none⟩ = some (.int .i32 g) := by rw [c1 _ _ (by simp)]; simp [go_sem]
  have K1 := Lib.hid (below_trans k0 k1)
  clear k0 k1 ht0 c1 f1
  go_wp2_with fail
  go_region_held3 (fun w' => Below w1.heap.size w1 w' ∧ w'.cell? ⟨w.heap.size, 0, none⟩ = some (.int .i32 a) ∧ w'.cell? ⟨w.heap.size, 1, none⟩ = some (.int .i32 b) ∧ w'.cell? ⟨w.heap.size + 1, 0, none⟩ = some (.int .i32 c) ∧ w'.cell? ⟨w.heap.size + 1, 1, none⟩ = some (.int .i32 d) ∧ w'.cell? ⟨w.heap.size + 1 + 1, 0, none⟩ = some (.int .i32 f) ∧ w'.cell? ⟨w.heap.size + 1 + 1, 1, none⟩ = some (.int .i32 g))
    (first | exact ⟨below_drew w1, g0, g1, g2, g3, g4, g5⟩ | assumption | exact held6 (by assumption) (by assumption))
    (first | (go_at_call 33; refine (small_any _ _ (by assumption) (by assumption) _).mono ?_; rintro e w' ⟨rfl, kb⟩))
  rename_i hH
  have K2 := Lib.hid (below_trans K1.out hH.1)
  clear hH kb K1 g0 g1 g2 g3 g4 g5 z1
  have s1 : Sm (a.tmod 400) := (tmod_bd a 400 (by omega)).sm (by decide)
  have s2 : Sm (b.tmod 400) := (tmod_bd b 400 (by omega)).sm (by decide)
  have s3 : Sm (c.tmod 400) := (tmod_bd c 400 (by omega)).sm (by decide)
  have s4 : Sm (d.tmod 400) := (tmod_bd d 400 (by omega)).sm (by decide)
  have s5 : Sm (f.tmod 400) := (tmod_bd f 400 (by omega)).sm (by decide)
  have s6 : Sm (g.tmod 400) := (tmod_bd g 400 (by omega)).sm (by decide)
  generalize a.tmod 400 = r at *
  generalize b.tmod 400 = i at *
  generalize c.tmod 400 = s at *
  generalize d.tmod 400 = k at *
  generalize f.tmod 400 = p at *
  generalize g.tmod 400 = q at *
  have l0 := less_self r i
  rcases tri5 s1 s2 s3 s4 with ⟨e1, l1, l2⟩ | ⟨e1, l1, l2⟩ | ⟨e1, e2, l1, l2⟩ | ⟨e1, e2, l1, l2⟩ | ⟨e1, e2, l1, l2⟩
  all_goals
    cases l3 : lessB s k p q
  all_goals
    have l4 := Lib.hid (less_trans (r := r) (i := i) (s := s) (k := k) (p := p) (q := q))
    first
      | (have l5 := l4.out l1 l3)
      | skip
    clear l4
    go_wp2_with (go_at_call 28; refine (less_any _ _ _ _ (by assumption) (by assumption) (by assumption) (by assumption) _).mono ?_; rintro e w' ⟨rfl, rfl⟩)
    go_ret
    exact ⟨rfl, K2.out⟩
end Go.Proofs.YtmbdbdgilhjgeaaDoor
