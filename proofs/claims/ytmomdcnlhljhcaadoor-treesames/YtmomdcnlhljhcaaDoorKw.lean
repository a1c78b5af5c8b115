/- Kinds and sorts: their words, what they give, take, name. -/
import Derived.Test.YtmomdcnlhljhcaaDoorLw
set_option linter.unusedSimpArgs false
set_option linter.unusedVariables false
namespace Go.Proofs.YtmomdcnlhljhcaaDoor
open Go.RowKit Ieee

/-- What the program's tables hold: the powers of ten, the kinds' words, the sorts' words. -/
structure Lb (w : World) : Prop where
  size : 7 ≤ w.heap.size
  tb : Tb w
  kw : ∀ i, i < 17 → w.cell? ⟨1, i, none⟩ = some (.string ⟨(word i).toArray⟩)
  sw : ∀ i, i < 6 → w.cell? ⟨0, i, none⟩ = some (.string ⟨(swd i).toArray⟩)
theorem Tb.onB {B : Nat} {w w' : World} (h : Tb w) (hb : Below B w w') (hB : 7 ≤ B) : Tb w' := by
  unfold Tb Lib.TabIs World.var? at h ⊢
  rw [gPow] at h ⊢
  simp only [Option.bind_some] at h ⊢
  rw [hb.block 3 (by omega)]
  exact h
theorem Lb.on {B : Nat} {w w' : World} (h : Lb w) (hb : Below B w w') (hB : 7 ≤ B) : Lb w' :=
  ⟨Nat.le_trans h.size hb.size, h.tb.onB hb hB, fun i hi => (hb.cell (p := ⟨1, i, none⟩) (by show 1 < B; omega)).trans (h.kw i hi), fun i hi => (hb.cell (p := ⟨0, i, none⟩) (by show 0 < B; omega)).trans (h.sw i hi)⟩
theorem Lb.new {w w' : World} (h : Lb w) (hb : Below w.heap.size w w') : Lb w' := h.on hb h.size
theorem Lb.drewN {w : World} (h : Lb w) (n : Nat) : Lb (w.drewN n) := ⟨h.size, h.tb, h.kw, h.sw⟩

theorem kword_any (k : Nat) (hk : k < 17) (w : World) (hl : Lb w) : Calls Tryd.prog 8 #[.int .i64 (k : Int)] w fun e w' => e = .returned (.string ⟨(word k).toArray⟩) ∧ w = w' := by
  have hc := hl.kw k hk
  generalize (⟨(word k).toArray⟩ : ByteArray) = W at *
  have h1 : (k : Int) < 17 := by omega
  clear hl
  go_enter Tryd.func8, Tryd.ntmps8
  go_wp2
  go_ret
  exact ⟨rfl, rfl⟩
theorem kword_out (n : Int) (h : n < 0 ∨ 17 ≤ n) (w : World) : Calls Tryd.prog 8 #[.int .i64 n] w fun e w' => e = .returned (.string ⟨#[]⟩) ∧ w = w' := by
  rcases h with h | h
  · go_enter Tryd.func8, Tryd.ntmps8
    go_wp2
    go_ret
    exact ⟨rfl, rfl⟩
  · have h0 : ¬ n < 0 := by omega
    go_enter Tryd.func8, Tryd.ntmps8
    go_wp2
    go_ret
    exact ⟨rfl, rfl⟩
theorem sword_any (k : Nat) (hk : k < 6) (w : World) (hl : Lb w) : Calls Tryd.prog 7 #[.int .i64 (k : Int)] w fun e w' => e = .returned (.string ⟨(swd k).toArray⟩) ∧ w = w' := by
  have hc := hl.sw k hk
  generalize (⟨(swd k).toArray⟩ : ByteArray) = W at *
  have h1 : (k : Int) < 6 := by omega
  clear hl
  go_enter Tryd.func7, Tryd.ntmps7
  go_wp2
  go_ret
  exact ⟨rfl, rfl⟩
theorem sword_out (n : Int) (h : n < 0 ∨ 6 ≤ n) (w : World) : Calls Tryd.prog 7 #[.int .i64 n] w fun e w' => e = .returned (.string ⟨#[]⟩) ∧ w = w' := by
  rcases h with h | h
  · go_enter Tryd.func7, Tryd.ntmps7
    go_wp2
    go_ret
    exact ⟨rfl, rfl⟩
  · have h0 : ¬ n < 0 := by omega
    go_enter Tryd.func7, Tryd.ntmps7
    go_wp2
    go_ret
    exact ⟨rfl, rfl⟩
theorem nat17 {P : Nat → Prop} (h0 : P 0) (h1 : P 1) (h2 : P 2) (h3 : P 3) (h4 : P 4) (h5 : P 5) (h6 : P 6) (h7 : P 7) (h8 : P 8) (h9 : P 9) (h10 : P 10) (h11 : P 11) (h12 : P 12) (h13 : P 13) (h14 : P 14) (h15 : P 15) (h16 : P 16) (k : Nat) (hk : k < 17) : P k := by
  have h : k = 0 ∨ k = 1 ∨ k = 2 ∨ k = 3 ∨ k = 4 ∨ k = 5 ∨ k = 6 ∨ k = 7 ∨ k = 8 ∨ k = 9 ∨ k = 10 ∨ k = 11 ∨ k = 12 ∨ k = 13 ∨ k = 14 ∨ k = 15 ∨ k = 16 := by omega
  rcases h with rfl | rfl | rfl | rfl | rfl | rfl | rfl | rfl | rfl | rfl | rfl | rfl | rfl | rfl | rfl | rfl | rfl <;> assumption
theorem gives_any (k : Nat) (hk : k < 17) (w : World) : Calls Tryd.prog 9 #[.int .i64 (k : Int)] w fun e w' => e = .returned (.bool (gives k)) ∧ w = w' := by
  revert k
  refine nat17 ?_ ?_ ?_ ?_ ?_ ?_ ?_ ?_ ?_ ?_ ?_ ?_ ?_ ?_ ?_ ?_ ?_
  all_goals
    go_enter Tryd.func9, Tryd.ntmps9
    go_wp2
    go_ret
    exact ⟨rfl, rfl⟩
theorem takes_any (k : Nat) (hk : k < 17) (w : World) : Calls Tryd.prog 10 #[.int .i64 (k : Int)] w fun e w' => e = .returned (.int .i64 (takes k : Int)) ∧ w = w' := by
  revert k
  refine nat17 ?_ ?_ ?_ ?_ ?_ ?_ ?_ ?_ ?_ ?_ ?_ ?_ ?_ ?_ ?_ ?_ ?_
  all_goals
    go_enter Tryd.func10, Tryd.ntmps10
    go_wp2
    go_ret
    exact ⟨rfl, rfl⟩
theorem named_any (k : Nat) (hk : k < 17) (w : World) : Calls Tryd.prog 11 #[.int .i64 (k : Int)] w fun e w' => e = .returned (.bool (named k)) ∧ w = w' := by
  revert k
  refine nat17 ?_ ?_ ?_ ?_ ?_ ?_ ?_ ?_ ?_ ?_ ?_ ?_ ?_ ?_ ?_ ?_ ?_
  all_goals
    go_enter Tryd.func11, Tryd.ntmps11
    go_wp2
    go_ret
    exact ⟨rfl, rfl⟩
def celled (k : Nat) : Bool := decide (1 ≤ k) && decide (k ≤ 5)
theorem celled_any (k : Nat) (hk : k < 17) (w : World) : Calls Tryd.prog 12 #[.int .i64 (k : Int)] w fun e w' => e = .returned (.bool (celled k)) ∧ w = w' := by
  revert k
  refine nat17 ?_ ?_ ?_ ?_ ?_ ?_ ?_ ?_ ?_ ?_ ?_ ?_ ?_ ?_ ?_ ?_ ?_
  all_goals
    go_enter Tryd.func12, Tryd.ntmps12
    go_wp2
    go_ret
    exact ⟨rfl, rfl⟩
end Go.Proofs.YtmomdcnlhljhcaaDoor
