/- The law's fixed fact (chapter 4's example) holds. -/
import Derived.Test.YtmomdcnlhljhcaaDoorDd
set_option linter.unusedSimpArgs false
set_option linter.unusedVariables false
namespace Go.Proofs.YtmomdcnlhljhcaaDoor
open Go.RowKit Ieee

def awE : Ex := .two 0 (.reg 97) (.two 2 (.reg 98) (.num 2 0))
theorem aw_text : ext awE = [40, 97, 32, 43, 32, 40, 98, 32, 42, 32, 50, 41, 41] := by
  have : Lib.itoa ((2 : Nat) : Int) = [50] := by decide +kernel
  have h2 : Lib.itoa 2 = [50] := this
  simp [awE, ext, op2, numT, h2]
theorem aw_wx : Wx awE := by simp [awE, Wx]
theorem aw_dep : dep awE = 3 := rfl
theorem fl0' : fl false ((0 : Nat) : Int) = 0 := by decide

/-- The worlds on the way. -/
def awS1 (F : Nat) : Obj := .cells #[.string ⟨#[114, 101, 103]⟩, .complex .f64 0 0, .string ⟨#[98]⟩, .slice none 0 0, .string ⟨#[]⟩, .complex .f64 F 0, .string ⟨#[]⟩, .slice none 0 0] 48
def awS2 (g : Nat) : Obj := .cells #[.string ⟨#[114, 101, 103]⟩, .complex .f64 0 0, .string ⟨#[97]⟩, .slice none 0 0, .string ⟨#[42]⟩, .complex .f64 0 0, .string ⟨#[]⟩, .slice (some ⟨g, 0, none⟩) 2 2] 48
theorem aw_px (w : World) (F : Nat) (hF : fl false ((2 : Nat) : Int) = F) : Px ((w.alloc (awS1 F)).alloc (awS2 w.heap.size)) (fun g => g < w.heap.size + 2) awE (some ⟨w.heap.size + 1, 0, none⟩) := by
  subst hF
  refine ⟨_, none, some ⟨w.heap.size, 0, none⟩, rfl, by omega, ?_, ?_, rfl, ?_⟩
  · unfold awS1 awS2; exact ⟨by simp [opB, go_sem], by simp [nxB, nyB, go_sem], by simp [nmB, go_sem], by simp [npB, go_sem]⟩
  · unfold awS1 awS2; exact ⟨by simp [opB, op2, go_sem], by simp [nxB, nyB, go_sem], by simp [nmB, go_sem], by simp [npB, go_sem]⟩
  · refine ⟨_, none, none, rfl, by omega, ?_, ?_, rfl, rfl⟩
    · unfold awS1 awS2; exact ⟨by simp [opB, go_sem], by simp [nxB, nyB, go_sem], by simp [nmB, go_sem], by simp [npB, go_sem]⟩
    · unfold awS1 awS2; exact ⟨by simp [opB, go_sem], by simp [nxB, nyB, show fl false 0 = 0 by decide, go_sem], by simp [nmB, go_sem], by simp [npB, go_sem]⟩

set_option maxRecDepth 100000 in
set_option maxHeartbeats 3200000 in
theorem awake_any (w : World) (hl : Lb w) : Calls Tryd.prog 6 #[] w fun e w' => e = .returned (.bool true) ∧ Below w.heap.size w w' := by
  have hst := store_cx
  have HL := Lib.hid hl
  clear hl
  go_enter Tryd.func6, Tryd.ntmps6
  go_wp2_with fail
  refine (register_any 0 (by omega) _).mono ?_
  rintro en w1 ⟨rfl, hb1⟩
  have HB1 := Lib.hid hb1
  clear hb1
  go_wp2_with fail
  refine (register_any 1 (by omega) _).mono ?_
  rintro en w2 ⟨rfl, hb2⟩
  have HB2 := Lib.hid hb2
  clear hb2
  go_wp2_with fail
  refine (num_any 2 (by omega) (by omega) _).mono ?_
  rintro en w3 ⟨rfl, hb3⟩
  have HB3 := Lib.hid hb3
  clear hb3
  rw [show aReg 0 = 97 by decide, show aReg 1 = 98 by decide, show aNum 2 = .num 2 0 from rfl]
  unfold exv opB nxB nyB nmB npB
  simp only [fl0']
  generalize hF : fl false ((2 : Nat) : Int) = F
  have HF := Lib.hid hF
  clear hF
  go_wp2_with fail
  have HPX := Lib.hid (aw_px w3 F HF.out)
  unfold awS1 awS2 at HPX
  obtain ⟨W, hW⟩ : ∃ W, (w3.alloc (awS1 F)).alloc (awS2 w3.heap.size) = W := ⟨_, rfl⟩
  have hWs : W.heap.size = w3.heap.size + 2 := by rw [← hW]; simp
  unfold awS1 awS2 at hW
  rw [hW] at HPX ⊢
  have HW3 : Hid (Below w3.heap.size w3 W) := Lib.hid (by rw [← hW]; exact ((Below.refl _ _).alloc (Nat.le_refl _) _).alloc (by simp) _)
  obtain ⟨n, hn⟩ : ∃ n, w3.heap.size + 1 = n := ⟨_, rfl⟩
  rw [hn] at HPX ⊢
  have hn1 : n + 1 = W.heap.size := by omega
  rw [hn1]
  have hpx : ∀ o, Px (W.alloc o) (fun g => g < (W.alloc o).heap.size) awE (some ⟨n, 0, none⟩) := fun o => HPX.out.on (Same.below (below_alloc W o) (fun g h => by omega)) (fun g h => by simp; omega)
  have HPX2 := Lib.hid hpx
  clear hpx hW
  have HN := Lib.hid hn
  have HN1 := Lib.hid hn1
  clear hn hn1
  have HWS := Lib.hid hWs
  clear hWs
  refine (depth_any awE (some ⟨n, 0, none⟩) _ (HPX2.out _) (by decide) (by decide)).mono ?_
  rintro en w5 ⟨rfl, hb5⟩
  rw [aw_dep]
  obtain ⟨hc5, hf5⟩ := bcell hb5
  have hz5 : W.heap.size < w5.heap.size := by have := hb5.size; simp at this; omega
  have HB5 := Lib.hid hb5
  clear hb5
  go_wp2_with fail
  have hpx5 : Px w5 (fun g => g < w5.heap.size) awE (some ⟨n, 0, none⟩) := (HPX2.out _).on (Same.below HB5.out (fun g h => h)) (fun g h => by have := HB5.out.size; omega)
  have hbw : Below w.heap.size w w5 := below_trans (below_trans (below_trans HB1.out HB2.out) HB3.out) (below_trans HW3.out (below_new HB5.out))
  refine (etext_any awE (some ⟨n, 0, none⟩) w5 (HL.out.new hbw) aw_wx hpx5 (by rw [aw_text]; decide)).mono ?_
  rintro en w6 ⟨rfl, hb6⟩
  rw [aw_text]
  have HBW := Lib.hid (below_trans hbw hb6)
  clear hpx5 hbw hb6
  go_wp2_with fail
  refine (kword_any 5 (by omega) w6 (HL.out.new HBW.out)).mono ?_
  rintro en w7 ⟨rfl, rfl⟩
  go_wp2_with fail
  refine (sword_any 2 (by omega) w6 (HL.out.new HBW.out)).mono ?_
  rintro en w7 ⟨rfl, rfl⟩
  go_wp2
  go_ret
  exact ⟨rfl, HBW.out⟩
end Go.Proofs.YtmomdcnlhljhcaaDoor
