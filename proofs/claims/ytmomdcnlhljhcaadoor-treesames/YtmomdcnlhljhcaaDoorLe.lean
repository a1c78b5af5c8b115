/- The law's expressions, by a number. -/
import Derived.Test.YtmomdcnlhljhcaaDoorLw
set_option linter.unusedSimpArgs false
set_option linter.unusedVariables false
namespace Go.Proofs.YtmomdcnlhljhcaaDoor
open Go.RowKit Ieee

/-- An expression that is made: it is handed back, its parts lie in new blocks. -/
def MkE (w : World) (x : Ex) (e : Ending) (w' : World) : Prop := ∃ p, e = .returned (exv x p) ∧ Px w' (fun g => w.heap.size ≤ g ∧ g < w'.heap.size) x p ∧ Below w.heap.size w w'

theorem aNum_form (n : Int) : ∃ F G, exv (aNum n) none = .agg #[.string ⟨#[]⟩, .complex .f64 F G, .string ⟨#[]⟩, .slice none 0 0] ∧ nxB (aNum n) = F ∧ nyB (aNum n) = G ∧ opB (aNum n) = ⟨#[]⟩ ∧ nmB (aNum n) = ⟨#[]⟩ ∧ npB (aNum n) = 0 := by
  unfold aNum
  split
  · exact ⟨_, _, rfl, rfl, rfl, rfl, rfl, rfl⟩
  · exact ⟨_, _, rfl, rfl, rfl, rfl, rfl, rfl⟩
theorem aNum_px (n : Int) (w : World) (S : Nat → Prop) : Px w S (aNum n) none := by unfold aNum; split <;> rfl
theorem bel4 {w w2 : World} (h : Below w.heap.size w w2) (a b c d : Value) : Below w.heap.size w ((((w2.setCell ⟨w.heap.size, 0, none⟩ a).setCell ⟨w.heap.size, 1, none⟩ b).setCell ⟨w.heap.size, 2, none⟩ c).setCell ⟨w.heap.size, 3, none⟩ d) :=
  (((h.setCell (Nat.le_refl _) _).setCell (Nat.le_refl _) _).setCell (Nat.le_refl _) _).setCell (Nat.le_refl _) _

set_option maxRecDepth 100000 in
set_option maxHeartbeats 3200000 in
theorem expr_0 (kd : Nat) (n : Int) (hk : kd < 256) (h0 : -128 ≤ n) (h1 : n ≤ 127) (hm : (kd : Int) % 16 = 0) (w : World) : Calls Tryd.prog 50 #[.int .u8 (kd : Int), .int .i8 n] w (MkE w (aNum n)) := by
  have hst := store_cx
  obtain ⟨F, G, he, hF⟩ := aNum_form n
  have HE := Lib.hid he
  have HF := Lib.hid hF
  have hkd : (kd : Int) / 16 = ((kd / 16 : Nat) : Int) := by omega
  have hk16 : kd / 16 < 256 := by omega
  clear he hF
  generalize kd / 16 = kq at *
  go_enter Tryd.func50, Tryd.ntmps50
  go_wp2_with fail
  refine (register_any kq hk16 _).mono ?_
  rintro e w1 ⟨rfl, hb⟩
  obtain ⟨hc, hf⟩ := bcell hb
  have hz : w.heap.size < w1.heap.size := by have := hb.size; simp at this; omega
  have HB := Lib.hid hb
  clear hb
  unfold exv opB nxB nyB nmB npB
  simp only
  go_wp2_with fail
  refine (num_any n h0 h1 _).mono ?_
  rintro e w2 ⟨rfl, hb⟩
  rw [HE.out]
  obtain ⟨hc2, hf2⟩ := bcell hb
  have hz2 : w.heap.size < w2.heap.size := by have := hb.size; omega
  have hz3 : w.heap.size < w2.heap.size + 1 := by omega
  have hz4 : w.heap.size < w2.heap.size + 1 + 1 := by omega
  have hz5 : w.heap.size < w2.heap.size + 1 + 1 + 1 := by omega
  have HB2 := Lib.hid hb
  clear hb
  go_wp2
  have hB : Below w.heap.size w w2 := (below_new HB.out).trans (HB2.out.mono (Nat.le_of_lt hz))
  refine bodyPost_ret (v := .agg #[.string ⟨#[]⟩, .complex .f64 F G, .string ⟨#[]⟩, .slice none 0 0]) (by simp [results, Tryd.results50, go_sem, hc, hc2, hz, hz2, hz3, hz4, hz5]) rfl ⟨none, by rw [HE.out], aNum_px _ _ _, ((bel4 hB _ _ _ _).alloc (by simp; omega) _).alloc (by simp; omega) _⟩
set_option maxRecDepth 100000 in
set_option maxHeartbeats 3200000 in
theorem expr_1 (kd : Nat) (n : Int) (hk : kd < 256) (h0 : -128 ≤ n) (h1 : n ≤ 127) (hm : (kd : Int) % 16 = 1) (w : World) : Calls Tryd.prog 50 #[.int .u8 (kd : Int), .int .i8 n] w (MkE w (aNum n)) := by
  have hst := store_cx
  obtain ⟨F, G, he, hF⟩ := aNum_form n
  have HE := Lib.hid he
  have HF := Lib.hid hF
  have hkd : (kd : Int) / 16 = ((kd / 16 : Nat) : Int) := by omega
  have hk16 : kd / 16 < 256 := by omega
  clear he hF
  generalize kd / 16 = kq at *
  go_enter Tryd.func50, Tryd.ntmps50
  go_wp2_with fail
  refine (register_any kq hk16 _).mono ?_
  rintro e w1 ⟨rfl, hb⟩
  obtain ⟨hc, hf⟩ := bcell hb
  have hz : w.heap.size < w1.heap.size := by have := hb.size; simp at this; omega
  have HB := Lib.hid hb
  clear hb
  unfold exv opB nxB nyB nmB npB
  simp only
  go_wp2_with fail
  refine (num_any n h0 h1 _).mono ?_
  rintro e w2 ⟨rfl, hb⟩
  rw [HE.out]
  obtain ⟨hc2, hf2⟩ := bcell hb
  have hz2 : w.heap.size < w2.heap.size := by have := hb.size; omega
  have hz3 : w.heap.size < w2.heap.size + 1 := by omega
  have hz4 : w.heap.size < w2.heap.size + 1 + 1 := by omega
  have hz5 : w.heap.size < w2.heap.size + 1 + 1 + 1 := by omega
  have HB2 := Lib.hid hb
  clear hb
  go_wp2
  have hB : Below w.heap.size w w2 := (below_new HB.out).trans (HB2.out.mono (Nat.le_of_lt hz))
  refine bodyPost_ret (v := .agg #[.string ⟨#[]⟩, .complex .f64 F G, .string ⟨#[]⟩, .slice none 0 0]) (by simp [results, Tryd.results50, go_sem, hc, hc2, hz, hz2, hz3, hz4, hz5]) rfl ⟨none, by rw [HE.out], aNum_px _ _ _, ((bel4 hB _ _ _ _).alloc (by simp; omega) _).alloc (by simp; omega) _⟩
set_option maxRecDepth 100000 in
set_option maxHeartbeats 3200000 in
theorem expr_2 (kd : Nat) (n : Int) (hk : kd < 256) (h0 : -128 ≤ n) (h1 : n ≤ 127) (hm : (kd : Int) % 16 = 2) (w : World) : Calls Tryd.prog 50 #[.int .u8 (kd : Int), .int .i8 n] w (MkE w (aNum n)) := by
  have hst := store_cx
  obtain ⟨F, G, he, hF⟩ := aNum_form n
  have HE := Lib.hid he
  have HF := Lib.hid hF
  have hkd : (kd : Int) / 16 = ((kd / 16 : Nat) : Int) := by omega
  have hk16 : kd / 16 < 256 := by omega
  clear he hF
  generalize kd / 16 = kq at *
  go_enter Tryd.func50, Tryd.ntmps50
  go_wp2_with fail
  refine (register_any kq hk16 _).mono ?_
  rintro e w1 ⟨rfl, hb⟩
  obtain ⟨hc, hf⟩ := bcell hb
  have hz : w.heap.size < w1.heap.size := by have := hb.size; simp at this; omega
  have HB := Lib.hid hb
  clear hb
  unfold exv opB nxB nyB nmB npB
  simp only
  go_wp2_with fail
  refine (num_any n h0 h1 _).mono ?_
  rintro e w2 ⟨rfl, hb⟩
  rw [HE.out]
  obtain ⟨hc2, hf2⟩ := bcell hb
  have hz2 : w.heap.size < w2.heap.size := by have := hb.size; omega
  have hz3 : w.heap.size < w2.heap.size + 1 := by omega
  have hz4 : w.heap.size < w2.heap.size + 1 + 1 := by omega
  have hz5 : w.heap.size < w2.heap.size + 1 + 1 + 1 := by omega
  have HB2 := Lib.hid hb
  clear hb
  go_wp2
  have hB : Below w.heap.size w w2 := (below_new HB.out).trans (HB2.out.mono (Nat.le_of_lt hz))
  refine bodyPost_ret (v := .agg #[.string ⟨#[]⟩, .complex .f64 F G, .string ⟨#[]⟩, .slice none 0 0]) (by simp [results, Tryd.results50, go_sem, hc, hc2, hz, hz2, hz3, hz4, hz5]) rfl ⟨none, by rw [HE.out], aNum_px _ _ _, ((bel4 hB _ _ _ _).alloc (by simp; omega) _).alloc (by simp; omega) _⟩
set_option maxRecDepth 100000 in
set_option maxHeartbeats 3200000 in
theorem expr_3 (kd : Nat) (n : Int) (hk : kd < 256) (h0 : -128 ≤ n) (h1 : n ≤ 127) (hm : (kd : Int) % 16 = 3) (w : World) : Calls Tryd.prog 50 #[.int .u8 (kd : Int), .int .i8 n] w (MkE w (aNum n)) := by
  have hst := store_cx
  obtain ⟨F, G, he, hF⟩ := aNum_form n
  have HE := Lib.hid he
  have HF := Lib.hid hF
  have hkd : (kd : Int) / 16 = ((kd / 16 : Nat) : Int) := by omega
  have hk16 : kd / 16 < 256 := by omega
  clear he hF
  generalize kd / 16 = kq at *
  go_enter Tryd.func50, Tryd.ntmps50
  go_wp2_with fail
  refine (register_any kq hk16 _).mono ?_
  rintro e w1 ⟨rfl, hb⟩
  obtain ⟨hc, hf⟩ := bcell hb
  have hz : w.heap.size < w1.heap.size := by have := hb.size; simp at this; omega
  have HB := Lib.hid hb
  clear hb
  unfold exv opB nxB nyB nmB npB
  simp only
  go_wp2_with fail
  refine (num_any n h0 h1 _).mono ?_
  rintro e w2 ⟨rfl, hb⟩
  rw [HE.out]
  obtain ⟨hc2, hf2⟩ := bcell hb
  have hz2 : w.heap.size < w2.heap.size := by have := hb.size; omega
  have hz3 : w.heap.size < w2.heap.size + 1 := by omega
  have hz4 : w.heap.size < w2.heap.size + 1 + 1 := by omega
  have hz5 : w.heap.size < w2.heap.size + 1 + 1 + 1 := by omega
  have HB2 := Lib.hid hb
  clear hb
  go_wp2
  have hB : Below w.heap.size w w2 := (below_new HB.out).trans (HB2.out.mono (Nat.le_of_lt hz))
  refine bodyPost_ret (v := .agg #[.string ⟨#[]⟩, .complex .f64 F G, .string ⟨#[]⟩, .slice none 0 0]) (by simp [results, Tryd.results50, go_sem, hc, hc2, hz, hz2, hz3, hz4, hz5]) rfl ⟨none, by rw [HE.out], aNum_px _ _ _, ((bel4 hB _ _ _ _).alloc (by simp; omega) _).alloc (by simp; omega) _⟩
set_option maxRecDepth 100000 in
set_option maxHeartbeats 3200000 in
theorem expr_4 (kd : Nat) (n : Int) (hk : kd < 256) (h0 : -128 ≤ n) (h1 : n ≤ 127) (hm : (kd : Int) % 16 = 4) (w : World) : Calls Tryd.prog 50 #[.int .u8 (kd : Int), .int .i8 n] w (MkE w (.reg (aReg (kd / 16)))) := by
  have hst := store_cx
  obtain ⟨F, G, he, hF⟩ := aNum_form n
  have HE := Lib.hid he
  have HF := Lib.hid hF
  have hkd : (kd : Int) / 16 = ((kd / 16 : Nat) : Int) := by omega
  have hk16 : kd / 16 < 256 := by omega
  clear he hF
  generalize kd / 16 = kq at *
  go_enter Tryd.func50, Tryd.ntmps50
  go_wp2_with fail
  refine (register_any kq hk16 _).mono ?_
  rintro e w1 ⟨rfl, hb⟩
  obtain ⟨hc, hf⟩ := bcell hb
  have hz : w.heap.size < w1.heap.size := by have := hb.size; simp at this; omega
  have HB := Lib.hid hb
  clear hb
  unfold exv opB nxB nyB nmB npB
  simp only
  go_wp2_with fail
  refine (num_any n h0 h1 _).mono ?_
  rintro e w2 ⟨rfl, hb⟩
  rw [HE.out]
  obtain ⟨hc2, hf2⟩ := bcell hb
  have hz2 : w.heap.size < w2.heap.size := by have := hb.size; omega
  have hz3 : w.heap.size < w2.heap.size + 1 := by omega
  have hz4 : w.heap.size < w2.heap.size + 1 + 1 := by omega
  have hz5 : w.heap.size < w2.heap.size + 1 + 1 + 1 := by omega
  have HB2 := Lib.hid hb
  clear hb
  go_wp2
  have hB : Below w.heap.size w w2 := (below_new HB.out).trans (HB2.out.mono (Nat.le_of_lt hz))
  obtain ⟨f1, f2, f3, f4, f5⟩ := HF.out
  refine bodyPost_ret (v := exv (.reg (aReg (kq))) none) (by simp [exv, opB, nxB, nyB, nmB, npB, op1, op2, f1, f2, f3, f4, f5, results, Tryd.results50, go_sem, hc, hc2, hz, hz2, hz3, hz4, hz5]) rfl ⟨_, rfl, rfl, ((bel4 hB _ _ _ _).alloc (by simp; omega) _).alloc (by simp; omega) _⟩
set_option maxRecDepth 100000 in
set_option maxHeartbeats 3200000 in
theorem expr_5 (kd : Nat) (n : Int) (hk : kd < 256) (h0 : -128 ≤ n) (h1 : n ≤ 127) (hm : (kd : Int) % 16 = 5) (w : World) : Calls Tryd.prog 50 #[.int .u8 (kd : Int), .int .i8 n] w (MkE w (.reg (aReg (kd / 16)))) := by
  have hst := store_cx
  obtain ⟨F, G, he, hF⟩ := aNum_form n
  have HE := Lib.hid he
  have HF := Lib.hid hF
  have hkd : (kd : Int) / 16 = ((kd / 16 : Nat) : Int) := by omega
  have hk16 : kd / 16 < 256 := by omega
  clear he hF
  generalize kd / 16 = kq at *
  go_enter Tryd.func50, Tryd.ntmps50
  go_wp2_with fail
  refine (register_any kq hk16 _).mono ?_
  rintro e w1 ⟨rfl, hb⟩
  obtain ⟨hc, hf⟩ := bcell hb
  have hz : w.heap.size < w1.heap.size := by have := hb.size; simp at this; omega
  have HB := Lib.hid hb
  clear hb
  unfold exv opB nxB nyB nmB npB
  simp only
  go_wp2_with fail
  refine (num_any n h0 h1 _).mono ?_
  rintro e w2 ⟨rfl, hb⟩
  rw [HE.out]
  obtain ⟨hc2, hf2⟩ := bcell hb
  have hz2 : w.heap.size < w2.heap.size := by have := hb.size; omega
  have hz3 : w.heap.size < w2.heap.size + 1 := by omega
  have hz4 : w.heap.size < w2.heap.size + 1 + 1 := by omega
  have hz5 : w.heap.size < w2.heap.size + 1 + 1 + 1 := by omega
  have HB2 := Lib.hid hb
  clear hb
  go_wp2
  have hB : Below w.heap.size w w2 := (below_new HB.out).trans (HB2.out.mono (Nat.le_of_lt hz))
  obtain ⟨f1, f2, f3, f4, f5⟩ := HF.out
  refine bodyPost_ret (v := exv (.reg (aReg (kq))) none) (by simp [exv, opB, nxB, nyB, nmB, npB, op1, op2, f1, f2, f3, f4, f5, results, Tryd.results50, go_sem, hc, hc2, hz, hz2, hz3, hz4, hz5]) rfl ⟨_, rfl, rfl, ((bel4 hB _ _ _ _).alloc (by simp; omega) _).alloc (by simp; omega) _⟩
set_option maxRecDepth 100000 in
set_option maxHeartbeats 3200000 in
theorem expr_6 (kd : Nat) (n : Int) (hk : kd < 256) (h0 : -128 ≤ n) (h1 : n ≤ 127) (hm : (kd : Int) % 16 = 6) (w : World) : Calls Tryd.prog 50 #[.int .u8 (kd : Int), .int .i8 n] w (MkE w (.two 0 (.reg (aReg (kd / 16))) (aNum n))) := by
  have hst := store_cx
  obtain ⟨F, G, he, hF⟩ := aNum_form n
  have HE := Lib.hid he
  have HF := Lib.hid hF
  have hkd : (kd : Int) / 16 = ((kd / 16 : Nat) : Int) := by omega
  have hk16 : kd / 16 < 256 := by omega
  clear he hF
  generalize kd / 16 = kq at *
  go_enter Tryd.func50, Tryd.ntmps50
  go_wp2_with fail
  refine (register_any kq hk16 _).mono ?_
  rintro e w1 ⟨rfl, hb⟩
  obtain ⟨hc, hf⟩ := bcell hb
  have hz : w.heap.size < w1.heap.size := by have := hb.size; simp at this; omega
  have HB := Lib.hid hb
  clear hb
  unfold exv opB nxB nyB nmB npB
  simp only
  go_wp2_with fail
  refine (num_any n h0 h1 _).mono ?_
  rintro e w2 ⟨rfl, hb⟩
  rw [HE.out]
  obtain ⟨hc2, hf2⟩ := bcell hb
  have hz2 : w.heap.size < w2.heap.size := by have := hb.size; omega
  have hz3 : w.heap.size < w2.heap.size + 1 := by omega
  have hz4 : w.heap.size < w2.heap.size + 1 + 1 := by omega
  have hz5 : w.heap.size < w2.heap.size + 1 + 1 + 1 := by omega
  have HB2 := Lib.hid hb
  clear hb
  go_wp2
  have hB : Below w.heap.size w w2 := (below_new HB.out).trans (HB2.out.mono (Nat.le_of_lt hz))
  obtain ⟨f1, f2, f3, f4, f5⟩ := HF.out
  refine bodyPost_ret (v := exv (.two 0 (.reg (aReg (kq))) (aNum n)) (some ⟨w2.heap.size + 1 + 1, 0, none⟩)) (by simp [exv, opB, nxB, nyB, nmB, npB, op1, op2, f1, f2, f3, f4, f5, results, Tryd.results50, go_sem, hc, hc2, hz, hz2, hz3, hz4, hz5]) rfl ⟨_, rfl, ⟨_, none, none, rfl, ⟨by omega, by simp⟩, ⟨by simp [opB, go_sem], by simp [nxB, nyB, go_sem], by simp [nmB, go_sem], by simp [npB, go_sem]⟩, ⟨by simp [f3, go_sem], by simp [f1, f2, go_sem], by simp [f4, go_sem], by simp [f5, go_sem]⟩, rfl, aNum_px _ _ _⟩, (((bel4 hB _ _ _ _).alloc (by simp; omega) _).alloc (by simp; omega) _).alloc (by simp; omega) _⟩
set_option maxRecDepth 100000 in
set_option maxHeartbeats 3200000 in
theorem expr_7 (kd : Nat) (n : Int) (hk : kd < 256) (h0 : -128 ≤ n) (h1 : n ≤ 127) (hm : (kd : Int) % 16 = 7) (w : World) : Calls Tryd.prog 50 #[.int .u8 (kd : Int), .int .i8 n] w (MkE w (.two 1 (aNum n) (.reg (aReg (kd / 16))))) := by
  have hst := store_cx
  obtain ⟨F, G, he, hF⟩ := aNum_form n
  have HE := Lib.hid he
  have HF := Lib.hid hF
  have hkd : (kd : Int) / 16 = ((kd / 16 : Nat) : Int) := by omega
  have hk16 : kd / 16 < 256 := by omega
  clear he hF
  generalize kd / 16 = kq at *
  go_enter Tryd.func50, Tryd.ntmps50
  go_wp2_with fail
  refine (register_any kq hk16 _).mono ?_
  rintro e w1 ⟨rfl, hb⟩
  obtain ⟨hc, hf⟩ := bcell hb
  have hz : w.heap.size < w1.heap.size := by have := hb.size; simp at this; omega
  have HB := Lib.hid hb
  clear hb
  unfold exv opB nxB nyB nmB npB
  simp only
  go_wp2_with fail
  refine (num_any n h0 h1 _).mono ?_
  rintro e w2 ⟨rfl, hb⟩
  rw [HE.out]
  obtain ⟨hc2, hf2⟩ := bcell hb
  have hz2 : w.heap.size < w2.heap.size := by have := hb.size; omega
  have hz3 : w.heap.size < w2.heap.size + 1 := by omega
  have hz4 : w.heap.size < w2.heap.size + 1 + 1 := by omega
  have hz5 : w.heap.size < w2.heap.size + 1 + 1 + 1 := by omega
  have HB2 := Lib.hid hb
  clear hb
  go_wp2
  have hB : Below w.heap.size w w2 := (below_new HB.out).trans (HB2.out.mono (Nat.le_of_lt hz))
  obtain ⟨f1, f2, f3, f4, f5⟩ := HF.out
  refine bodyPost_ret (v := exv (.two 1 (aNum n) (.reg (aReg (kq)))) (some ⟨w2.heap.size + 1 + 1, 0, none⟩)) (by simp [exv, opB, nxB, nyB, nmB, npB, op1, op2, f1, f2, f3, f4, f5, results, Tryd.results50, go_sem, hc, hc2, hz, hz2, hz3, hz4, hz5]) rfl ⟨_, rfl, ⟨_, none, none, rfl, ⟨by omega, by simp⟩, ⟨by simp [f3, go_sem], by simp [f1, f2, go_sem], by simp [f4, go_sem], by simp [f5, go_sem]⟩, ⟨by simp [opB, go_sem], by simp [nxB, nyB, go_sem], by simp [nmB, go_sem], by simp [npB, go_sem]⟩, aNum_px _ _ _, rfl⟩, (((bel4 hB _ _ _ _).alloc (by simp; omega) _).alloc (by simp; omega) _).alloc (by simp; omega) _⟩
set_option maxRecDepth 100000 in
set_option maxHeartbeats 3200000 in
theorem expr_8 (kd : Nat) (n : Int) (hk : kd < 256) (h0 : -128 ≤ n) (h1 : n ≤ 127) (hm : (kd : Int) % 16 = 8) (w : World) : Calls Tryd.prog 50 #[.int .u8 (kd : Int), .int .i8 n] w (MkE w (.two 2 (.reg (aReg (kd / 16))) (aNum n))) := by
  have hst := store_cx
  obtain ⟨F, G, he, hF⟩ := aNum_form n
  have HE := Lib.hid he
  have HF := Lib.hid hF
  have hkd : (kd : Int) / 16 = ((kd / 16 : Nat) : Int) := by omega
  have hk16 : kd / 16 < 256 := by omega
  clear he hF
  generalize kd / 16 = kq at *
  go_enter Tryd.func50, Tryd.ntmps50
  go_wp2_with fail
  refine (register_any kq hk16 _).mono ?_
  rintro e w1 ⟨rfl, hb⟩
  obtain ⟨hc, hf⟩ := bcell hb
  have hz : w.heap.size < w1.heap.size := by have := hb.size; simp at this; omega
  have HB := Lib.hid hb
  clear hb
  unfold exv opB nxB nyB nmB npB
  simp only
  go_wp2_with fail
  refine (num_any n h0 h1 _).mono ?_
  rintro e w2 ⟨rfl, hb⟩
  rw [HE.out]
  obtain ⟨hc2, hf2⟩ := bcell hb
  have hz2 : w.heap.size < w2.heap.size := by have := hb.size; omega
  have hz3 : w.heap.size < w2.heap.size + 1 := by omega
  have hz4 : w.heap.size < w2.heap.size + 1 + 1 := by omega
  have hz5 : w.heap.size < w2.heap.size + 1 + 1 + 1 := by omega
  have HB2 := Lib.hid hb
  clear hb
  go_wp2
  have hB : Below w.heap.size w w2 := (below_new HB.out).trans (HB2.out.mono (Nat.le_of_lt hz))
  obtain ⟨f1, f2, f3, f4, f5⟩ := HF.out
  refine bodyPost_ret (v := exv (.two 2 (.reg (aReg (kq))) (aNum n)) (some ⟨w2.heap.size + 1 + 1, 0, none⟩)) (by simp [exv, opB, nxB, nyB, nmB, npB, op1, op2, f1, f2, f3, f4, f5, results, Tryd.results50, go_sem, hc, hc2, hz, hz2, hz3, hz4, hz5]) rfl ⟨_, rfl, ⟨_, none, none, rfl, ⟨by omega, by simp⟩, ⟨by simp [opB, go_sem], by simp [nxB, nyB, go_sem], by simp [nmB, go_sem], by simp [npB, go_sem]⟩, ⟨by simp [f3, go_sem], by simp [f1, f2, go_sem], by simp [f4, go_sem], by simp [f5, go_sem]⟩, rfl, aNum_px _ _ _⟩, (((bel4 hB _ _ _ _).alloc (by simp; omega) _).alloc (by simp; omega) _).alloc (by simp; omega) _⟩
set_option maxRecDepth 100000 in
set_option maxHeartbeats 3200000 in
theorem expr_9 (kd : Nat) (n : Int) (hk : kd < 256) (h0 : -128 ≤ n) (h1 : n ≤ 127) (hm : (kd : Int) % 16 = 9) (w : World) : Calls Tryd.prog 50 #[.int .u8 (kd : Int), .int .i8 n] w (MkE w (.two 3 (.reg (aReg (kd / 16))) (aNum n))) := by
  have hst := store_cx
  obtain ⟨F, G, he, hF⟩ := aNum_form n
  have HE := Lib.hid he
  have HF := Lib.hid hF
  have hkd : (kd : Int) / 16 = ((kd / 16 : Nat) : Int) := by omega
  have hk16 : kd / 16 < 256 := by omega
  clear he hF
  generalize kd / 16 = kq at *
  go_enter Tryd.func50, Tryd.ntmps50
  go_wp2_with fail
  refine (register_any kq hk16 _).mono ?_
  rintro e w1 ⟨rfl, hb⟩
  obtain ⟨hc, hf⟩ := bcell hb
  have hz : w.heap.size < w1.heap.size := by have := hb.size; simp at this; omega
  have HB := Lib.hid hb
  clear hb
  unfold exv opB nxB nyB nmB npB
  simp only
  go_wp2_with fail
  refine (num_any n h0 h1 _).mono ?_
  rintro e w2 ⟨rfl, hb⟩
  rw [HE.out]
  obtain ⟨hc2, hf2⟩ := bcell hb
  have hz2 : w.heap.size < w2.heap.size := by have := hb.size; omega
  have hz3 : w.heap.size < w2.heap.size + 1 := by omega
  have hz4 : w.heap.size < w2.heap.size + 1 + 1 := by omega
  have hz5 : w.heap.size < w2.heap.size + 1 + 1 + 1 := by omega
  have HB2 := Lib.hid hb
  clear hb
  go_wp2
  have hB : Below w.heap.size w w2 := (below_new HB.out).trans (HB2.out.mono (Nat.le_of_lt hz))
  obtain ⟨f1, f2, f3, f4, f5⟩ := HF.out
  refine bodyPost_ret (v := exv (.two 3 (.reg (aReg (kq))) (aNum n)) (some ⟨w2.heap.size + 1 + 1, 0, none⟩)) (by simp [exv, opB, nxB, nyB, nmB, npB, op1, op2, f1, f2, f3, f4, f5, results, Tryd.results50, go_sem, hc, hc2, hz, hz2, hz3, hz4, hz5]) rfl ⟨_, rfl, ⟨_, none, none, rfl, ⟨by omega, by simp⟩, ⟨by simp [opB, go_sem], by simp [nxB, nyB, go_sem], by simp [nmB, go_sem], by simp [npB, go_sem]⟩, ⟨by simp [f3, go_sem], by simp [f1, f2, go_sem], by simp [f4, go_sem], by simp [f5, go_sem]⟩, rfl, aNum_px _ _ _⟩, (((bel4 hB _ _ _ _).alloc (by simp; omega) _).alloc (by simp; omega) _).alloc (by simp; omega) _⟩
set_option maxRecDepth 100000 in
set_option maxHeartbeats 3200000 in
theorem expr_10 (kd : Nat) (n : Int) (hk : kd < 256) (h0 : -128 ≤ n) (h1 : n ≤ 127) (hm : (kd : Int) % 16 = 10) (w : World) : Calls Tryd.prog 50 #[.int .u8 (kd : Int), .int .i8 n] w (MkE w (.two 4 (.reg (aReg (kd / 16))) (aNum n))) := by
  have hst := store_cx
  obtain ⟨F, G, he, hF⟩ := aNum_form n
  have HE := Lib.hid he
  have HF := Lib.hid hF
  have hkd : (kd : Int) / 16 = ((kd / 16 : Nat) : Int) := by omega
  have hk16 : kd / 16 < 256 := by omega
  clear he hF
  generalize kd / 16 = kq at *
  go_enter Tryd.func50, Tryd.ntmps50
  go_wp2_with fail
  refine (register_any kq hk16 _).mono ?_
  rintro e w1 ⟨rfl, hb⟩
  obtain ⟨hc, hf⟩ := bcell hb
  have hz : w.heap.size < w1.heap.size := by have := hb.size; simp at this; omega
  have HB := Lib.hid hb
  clear hb
  unfold exv opB nxB nyB nmB npB
  simp only
  go_wp2_with fail
  refine (num_any n h0 h1 _).mono ?_
  rintro e w2 ⟨rfl, hb⟩
  rw [HE.out]
  obtain ⟨hc2, hf2⟩ := bcell hb
  have hz2 : w.heap.size < w2.heap.size := by have := hb.size; omega
  have hz3 : w.heap.size < w2.heap.size + 1 := by omega
  have hz4 : w.heap.size < w2.heap.size + 1 + 1 := by omega
  have hz5 : w.heap.size < w2.heap.size + 1 + 1 + 1 := by omega
  have HB2 := Lib.hid hb
  clear hb
  go_wp2
  have hB : Below w.heap.size w w2 := (below_new HB.out).trans (HB2.out.mono (Nat.le_of_lt hz))
  obtain ⟨f1, f2, f3, f4, f5⟩ := HF.out
  refine bodyPost_ret (v := exv (.two 4 (.reg (aReg (kq))) (aNum n)) (some ⟨w2.heap.size + 1 + 1, 0, none⟩)) (by simp [exv, opB, nxB, nyB, nmB, npB, op1, op2, f1, f2, f3, f4, f5, results, Tryd.results50, go_sem, hc, hc2, hz, hz2, hz3, hz4, hz5]) rfl ⟨_, rfl, ⟨_, none, none, rfl, ⟨by omega, by simp⟩, ⟨by simp [opB, go_sem], by simp [nxB, nyB, go_sem], by simp [nmB, go_sem], by simp [npB, go_sem]⟩, ⟨by simp [f3, go_sem], by simp [f1, f2, go_sem], by simp [f4, go_sem], by simp [f5, go_sem]⟩, rfl, aNum_px _ _ _⟩, (((bel4 hB _ _ _ _).alloc (by simp; omega) _).alloc (by simp; omega) _).alloc (by simp; omega) _⟩
set_option maxRecDepth 100000 in
set_option maxHeartbeats 3200000 in
theorem expr_11 (kd : Nat) (n : Int) (hk : kd < 256) (h0 : -128 ≤ n) (h1 : n ≤ 127) (hm : (kd : Int) % 16 = 11) (w : World) : Calls Tryd.prog 50 #[.int .u8 (kd : Int), .int .i8 n] w (MkE w (.two 5 (.reg (aReg (kd / 16))) (aNum n))) := by
  have hst := store_cx
  obtain ⟨F, G, he, hF⟩ := aNum_form n
  have HE := Lib.hid he
  have HF := Lib.hid hF
  have hkd : (kd : Int) / 16 = ((kd / 16 : Nat) : Int) := by omega
  have hk16 : kd / 16 < 256 := by omega
  clear he hF
  generalize kd / 16 = kq at *
  go_enter Tryd.func50, Tryd.ntmps50
  go_wp2_with fail
  refine (register_any kq hk16 _).mono ?_
  rintro e w1 ⟨rfl, hb⟩
  obtain ⟨hc, hf⟩ := bcell hb
  have hz : w.heap.size < w1.heap.size := by have := hb.size; simp at this; omega
  have HB := Lib.hid hb
  clear hb
  unfold exv opB nxB nyB nmB npB
  simp only
  go_wp2_with fail
  refine (num_any n h0 h1 _).mono ?_
  rintro e w2 ⟨rfl, hb⟩
  rw [HE.out]
  obtain ⟨hc2, hf2⟩ := bcell hb
  have hz2 : w.heap.size < w2.heap.size := by have := hb.size; omega
  have hz3 : w.heap.size < w2.heap.size + 1 := by omega
  have hz4 : w.heap.size < w2.heap.size + 1 + 1 := by omega
  have hz5 : w.heap.size < w2.heap.size + 1 + 1 + 1 := by omega
  have HB2 := Lib.hid hb
  clear hb
  go_wp2
  have hB : Below w.heap.size w w2 := (below_new HB.out).trans (HB2.out.mono (Nat.le_of_lt hz))
  obtain ⟨f1, f2, f3, f4, f5⟩ := HF.out
  refine bodyPost_ret (v := exv (.two 5 (.reg (aReg (kq))) (aNum n)) (some ⟨w2.heap.size + 1 + 1, 0, none⟩)) (by simp [exv, opB, nxB, nyB, nmB, npB, op1, op2, f1, f2, f3, f4, f5, results, Tryd.results50, go_sem, hc, hc2, hz, hz2, hz3, hz4, hz5]) rfl ⟨_, rfl, ⟨_, none, none, rfl, ⟨by omega, by simp⟩, ⟨by simp [opB, go_sem], by simp [nxB, nyB, go_sem], by simp [nmB, go_sem], by simp [npB, go_sem]⟩, ⟨by simp [f3, go_sem], by simp [f1, f2, go_sem], by simp [f4, go_sem], by simp [f5, go_sem]⟩, rfl, aNum_px _ _ _⟩, (((bel4 hB _ _ _ _).alloc (by simp; omega) _).alloc (by simp; omega) _).alloc (by simp; omega) _⟩
set_option maxRecDepth 100000 in
set_option maxHeartbeats 3200000 in
theorem expr_12 (kd : Nat) (n : Int) (hk : kd < 256) (h0 : -128 ≤ n) (h1 : n ≤ 127) (hm : (kd : Int) % 16 = 12) (w : World) : Calls Tryd.prog 50 #[.int .u8 (kd : Int), .int .i8 n] w (MkE w (.one 0 (.two 0 (.reg (aReg (kd / 16))) (aNum n)))) := by
  have hst := store_cx
  obtain ⟨F, G, he, hF⟩ := aNum_form n
  have HE := Lib.hid he
  have HF := Lib.hid hF
  have hkd : (kd : Int) / 16 = ((kd / 16 : Nat) : Int) := by omega
  have hk16 : kd / 16 < 256 := by omega
  clear he hF
  generalize kd / 16 = kq at *
  go_enter Tryd.func50, Tryd.ntmps50
  go_wp2_with fail
  refine (register_any kq hk16 _).mono ?_
  rintro e w1 ⟨rfl, hb⟩
  obtain ⟨hc, hf⟩ := bcell hb
  have hz : w.heap.size < w1.heap.size := by have := hb.size; simp at this; omega
  have HB := Lib.hid hb
  clear hb
  unfold exv opB nxB nyB nmB npB
  simp only
  go_wp2_with fail
  refine (num_any n h0 h1 _).mono ?_
  rintro e w2 ⟨rfl, hb⟩
  rw [HE.out]
  obtain ⟨hc2, hf2⟩ := bcell hb
  have hz2 : w.heap.size < w2.heap.size := by have := hb.size; omega
  have hz3 : w.heap.size < w2.heap.size + 1 := by omega
  have hz4 : w.heap.size < w2.heap.size + 1 + 1 := by omega
  have hz5 : w.heap.size < w2.heap.size + 1 + 1 + 1 := by omega
  have HB2 := Lib.hid hb
  clear hb
  go_wp2
  have hB : Below w.heap.size w w2 := (below_new HB.out).trans (HB2.out.mono (Nat.le_of_lt hz))
  obtain ⟨f1, f2, f3, f4, f5⟩ := HF.out
  refine bodyPost_ret (v := exv (.one 0 (.two 0 (.reg (aReg (kq))) (aNum n))) (some ⟨w2.heap.size + 1 + 1 + 1, 0, none⟩)) (by simp [exv, opB, nxB, nyB, nmB, npB, op1, op2, f1, f2, f3, f4, f5, results, Tryd.results50, go_sem, hc, hc2, hz, hz2, hz3, hz4, hz5]) rfl ⟨_, rfl, ⟨_, some ⟨w2.heap.size + 1 + 1, 0, none⟩, rfl, ⟨by omega, by simp⟩, ⟨by simp [opB, op2, go_sem], by simp [nxB, nyB, go_sem], by simp [nmB, go_sem], by simp [npB, go_sem]⟩, ⟨_, none, none, rfl, ⟨by omega, by simp⟩, ⟨by simp [opB, go_sem], by simp [nxB, nyB, go_sem], by simp [nmB, go_sem], by simp [npB, go_sem]⟩, ⟨by simp [f3, go_sem], by simp [f1, f2, go_sem], by simp [f4, go_sem], by simp [f5, go_sem]⟩, rfl, aNum_px _ _ _⟩⟩, ((((bel4 hB _ _ _ _).alloc (by simp; omega) _).alloc (by simp; omega) _).alloc (by simp; omega) _).alloc (by simp; omega) _⟩
set_option maxRecDepth 100000 in
set_option maxHeartbeats 3200000 in
theorem expr_13 (kd : Nat) (n : Int) (hk : kd < 256) (h0 : -128 ≤ n) (h1 : n ≤ 127) (hm : (kd : Int) % 16 = 13) (w : World) : Calls Tryd.prog 50 #[.int .u8 (kd : Int), .int .i8 n] w (MkE w (.one 1 (.reg (aReg (kd / 16))))) := by
  have hst := store_cx
  obtain ⟨F, G, he, hF⟩ := aNum_form n
  have HE := Lib.hid he
  have HF := Lib.hid hF
  have hkd : (kd : Int) / 16 = ((kd / 16 : Nat) : Int) := by omega
  have hk16 : kd / 16 < 256 := by omega
  clear he hF
  generalize kd / 16 = kq at *
  go_enter Tryd.func50, Tryd.ntmps50
  go_wp2_with fail
  refine (register_any kq hk16 _).mono ?_
  rintro e w1 ⟨rfl, hb⟩
  obtain ⟨hc, hf⟩ := bcell hb
  have hz : w.heap.size < w1.heap.size := by have := hb.size; simp at this; omega
  have HB := Lib.hid hb
  clear hb
  unfold exv opB nxB nyB nmB npB
  simp only
  go_wp2_with fail
  refine (num_any n h0 h1 _).mono ?_
  rintro e w2 ⟨rfl, hb⟩
  rw [HE.out]
  obtain ⟨hc2, hf2⟩ := bcell hb
  have hz2 : w.heap.size < w2.heap.size := by have := hb.size; omega
  have hz3 : w.heap.size < w2.heap.size + 1 := by omega
  have hz4 : w.heap.size < w2.heap.size + 1 + 1 := by omega
  have hz5 : w.heap.size < w2.heap.size + 1 + 1 + 1 := by omega
  have HB2 := Lib.hid hb
  clear hb
  go_wp2
  have hB : Below w.heap.size w w2 := (below_new HB.out).trans (HB2.out.mono (Nat.le_of_lt hz))
  obtain ⟨f1, f2, f3, f4, f5⟩ := HF.out
  refine bodyPost_ret (v := exv (.one 1 (.reg (aReg (kq)))) (some ⟨w2.heap.size + 1 + 1, 0, none⟩)) (by simp [exv, opB, nxB, nyB, nmB, npB, op1, op2, f1, f2, f3, f4, f5, results, Tryd.results50, go_sem, hc, hc2, hz, hz2, hz3, hz4, hz5]) rfl ⟨_, rfl, ⟨_, none, rfl, ⟨by omega, by simp⟩, ⟨by simp [opB, go_sem], by simp [nxB, nyB, go_sem], by simp [nmB, go_sem], by simp [npB, go_sem]⟩, rfl⟩, (((bel4 hB _ _ _ _).alloc (by simp; omega) _).alloc (by simp; omega) _).alloc (by simp; omega) _⟩
set_option maxRecDepth 100000 in
set_option maxHeartbeats 3200000 in
theorem expr_14 (kd : Nat) (n : Int) (hk : kd < 256) (h0 : -128 ≤ n) (h1 : n ≤ 127) (hm : (kd : Int) % 16 = 14) (w : World) : Calls Tryd.prog 50 #[.int .u8 (kd : Int), .int .i8 n] w (MkE w (.one 2 (.reg (aReg (kd / 16))))) := by
  have hst := store_cx
  obtain ⟨F, G, he, hF⟩ := aNum_form n
  have HE := Lib.hid he
  have HF := Lib.hid hF
  have hkd : (kd : Int) / 16 = ((kd / 16 : Nat) : Int) := by omega
  have hk16 : kd / 16 < 256 := by omega
  clear he hF
  generalize kd / 16 = kq at *
  go_enter Tryd.func50, Tryd.ntmps50
  go_wp2_with fail
  refine (register_any kq hk16 _).mono ?_
  rintro e w1 ⟨rfl, hb⟩
  obtain ⟨hc, hf⟩ := bcell hb
  have hz : w.heap.size < w1.heap.size := by have := hb.size; simp at this; omega
  have HB := Lib.hid hb
  clear hb
  unfold exv opB nxB nyB nmB npB
  simp only
  go_wp2_with fail
  refine (num_any n h0 h1 _).mono ?_
  rintro e w2 ⟨rfl, hb⟩
  rw [HE.out]
  obtain ⟨hc2, hf2⟩ := bcell hb
  have hz2 : w.heap.size < w2.heap.size := by have := hb.size; omega
  have hz3 : w.heap.size < w2.heap.size + 1 := by omega
  have hz4 : w.heap.size < w2.heap.size + 1 + 1 := by omega
  have hz5 : w.heap.size < w2.heap.size + 1 + 1 + 1 := by omega
  have HB2 := Lib.hid hb
  clear hb
  go_wp2
  have hB : Below w.heap.size w w2 := (below_new HB.out).trans (HB2.out.mono (Nat.le_of_lt hz))
  obtain ⟨f1, f2, f3, f4, f5⟩ := HF.out
  refine bodyPost_ret (v := exv (.one 2 (.reg (aReg (kq)))) (some ⟨w2.heap.size + 1 + 1, 0, none⟩)) (by simp [exv, opB, nxB, nyB, nmB, npB, op1, op2, f1, f2, f3, f4, f5, results, Tryd.results50, go_sem, hc, hc2, hz, hz2, hz3, hz4, hz5]) rfl ⟨_, rfl, ⟨_, none, rfl, ⟨by omega, by simp⟩, ⟨by simp [opB, go_sem], by simp [nxB, nyB, go_sem], by simp [nmB, go_sem], by simp [npB, go_sem]⟩, rfl⟩, (((bel4 hB _ _ _ _).alloc (by simp; omega) _).alloc (by simp; omega) _).alloc (by simp; omega) _⟩
set_option maxRecDepth 100000 in
set_option maxHeartbeats 3200000 in
theorem expr_15 (kd : Nat) (n : Int) (hk : kd < 256) (h0 : -128 ≤ n) (h1 : n ≤ 127) (hm : (kd : Int) % 16 = 15) (w : World) : Calls Tryd.prog 50 #[.int .u8 (kd : Int), .int .i8 n] w (MkE w (.one 3 (.two 2 (.reg (aReg (kd / 16))) (.reg (aReg (kd / 16)))))) := by
  have hst := store_cx
  obtain ⟨F, G, he, hF⟩ := aNum_form n
  have HE := Lib.hid he
  have HF := Lib.hid hF
  have hkd : (kd : Int) / 16 = ((kd / 16 : Nat) : Int) := by omega
  have hk16 : kd / 16 < 256 := by omega
  clear he hF
  generalize kd / 16 = kq at *
  go_enter Tryd.func50, Tryd.ntmps50
  go_wp2_with fail
  refine (register_any kq hk16 _).mono ?_
  rintro e w1 ⟨rfl, hb⟩
  obtain ⟨hc, hf⟩ := bcell hb
  have hz : w.heap.size < w1.heap.size := by have := hb.size; simp at this; omega
  have HB := Lib.hid hb
  clear hb
  unfold exv opB nxB nyB nmB npB
  simp only
  go_wp2_with fail
  refine (num_any n h0 h1 _).mono ?_
  rintro e w2 ⟨rfl, hb⟩
  rw [HE.out]
  obtain ⟨hc2, hf2⟩ := bcell hb
  have hz2 : w.heap.size < w2.heap.size := by have := hb.size; omega
  have hz3 : w.heap.size < w2.heap.size + 1 := by omega
  have hz4 : w.heap.size < w2.heap.size + 1 + 1 := by omega
  have hz5 : w.heap.size < w2.heap.size + 1 + 1 + 1 := by omega
  have HB2 := Lib.hid hb
  clear hb
  go_wp2
  have hB : Below w.heap.size w w2 := (below_new HB.out).trans (HB2.out.mono (Nat.le_of_lt hz))
  obtain ⟨f1, f2, f3, f4, f5⟩ := HF.out
  refine bodyPost_ret (v := exv (.one 3 (.two 2 (.reg (aReg (kq))) (.reg (aReg (kq))))) (some ⟨w2.heap.size + 1 + 1 + 1, 0, none⟩)) (by simp [exv, opB, nxB, nyB, nmB, npB, op1, op2, f1, f2, f3, f4, f5, results, Tryd.results50, go_sem, hc, hc2, hz, hz2, hz3, hz4, hz5]) rfl ⟨_, rfl, ⟨_, some ⟨w2.heap.size + 1 + 1, 0, none⟩, rfl, ⟨by omega, by simp⟩, ⟨by simp [opB, op2, go_sem], by simp [nxB, nyB, go_sem], by simp [nmB, go_sem], by simp [npB, go_sem]⟩, ⟨_, none, none, rfl, ⟨by omega, by simp⟩, ⟨by simp [opB, go_sem], by simp [nxB, nyB, go_sem], by simp [nmB, go_sem], by simp [npB, go_sem]⟩, ⟨by simp [opB, go_sem], by simp [nxB, nyB, go_sem], by simp [nmB, go_sem], by simp [npB, go_sem]⟩, rfl, rfl⟩⟩, ((((bel4 hB _ _ _ _).alloc (by simp; omega) _).alloc (by simp; omega) _).alloc (by simp; omega) _).alloc (by simp; omega) _⟩
theorem expr_any (kd : Nat) (n : Int) (hk : kd < 256) (h0 : -128 ≤ n) (h1 : n ≤ 127) (w : World) : Calls Tryd.prog 50 #[.int .u8 (kd : Int), .int .i8 n] w (MkE w (aExpr kd n)) := by
  have hlt : kd % 16 < 16 := Nat.mod_lt _ (by omega)
  unfold aExpr
  generalize hm : kd % 16 = m at *
  have h : m = 0 ∨ m = 1 ∨ m = 2 ∨ m = 3 ∨ m = 4 ∨ m = 5 ∨ m = 6 ∨ m = 7 ∨ m = 8 ∨ m = 9 ∨ m = 10 ∨ m = 11 ∨ m = 12 ∨ m = 13 ∨ m = 14 ∨ m = 15 := by omega
  rcases h with rfl | rfl | rfl | rfl | rfl | rfl | rfl | rfl | rfl | rfl | rfl | rfl | rfl | rfl | rfl | rfl
  · exact expr_0 kd n hk h0 h1 (by omega) w
  · exact expr_1 kd n hk h0 h1 (by omega) w
  · exact expr_2 kd n hk h0 h1 (by omega) w
  · exact expr_3 kd n hk h0 h1 (by omega) w
  · exact expr_4 kd n hk h0 h1 (by omega) w
  · exact expr_5 kd n hk h0 h1 (by omega) w
  · exact expr_6 kd n hk h0 h1 (by omega) w
  · exact expr_7 kd n hk h0 h1 (by omega) w
  · exact expr_8 kd n hk h0 h1 (by omega) w
  · exact expr_9 kd n hk h0 h1 (by omega) w
  · exact expr_10 kd n hk h0 h1 (by omega) w
  · exact expr_11 kd n hk h0 h1 (by omega) w
  · exact expr_12 kd n hk h0 h1 (by omega) w
  · exact expr_13 kd n hk h0 h1 (by omega) w
  · exact expr_14 kd n hk h0 h1 (by omega) w
  · exact expr_15 kd n hk h0 h1 (by omega) w
end Go.Proofs.YtmomdcnlhljhcaaDoor
