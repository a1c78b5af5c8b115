/- The law's small makers: registers' names, registers, numbers, names by a number, how many there are. -/
import Derived.Test.YtmomdcnlhljhcaaDoorTm
set_option linter.unusedSimpArgs false
set_option linter.unusedVariables false
namespace Go.Proofs.YtmomdcnlhljhcaaDoor
open Go.RowKit Ieee

theorem areg_cases (r : Nat) : (r % 3 = 0 ∧ aReg r = 97) ∨ (r % 3 = 1 ∧ aReg r = 98) ∨ (r % 3 = 2 ∧ aReg r = 99) := by
  have h : r % 3 < 3 := Nat.mod_lt _ (by omega)
  unfold aReg
  generalize r % 3 = m at *
  match m, h with
  | 0, _ => exact .inl ⟨rfl, by decide⟩
  | 1, _ => exact .inr (.inl ⟨rfl, by decide⟩)
  | 2, _ => exact .inr (.inr ⟨rfl, by decide⟩)

set_option maxRecDepth 100000 in
theorem reg_any (n : Nat) (hn : n < 256) (w : World) : Calls Tryd.prog 32 #[.int .u8 (n : Int)] w fun e w' => e = .returned (.string ⟨#[aReg n]⟩) ∧ Below w.heap.size w w' := by
  have hx : ∃ m : Nat, n % 3 = m ∧ m < 3 ∧ (n : Int) % 3 = (m : Int) := ⟨n % 3, rfl, Nat.mod_lt _ (by omega), by omega⟩
  obtain ⟨m, h, hm, hi⟩ := hx
  rcases areg_cases n with ⟨h', ha⟩ | ⟨h', ha⟩ | ⟨h', ha⟩
  all_goals
    rw [ha]
    rw [h] at h'
    subst h'
    clear ha h
    go_enter Tryd.func32, Tryd.ntmps32
    go_wp2
    go_ret
    exact ⟨rfl, (Below.refl _ _).alloc (Nat.le_refl _) _⟩
theorem bcell {W w1 : World} (hb : Below W.heap.size W w1) : (∀ b o, b < W.heap.size → w1.cell? ⟨b, o, none⟩ = W.cell? ⟨b, o, none⟩) ∧ (∀ b o, b < W.heap.size → w1.frozen? ⟨b, o, none⟩ = W.frozen? ⟨b, o, none⟩) :=
  ⟨fun b o h => hb.cell (p := ⟨b, o, none⟩) h, fun b o h => hb.frozen (p := ⟨b, o, none⟩) h⟩
theorem below_alloc (w : World) (o : Obj) : Below w.heap.size w (w.alloc o) := (Below.refl _ _).alloc (Nat.le_refl _) o
theorem below_new {w w1 : World} {o : Obj} (h : Below (w.alloc o).heap.size (w.alloc o) w1) : Below w.heap.size w w1 := ((Below.refl _ _).alloc (Nat.le_refl _) _).trans (h.mono (by simp))
/-- A complex number stored: as any other value of one cell. -/
theorem store_cx (w : World) (a : Addr) (x y : Nat) (m : Mode) : (store a (.complex .f64 x y) m).run Tryd.prog w = stored Tryd.prog w a (.complex .f64 x y) m := run_store _ _ _ _ _ rfl

set_option maxRecDepth 100000 in
theorem register_any (n : Nat) (hn : n < 256) (w : World) : Calls Tryd.prog 18 #[.int .u8 (n : Int)] w fun e w' => e = .returned (exv (.reg (aReg n)) none) ∧ Below w.heap.size w w' := by
  have hst := store_cx
  unfold exv opB nxB nyB nmB npB
  go_enter Tryd.func18, Tryd.ntmps18
  go_wp2_with fail
  refine (reg_any n hn _).mono ?_
  rintro e w1 ⟨rfl, hb⟩
  obtain ⟨hc, hf⟩ := bcell hb
  have HB := Lib.hid hb
  have hz : w.heap.size < w1.heap.size := by have := hb.size; simp at this; omega
  clear hb
  go_wp2
  refine bodyPost_ret (v := .agg #[.string ⟨#[114, 101, 103]⟩, .complex .f64 0 0, .string ⟨#[aReg n]⟩, .slice none 0 0]) (by simp [results, Tryd.results18, go_sem, hc, hz]) rfl ⟨rfl, ?_⟩
  exact (((((below_new HB.out)).setCell (Nat.le_refl _) _).setCell (Nat.le_refl _) _).setCell (Nat.le_refl _) _).setCell (Nat.le_refl _) _
theorem fl_one : fl false 1 = 4607182418800017408 := by decide +kernel
theorem add_one {m : Int} (h0 : 0 ≤ m) (h1 : m ≤ 100) : floatBits .add .f64 (floatOfInt .f64 m) 4607182418800017408 = some (fl false (m + 1)) := by
  rw [floatOfInt_fl, ← fl_one, add_fl false false (by unfold Sm; omega) (by unfold Sm; omega) (by unfold Sm; omega)]
  have : sg false m = false := by unfold sg; split <;> simp; omega
  rw [this, Bool.false_and]
set_option maxRecDepth 100000 in
theorem num_any (n : Int) (h0 : -128 ≤ n) (h1 : n ≤ 127) (w : World) : Calls Tryd.prog 19 #[.int .i8 n] w fun e w' => e = .returned (exv (aNum n) none) ∧ Below w.heap.size w w' := by
  have hst := store_cx
  obtain ⟨m, hm, hm0, hm1⟩ : ∃ m : Nat, (n % 16).toNat = m ∧ (n % 16 = (m : Int)) ∧ m < 16 := ⟨(n % 16).toNat, rfl, by omega, by omega⟩
  have hfa := fun t w => run_float_arith (P := Tryd.prog) w .add t .f64 _ _ _ (add_one (m := (m : Int)) (by omega) (by omega))
  rw [floatOfInt_fl] at hfa
  have hof := floatOfInt_fl (m : Int)
  have e0 : fl false ((0 : Nat) : Int) = 0 := by decide
  by_cases hn : n < 0
  · unfold exv opB nxB nyB nmB npB aNum
    rw [if_pos hn, hm]
    clear hm
    simp only [e0]
    have e1 : ((m + 1 : Nat) : Int) = (m : Int) + 1 := by omega
    rw [e1]
    generalize fl false ((m : Int) + 1) = F at *
    generalize fl false (m : Int) = G at *
    clear e0 e1
    go_enter Tryd.func19, Tryd.ntmps19
    go_wp2
    refine bodyPost_ret (v := .agg #[.string ⟨#[]⟩, .complex .f64 0 F, .string ⟨#[]⟩, .slice none 0 0]) (by simp [results, Tryd.results19, go_sem]) rfl ⟨rfl, ?_⟩
    exact below_alloc w _
  · unfold exv opB nxB nyB nmB npB aNum
    rw [if_neg hn, hm]
    clear hm
    simp only [e0]
    generalize fl false ((m : Int) + 1) = F at *
    generalize fl false (m : Int) = G at *
    clear e0
    go_enter Tryd.func19, Tryd.ntmps19
    go_wp2
    refine bodyPost_ret (v := .agg #[.string ⟨#[]⟩, .complex .f64 G 0, .string ⟨#[]⟩, .slice none 0 0]) (by simp [results, Tryd.results19, go_sem]) rfl ⟨rfl, ?_⟩
    exact below_alloc w _
theorem enc_digit (k : Nat) (h : k < 10) : Utf8.encode (48 + (k : Int)) = ⟨#[UInt8.ofNat (48 + k)]⟩ := by
  match k, h with
  | 0, _ => rfl
  | 1, _ => rfl
  | 2, _ => rfl
  | 3, _ => rfl
  | 4, _ => rfl
  | 5, _ => rfl
  | 6, _ => rfl
  | 7, _ => rfl
  | 8, _ => rfl
  | 9, _ => rfl
set_option maxRecDepth 100000 in
theorem letter_any (f : UInt8) (n m : Nat) (hn : n < 256) (h0 : 0 < m) (hm : m ≤ 10) (w : World) : Calls Tryd.prog 26 #[.string ⟨#[f]⟩, .int .u8 (n : Int), .int .u8 (m : Int)] w fun e w' => e = .returned (.string ⟨(lett f n m).toArray⟩) ∧ w = w' := by
  have hk : ∃ k : Nat, n % m = k ∧ k < 10 := ⟨n % m, rfl, by have := Nat.mod_lt n h0; omega⟩
  obtain ⟨k, hk, hk1⟩ := hk
  unfold lett
  rw [hk]
  have hne : ((m : Int) == 0) = false := by simp; omega
  have hki : (n : Int).tmod (m : Int) = (k : Int) := by rw [Int.tmod_eq_emod_of_nonneg (by omega)]; omega
  have he := enc_digit k hk1
  generalize UInt8.ofNat (48 + k) = D at *
  have hcat := fun w => cat_run [f] [D] (by simp) (by simp) w
  simp only [List.cons_append, List.nil_append] at hcat
  clear hk
  go_enter Tryd.func26, Tryd.ntmps26
  go_wp2
  go_ret
  exact ⟨rfl, rfl⟩
theorem many_any (n : Nat) (hn : n < 256) (w : World) : Calls Tryd.prog 25 #[.int .u8 (n : Int), .int .u8 3, .bool false] w fun e w' => e = .returned (.int .u8 ((1 + n % 3 : Nat) : Int)) ∧ w = w' := by
  have h : ((1 + n % 3 : Nat) : Int) = 1 + (n : Int) % 3 := by omega
  rw [h]
  clear h
  go_enter Tryd.func25, Tryd.ntmps25
  go_wp2
  go_ret
  exact ⟨rfl, rfl⟩
end Go.Proofs.YtmomdcnlhljhcaaDoor
