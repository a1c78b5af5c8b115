/- The law's own text of an expression. -/
import Derived.Test.YtmomdcnlhljhcaaDoorEt
import Derived.Deep.RegionHeld3
set_option linter.unusedSimpArgs false
set_option linter.unusedVariables false
namespace Go.Proofs.YtmomdcnlhljhcaaDoor
open Go.RowKit Ieee

def RxOk (e : Ex) : Prop := ∀ (p : Option Addr) (w : World), Lb w → Wx e → Px w (fun g => g < w.heap.size) e p → (ext e).length ≤ 1000000 →
  Calls Tryd.prog 52 #[exv e p] w fun en w' => en = .returned (.string ⟨(ext e).toArray⟩) ∧ Below w.heap.size w w'
theorem cat_big (x y : List UInt8) (hx : x.length ≤ 4000000) (hy : y.length ≤ 4000000) (w : World) : (Op.stringOp .add ⟨x.toArray⟩ ⟨y.toArray⟩).run Tryd.prog w = .ok (.string ⟨(x ++ y).toArray⟩) w :=
  run_string_add_lists w x y (by omega) (by omega)

set_option maxRecDepth 100000 in
theorem rx_reg (r : UInt8) : RxOk (.reg r) := by
  intro p w hl hw hp hlen
  obtain rfl : p = none := hp
  unfold exv opB nxB nyB nmB npB ext
  go_enter Tryd.func52, Tryd.ntmps52
  go_wp2
  go_ret
  exact ⟨rfl, below_alloc _ _⟩

set_option maxRecDepth 100000 in
theorem rx_num (re im : Nat) : RxOk (.num re im) := by
  intro p w hl hw hp hlen
  obtain rfl : p = none := hp
  obtain ⟨h1, h2, h3⟩ := hw
  have sr : Sm (re : Int) := by unfold Sm; omega
  have si : Sm (im : Int) := by unfold Sm; omega
  have e1 := eq_fl0 false si
  have hci := fun w => run_convert_float_int (P := Tryd.prog) w 62 3 .f64 .i64 (fl false (im : Int)) (im : Int) (by kernel_rfl) Tryd.underlying3 (int_fl false si)
  have hcr := fun w => run_convert_float_int (P := Tryd.prog) w 62 3 .f64 .i64 (fl false (re : Int)) (re : Int) (by kernel_rfl) Tryd.underlying3 (int_fl false sr)
  have HL := Lib.hid hl
  have hcat := cat_run_i (Lib.itoa (im : Int)) (by have := itoa_len si; omega)
  unfold exv opB nxB nyB nmB npB ext numT
  simp only
  by_cases hi : im = 0
  · rw [if_pos hi]
    have e1' : (FloatKind.f64.format.order (fl false (im : Int)) 0 != some .eq) = false := by rw [bne, e1]; simp [hi]
    clear e1 hi hl hlen hcat
    generalize fl false (im : Int) = G at *
    generalize fl false (re : Int) = F at *
    go_enter Tryd.func52, Tryd.ntmps52
    go_wp2_with (go_at_call 41; refine (Tryd.strconv_Itoa (re : Int) (by omega) (by omega) _ (HL.out.new (below_alloc _ _)).tb).mono ?_; rintro e w' ⟨rfl, k, os, rfl⟩)
    go_ret
    exact ⟨rfl, below_new (Lib.below_grow _ _ (Nat.le_refl _) _ _)⟩
  · rw [if_neg hi]
    have e1' : (FloatKind.f64.format.order (fl false (im : Int)) 0 != some .eq) = true := by rw [bne, e1]; simp [hi]
    clear e1 hi hl hlen
    generalize fl false (im : Int) = G at *
    generalize fl false (re : Int) = F at *
    go_enter Tryd.func52, Tryd.ntmps52
    go_wp2_with (go_at_call 41; refine (Tryd.strconv_Itoa (im : Int) (by omega) (by omega) _ (HL.out.new (below_alloc _ _)).tb).mono ?_; rintro e w' ⟨rfl, k, os, rfl⟩)
    go_ret
    exact ⟨rfl, below_new (Lib.below_grow _ _ (Nat.le_refl _) _ _)⟩

set_option maxRecDepth 100000 in
theorem rx_one (k : Nat) (a : Ex) (iha : RxOk a) : RxOk (.one k a) := by
  intro p w hl hw hp hlen
  obtain ⟨g, q, rfl, hg, hc, hpa⟩ := hp
  have hla : (ext a).length ≤ 1000000 := by simp [ext] at hlen; omega
  have ha := fun (o : Obj) => iha q (w.alloc o) (hl.new (below_alloc w o)) hw.2 (hpa.on (Same.below (below_alloc w o) (fun g h => h)) (fun g h => by simp; omega)) hla
  have HA := Lib.hid ha
  obtain ⟨c0, c1, c2, c3⟩ := hc
  unfold exv at HA ⊢
  have hcat1 := cat_big [40, sg1 k] (ext a) (by simp) (by omega)
  have hcat2 := cat_big ([40, sg1 k] ++ ext a) [41] (by simp; omega) (by simp)
  unfold ext
  generalize opB a = s0 at *
  generalize nxB a = x0 at *
  generalize nyB a = y0 at *
  generalize nmB a = s1 at *
  generalize npB a = n0 at *
  generalize ext a = A at *
  clear ha hpa hlen hl hw iha
  unfold opB nxB nyB nmB npB
  simp only
  rcases op1_cases k with ⟨h1, h2⟩ | ⟨h1, h2⟩ | ⟨h1, h2⟩ | ⟨h1, h2⟩
  all_goals
    rw [h1, h2]
    rw [h2] at hcat1 hcat2
    clear h1 h2
    generalize hT : [40, _] ++ A = T at *
    clear hT
    go_enter Tryd.func52, Tryd.ntmps52
    go_wp2_with fail
    refine (HA.out _).mono ?_
    rintro en w1 ⟨rfl, hb⟩
    have HB := Lib.hid hb
    clear hb
    go_wp2
    go_ret
    exact ⟨rfl, below_new HB.out⟩

theorem lt_of_cell {w : World} {a : Addr} {v : Value} (h : w.cell? a = some v) : a.block < w.heap.size := by
  rcases Nat.lt_or_ge a.block w.heap.size with hlt | hge
  · exact hlt
  · simp [World.cell?, Array.getElem?_eq_none hge] at h
theorem cell_on {w w' : World} {a : Addr} {v : Value} (h : w.cell? a = some v) (k : Below w.heap.size w w') : w'.cell? a = some v := (k.cell (lt_of_cell h)).trans h
theorem below_drew (w : World) : Below w.heap.size w w.drew := ⟨rfl, rfl, rfl, Nat.le_refl _, fun _ _ => rfl⟩
theorem held10 {w1 w' w'' : World} {a0 a1 a2 a3 a4 a5 a6 a7 a8 a9 : Addr} {v0 v1 v2 v3 v4 v5 v6 v7 v8 v9 : Value}
    (h : Below w1.heap.size w1 w' ∧ w'.cell? a0 = some v0 ∧ w'.cell? a1 = some v1 ∧ w'.cell? a2 = some v2 ∧ w'.cell? a3 = some v3 ∧ w'.cell? a4 = some v4 ∧ w'.cell? a5 = some v5 ∧ w'.cell? a6 = some v6 ∧ w'.cell? a7 = some v7 ∧ w'.cell? a8 = some v8 ∧ w'.cell? a9 = some v9) (k : Below w'.heap.size w' w'') :
    Below w1.heap.size w1 w'' ∧ w''.cell? a0 = some v0 ∧ w''.cell? a1 = some v1 ∧ w''.cell? a2 = some v2 ∧ w''.cell? a3 = some v3 ∧ w''.cell? a4 = some v4 ∧ w''.cell? a5 = some v5 ∧ w''.cell? a6 = some v6 ∧ w''.cell? a7 = some v7 ∧ w''.cell? a8 = some v8 ∧ w''.cell? a9 = some v9 := by
  obtain ⟨hb, c0, c1, c2, c3, c4, c5, c6, c7, c8, c9⟩ := h
  exact ⟨below_trans hb k, cell_on c0 k, cell_on c1 k, cell_on c2 k, cell_on c3 k, cell_on c4 k, cell_on c5 k, cell_on c6 k, cell_on c7 k, cell_on c8 k, cell_on c9 k⟩

set_option maxRecDepth 100000 in
set_option maxHeartbeats 3200000 in
theorem rx_two (k : Nat) (a b : Ex) (iha : RxOk a) (ihb : RxOk b) : RxOk (.two k a b) := by
  intro p w hl hw hp hlen
  obtain ⟨g, q, r, rfl, hg, hc, hd, hpa, hpb⟩ := hp
  have hla : (ext a).length ≤ 1000000 := by simp [ext] at hlen; omega
  have hlb : (ext b).length ≤ 1000000 := by simp [ext] at hlen; omega
  have hlo := op2_len k
  have ha := fun (o : Obj) (w' : World) (hb' : Below (w.alloc o).heap.size (w.alloc o) w') => iha q w' (hl.new (below_new hb')) hw.2.1 (hpa.on (Same.below (below_new hb') (fun g h => h)) (fun g h => by have := hb'.size; simp at this; omega)) hla
  have hb := fun (o : Obj) (w' : World) (hb' : Below (w.alloc o).heap.size (w.alloc o) w') => ihb r w' (hl.new (below_new hb')) hw.2.2 (hpb.on (Same.below (below_new hb') (fun g h => h)) (fun g h => by have := hb'.size; simp at this; omega)) hlb
  have HA := Lib.hid ha
  have HB := Lib.hid hb
  obtain ⟨c0, c1, c2, c3⟩ := hc
  obtain ⟨d0, d1, d2, d3⟩ := hd
  have k1 := cat_big [40] (ext a) (by simp) (by omega)
  have k2 := cat_big ([40] ++ ext a) [32] (by simp; omega) (by simp)
  have k3 := cat_big ([40] ++ ext a ++ [32]) (op2 k) (by simp; omega) (by omega)
  have k4 := cat_big ([40] ++ ext a ++ [32] ++ op2 k) [32] (by simp; omega) (by simp)
  have k5 := cat_big ([40] ++ ext a ++ [32] ++ op2 k ++ [32]) (ext b) (by simp; omega) (by omega)
  have k6 := cat_big ([40] ++ ext a ++ [32] ++ op2 k ++ [32] ++ ext b) [41] (by simp; omega) (by simp)
  obtain ⟨T1, h1⟩ : ∃ T1, [40] ++ ext a = T1 := ⟨_, rfl⟩
  rw [h1] at k1 k2 k3 k4 k5 k6
  obtain ⟨T2, h2⟩ : ∃ T2, T1 ++ [32] = T2 := ⟨_, rfl⟩
  rw [h2] at k2 k3 k4 k5 k6
  obtain ⟨T3, h3⟩ : ∃ T3, T2 ++ op2 k = T3 := ⟨_, rfl⟩
  rw [h3] at k3 k4 k5 k6
  obtain ⟨T4, h4⟩ : ∃ T4, T3 ++ [32] = T4 := ⟨_, rfl⟩
  rw [h4] at k4 k5 k6
  obtain ⟨T5, h5⟩ : ∃ T5, T4 ++ ext b = T5 := ⟨_, rfl⟩
  rw [h5] at k5 k6
  have HT : Hid (ext (.two k a b) = T5 ++ [41]) := Lib.hid (by simp only [ext]; rw [h1, h2, h3, h4, h5])
  rw [HT.out]
  obtain ⟨T6, h6⟩ : ∃ T6, T5 ++ [41] = T6 := ⟨_, rfl⟩
  rw [h6] at k6 ⊢
  clear h1 h2 h3 h4 h5 h6 HT
  unfold exv at HA HB ⊢
  generalize opB a = s0 at *
  generalize nxB a = x0 at *
  generalize nyB a = y0 at *
  generalize nmB a = s1 at *
  generalize npB a = n0 at *
  generalize ext a = A at *
  generalize opB b = t0 at *
  generalize nxB b = x1 at *
  generalize nyB b = y1 at *
  generalize nmB b = t1 at *
  generalize npB b = n1 at *
  generalize ext b = B at *
  clear ha hb hpa hpb hlen hl hw iha ihb hla hlb hlo
  unfold opB nxB nyB nmB npB
  simp only
  have o1 : (⟨(op2 k).toArray⟩ : ByteArray).toList.isEmpty = false := by rcases op2_cases k with h | h | h | h | h | h <;> rw [h] <;> simp [go_sem]
  have o2 : ((⟨(op2 k).toArray⟩ : ByteArray).toList == [114, 101, 103]) = false := by rcases op2_cases k with h | h | h | h | h | h <;> rw [h] <;> simp [go_sem]
  have o3 : ((⟨(op2 k).toArray⟩ : ByteArray).toList == [110, 101, 103]) = false := by rcases op2_cases k with h | h | h | h | h | h <;> rw [h] <;> simp [go_sem]
  have o4 : ((⟨(op2 k).toArray⟩ : ByteArray).toList == [99, 111, 110, 106]) = false := by rcases op2_cases k with h | h | h | h | h | h <;> rw [h] <;> simp [go_sem]
  have o5 : ((⟨(op2 k).toArray⟩ : ByteArray).toList == [110, 111, 116]) = false := by rcases op2_cases k with h | h | h | h | h | h <;> rw [h] <;> simp [go_sem]
  have o6 : ((⟨(op2 k).toArray⟩ : ByteArray).toList == [110, 111, 114, 109]) = false := by rcases op2_cases k with h | h | h | h | h | h <;> rw [h] <;> simp [go_sem]
  obtain ⟨O, hO⟩ : ∃ O, (⟨(op2 k).toArray⟩ : ByteArray) = O := ⟨_, rfl⟩
  rw [hO] at o1 o2 o3 o4 o5 o6 k3 ⊢
  clear hO
  obtain ⟨n, hn⟩ : ∃ n, w.heap.size = n := ⟨_, rfl⟩
  obtain ⟨W, hW⟩ : ∃ W, w.alloc (.cells #[.string O, .complex .f64 0 0, .string ⟨#[]⟩, .slice (some ⟨g, 0, none⟩) 2 2] 48) = W := ⟨_, rfl⟩
  have hWb : Below w.heap.size w W := by rw [← hW]; exact below_alloc _ _
  have b0 : W.cell? ⟨n, 0, none⟩ = some (.string O) := by rw [← hW, ← hn]; simp [go_sem]
  have b3 : W.cell? ⟨n, 3, none⟩ = some (.slice (some ⟨g, 0, none⟩) 2 2) := by rw [← hW, ← hn]; simp [go_sem]
  have HA2 : Hid (∀ w', Below W.heap.size W w' → Calls Tryd.prog 52 #[.agg #[.string s0, .complex .f64 x0 y0, .string s1, .slice q n0 n0]] w' fun en w'' => en = .returned (.string ⟨A.toArray⟩) ∧ Below w'.heap.size w' w'') := Lib.hid (by rw [← hW]; exact HA.out _)
  have HB2 : Hid (∀ w', Below W.heap.size W w' → Calls Tryd.prog 52 #[.agg #[.string t0, .complex .f64 x1 y1, .string t1, .slice r n1 n1]] w' fun en w'' => en = .returned (.string ⟨B.toArray⟩) ∧ Below w'.heap.size w' w'') := Lib.hid (by rw [← hW]; exact HB.out _)
  have e0 := cell_on c0 hWb
  have e1 := cell_on c1 hWb
  have e2 := cell_on c2 hWb
  have e3 := cell_on c3 hWb
  have f0 := cell_on d0 hWb
  have f1 := cell_on d1 hWb
  have f2 := cell_on d2 hWb
  have f3 := cell_on d3 hWb
  simp only [Nat.zero_add, Nat.reduceAdd] at e0 e1 e2 e3 f0 f1 f2 f3
  have HWB := Lib.hid hWb
  clear HA HB c0 c1 c2 c3 d0 d1 d2 d3 hWb
  go_enter Tryd.func52, Tryd.ntmps52
  go_wp2_with fail
  clear hW
  have HN := Lib.hid hn
  clear hn
  go_region_held3 (fun w' => Below W.heap.size W w' ∧ w'.cell? ⟨n, 0, none⟩ = some (.string O) ∧ w'.cell? ⟨n, 3, none⟩ = some (.slice (some ⟨g, 0, none⟩) 2 2) ∧ w'.cell? ⟨g, 0, none⟩ = some (.string s0) ∧ w'.cell? ⟨g, 1, none⟩ = some (.complex .f64 x0 y0) ∧ w'.cell? ⟨g, 2, none⟩ = some (.string s1) ∧ w'.cell? ⟨g, 3, none⟩ = some (.slice q n0 n0) ∧ w'.cell? ⟨g, 4, none⟩ = some (.string t0) ∧ w'.cell? ⟨g, 5, none⟩ = some (.complex .f64 x1 y1) ∧ w'.cell? ⟨g, 6, none⟩ = some (.string t1) ∧ w'.cell? ⟨g, 7, none⟩ = some (.slice r n1 n1))
    (first | exact ⟨below_drew W, b0, b3, e0, e1, e2, e3, f0, f1, f2, f3⟩ | assumption | exact held10 (by assumption) (by assumption))
    (first
      | (go_at_call 52; ((with_reducible refine (HA2.out _ (And.left (by assumption))).mono ?_); rintro e w' ⟨rfl, kb⟩))
      | (go_at_call 52; ((with_reducible refine (HB2.out _ (And.left (by assumption))).mono ?_); rintro e w' ⟨rfl, kb⟩)))
  rename_i hH
  have HH := Lib.hid (below_trans HWB.out hH.1)
  clear hH
  go_wp2
  go_ret
  exact ⟨rfl, HN.out ▸ HH.out⟩
theorem rx_any (e : Ex) : RxOk e := by
  induction e with
  | num re im => exact rx_num re im
  | reg r => exact rx_reg r
  | one k a ih => exact rx_one k a ih
  | two k a b iha ihb => exact rx_two k a b iha ihb
end Go.Proofs.YtmomdcnlhljhcaaDoor
