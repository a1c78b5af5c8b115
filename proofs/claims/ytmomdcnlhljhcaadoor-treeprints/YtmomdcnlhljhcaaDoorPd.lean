/- tree.printDecl, Print. -/
import Derived.Test.YtmomdcnlhljhcaaDoorPs
import Derived.Test.YtmomdcnlhljhcaaDoorRt
set_option linter.unusedSimpArgs false
set_option linter.unusedVariables false
namespace Go.Proofs.YtmomdcnlhljhcaaDoor
open Go.RowKit Ieee

def dbox (so : Nat) (NM : ByteArray) (F G : Nat) (p : Option Addr) (bn c : Nat) (at_ : Int) : Obj := .cells #[.int .i64 (so : Int), .string NM, .complex .f64 F G, .slice p bn c, .int .i64 at_] 43
theorem dbox_cells {w : World} {n so : Nat} {NM : ByteArray} {F G : Nat} {p : Option Addr} {bn c : Nat} {at_ : Int} (h : w.heap[n]? = some (dbox so NM F G p bn c at_)) :
    w.cell? ⟨n, 0, none⟩ = some (.int .i64 (so : Int)) ∧ w.cell? ⟨n, 1, none⟩ = some (.string NM) ∧ w.cell? ⟨n, 2, none⟩ = some (.complex .f64 F G) ∧ w.cell? ⟨n, 3, none⟩ = some (.slice p bn c) ∧ w.cell? ⟨n, 4, none⟩ = some (.int .i64 at_) := by
  refine ⟨?_, ?_, ?_, ?_, ?_⟩ <;> rw [cell_of_row w n _ _ 43 (0, 0) h] <;> rfl
theorem dbox_on {B b : Nat} {l : List UInt8} {w w1 : World} {n so : Nat} {NM : ByteArray} {F G : Nat} {p : Option Addr} {bn c : Nat} {at_ : Int} (h : w.heap[n]? = some (dbox so NM F G p bn c at_)) (hw : Wro B b l w w1) (hn : n ≠ b) : w1.heap[n]? = some (dbox so NM F G p bn c at_) := hw.block h hn (by decide)
def dcv (d : Dc) (p : Option Addr) (c : Nat) (at_ : Int) : Value := .agg #[.int .i64 (d.so : Int), .string ⟨d.nm.toArray⟩, .complex .f64 (fl false d.re) (fl false d.im), .slice p d.body.len c, .int .i64 at_]

set_option maxRecDepth 100000 in
set_option maxHeartbeats 6400000 in
theorem pdecl_0 (nm : List UInt8) (re im : Int) (bd : Sts) (hwd : Wdc ⟨0, nm, re, im, bd⟩) (B b : Nat) (l : List UInt8) (p : Option Addr) (c : Nat) (at_ : Int) (w : World) (hl : Lb w) (hB : B ≤ w.heap.size) (h7 : 7 ≤ B) (hbu : Bu B b l w) (hb : StsV w (fun g => g < B) bd p c)
    (hlen : l.length + (dcT ⟨0, nm, re, im, bd⟩).length ≤ 1000000) : Calls Tryd.prog 22 #[.pointer (some ⟨b, 0, none⟩), dcv ⟨0, nm, re, im, bd⟩ p c at_] w fun e w' => e = .returned (.tuple #[]) ∧ Wro B b (l ++ dcT ⟨0, nm, re, im, bd⟩) w w' := by
  have hst := store_cx
  have HL := Lib.hid hl
  have HBV := Lib.hid hb
  have hblt : b < w.heap.size := hbu.lt
  have hnml := hwd.nml
  have hsm := hwd.sm
  have HWD := Lib.hid hwd
  simp only at hnml hsm
  have hdct : dcT ⟨0, nm, re, im, bd⟩ = (swd 0) ++ ([32] ++ nm) ++ ([32] ++ dnT re im) ++ [59, 10] := by
    simp [dcT]
  have HDT := Lib.hid hdct
  have hsum : l.length + (((swd 0)).length + (([32] ++ nm)).length + (([32] ++ dnT re im)).length + ([59, 10]).length) ≤ 1000000 := by rw [hdct] at hlen; simp only [List.length_append, List.length_cons, List.length_nil] at hlen ⊢; omega
  have HSUM := Lib.hid hsum
  have hok : ok2 re im = true := by have h1 := hwd.re; have h2 := hwd.im; simp only at h1 h2; simp [ok2, okI]; omega
  have HCT : Hid (∀ w', Lb w' → Calls Tryd.prog 39 #[.complex .f64 (fl false re) (fl false im)] w' fun e w'' => e = .returned (.string ⟨(dnT re im).toArray⟩) ∧ Below w'.heap.size w' w'') := Lib.hid (fun w' h' => text_any false false hsm.1 hsm.2 hok w' h'.tb)
  have hdn := dn_len hsm.1 hsm.2
  have hcn := cat_big [32] nm (by simp) (by omega)
  obtain ⟨T3, hT3⟩ : ∃ T3, [32] ++ nm = T3 := ⟨_, rfl⟩
  rw [hT3] at hcn
  have HT3 := Lib.hid hT3
  clear hT3
  have hcd := cat_big [32] (dnT re im) (by simp) (by omega)
  obtain ⟨T4, hT4⟩ : ∃ T4, [32] ++ dnT re im = T4 := ⟨_, rfl⟩
  rw [hT4] at hcd
  have HT4 := Lib.hid hT4
  obtain ⟨DN, hDN⟩ : ∃ DN, dnT re im = DN := ⟨_, rfl⟩
  rw [hDN] at hcd HCT
  clear hT4 hDN
  unfold dcv
  simp only
  obtain ⟨n, hnn⟩ : ∃ n, w.heap.size = n := ⟨_, rfl⟩
  obtain ⟨NM, hNM⟩ : ∃ NM, (⟨nm.toArray⟩ : ByteArray) = NM := ⟨_, rfl⟩
  rw [hNM]
  rw [hNM] at hcn
  generalize fl false re = F at *
  generalize fl false im = G at *
  obtain ⟨bn, hbn⟩ : ∃ bn, bd.len = bn := ⟨_, rfl⟩
  rw [hbn]
  have HBN := Lib.hid hbn
  obtain ⟨W, hW⟩ : ∃ W, w.alloc (dbox 0 NM F G p bn c at_) = W := ⟨_, rfl⟩
  have hblk : W.heap[n]? = some (dbox 0 NM F G p bn c at_) := by rw [← hW, ← hnn]; exact heap_alloc_new _ _
  obtain ⟨b0, b1, b2, b3, b4⟩ := dbox_cells hblk
  have HBLK0 := Lib.hid hblk
  have HW0 : Hid (Wro B b l w W) := Lib.hid (by rw [← hW]; exact (Wro.refl hbu).below hB (below_alloc _ _))
  have hnb : n ≠ b := by omega
  clear hl hb hlen hbu hsum hblk hwd hdct hok hNM hbn hsm
  unfold dbox at hW
  have hW : w.alloc (.cells #[.int .i64 0, .string NM, .complex .f64 F G, .slice p bn c, .int .i64 at_] 43) = W := hW
  have b0 : W.cell? ⟨n, 0, none⟩ = some (.int .i64 0) := b0
  go_enter Tryd.func22, Tryd.ntmps22
  go_wp2_with fail
  have HWW := Lib.hid hW
  clear hW hnn
  refine (sword_any 0 (by omega) W (HL.out.on HW0.out.bel h7)).mono ?_
  rintro e w' ⟨rfl, rfl⟩
  go_wp2_with fail
  refine (write_list B b l (swd 0) W HW0.out.bu (by have h1 := HSUM.out; simp only [List.length_append, List.length_cons, List.length_nil] at *; omega) (HW0.out.size hB)).mono ?_
  rintro e w1 ⟨rfl, hw1⟩
  have HW1 := Lib.hid (HW0.out.trans hw1)
  have hblk := dbox_on HBLK0.out hw1 hnb
  clear b0 b1 b2 b3 b4
  obtain ⟨b0, b1, b2, b3, b4⟩ := dbox_cells hblk
  have b0 : w1.cell? ⟨n, 0, none⟩ = some (.int .i64 0) := b0
  have HBLK1 := Lib.hid hblk
  clear hblk hw1
  go_wp2_with fail
  refine (write_list B b (l ++ (swd 0)) T3 w1 HW1.out.bu (by have h1 := HSUM.out; have h2 := congrArg List.length HT3.out; simp only [List.length_append, List.length_cons, List.length_nil] at *; omega) (HW1.out.size hB)).mono ?_
  rintro e w2 ⟨rfl, hw2⟩
  have HW2 := Lib.hid (HW1.out.trans hw2)
  have hblk := dbox_on HBLK1.out hw2 hnb
  clear b0 b1 b2 b3 b4
  obtain ⟨b0, b1, b2, b3, b4⟩ := dbox_cells hblk
  have b0 : w2.cell? ⟨n, 0, none⟩ = some (.int .i64 0) := b0
  have HBLK2 := Lib.hid hblk
  clear hblk hw2
  go_wp2_with fail
  refine (HCT.out w2 (HL.out.on HW2.out.bel h7)).mono ?_
  rintro e wt ⟨rfl, hbt⟩
  have HWt := Lib.hid (HW2.out.below (HW2.out.size hB) hbt)
  have hblk := (hbt.block n (lt_of_block HBLK2.out)).trans HBLK2.out
  clear b0 b1 b2 b3 b4
  obtain ⟨b0, b1, b2, b3, b4⟩ := dbox_cells hblk
  have HBLKt := Lib.hid hblk
  clear hblk hbt
  go_wp2_with fail
  refine (write_list B b ((l ++ (swd 0)) ++ T3) T4 wt HWt.out.bu (by have h1 := HSUM.out; have h2 := congrArg List.length HT3.out; have h3 := congrArg List.length HT4.out; simp only [List.length_append, List.length_cons, List.length_nil] at *; omega) (HWt.out.size hB)).mono ?_
  rintro e w3 ⟨rfl, hw3⟩
  have HW3 := Lib.hid (HWt.out.trans hw3)
  have hblk := dbox_on HBLKt.out hw3 hnb
  clear b0 b1 b2 b3 b4
  obtain ⟨b0, b1, b2, b3, b4⟩ := dbox_cells hblk
  have b0 : w3.cell? ⟨n, 0, none⟩ = some (.int .i64 0) := b0
  have HBLK3 := Lib.hid hblk
  clear hblk hw3
  go_wp2_with fail
  refine (write_list B b (((l ++ (swd 0)) ++ T3) ++ T4) [59, 10] w3 HW3.out.bu (by have h1 := HSUM.out; have h2 := congrArg List.length HT3.out; have h3 := congrArg List.length HT4.out; simp only [List.length_append, List.length_cons, List.length_nil] at *; omega) (HW3.out.size hB)).mono ?_
  rintro e w4 ⟨rfl, hw4⟩
  have HW4 := Lib.hid (HW3.out.trans hw4)
  have hblk := dbox_on HBLK3.out hw4 hnb
  clear b0 b1 b2 b3 b4
  obtain ⟨b0, b1, b2, b3, b4⟩ := dbox_cells hblk
  have b0 : w4.cell? ⟨n, 0, none⟩ = some (.int .i64 0) := b0
  have HBLK4 := Lib.hid hblk
  clear hblk hw4
  go_wp2
  go_end0
  refine ⟨rfl, ?_⟩
  have := HW4.out
  rw [HDT.out]
  rw [← HT3.out] at this; rw [← HT4.out] at this
  simpa [List.append_assoc] using this

set_option maxRecDepth 100000 in
set_option maxHeartbeats 6400000 in
theorem pdecl_1 (nm : List UInt8) (re im : Int) (bd : Sts) (hwd : Wdc ⟨1, nm, re, im, bd⟩) (B b : Nat) (l : List UInt8) (p : Option Addr) (c : Nat) (at_ : Int) (w : World) (hl : Lb w) (hB : B ≤ w.heap.size) (h7 : 7 ≤ B) (hbu : Bu B b l w) (hb : StsV w (fun g => g < B) bd p c)
    (hlen : l.length + (dcT ⟨1, nm, re, im, bd⟩).length ≤ 1000000) : Calls Tryd.prog 22 #[.pointer (some ⟨b, 0, none⟩), dcv ⟨1, nm, re, im, bd⟩ p c at_] w fun e w' => e = .returned (.tuple #[]) ∧ Wro B b (l ++ dcT ⟨1, nm, re, im, bd⟩) w w' := by
  have hst := store_cx
  have HL := Lib.hid hl
  have HBV := Lib.hid hb
  have hblt : b < w.heap.size := hbu.lt
  have hnml := hwd.nml
  have hsm := hwd.sm
  have HWD := Lib.hid hwd
  simp only at hnml hsm
  have hdct : dcT ⟨1, nm, re, im, bd⟩ = (swd 1) ++ ([32] ++ nm) ++ ([32] ++ dnT re im) ++ [59, 10] := by
    simp [dcT]
  have HDT := Lib.hid hdct
  have hsum : l.length + (((swd 1)).length + (([32] ++ nm)).length + (([32] ++ dnT re im)).length + ([59, 10]).length) ≤ 1000000 := by rw [hdct] at hlen; simp only [List.length_append, List.length_cons, List.length_nil] at hlen ⊢; omega
  have HSUM := Lib.hid hsum
  have hok : ok2 re im = true := by have h1 := hwd.re; have h2 := hwd.im; simp only at h1 h2; simp [ok2, okI]; omega
  have HCT : Hid (∀ w', Lb w' → Calls Tryd.prog 39 #[.complex .f64 (fl false re) (fl false im)] w' fun e w'' => e = .returned (.string ⟨(dnT re im).toArray⟩) ∧ Below w'.heap.size w' w'') := Lib.hid (fun w' h' => text_any false false hsm.1 hsm.2 hok w' h'.tb)
  have hdn := dn_len hsm.1 hsm.2
  have hcn := cat_big [32] nm (by simp) (by omega)
  obtain ⟨T3, hT3⟩ : ∃ T3, [32] ++ nm = T3 := ⟨_, rfl⟩
  rw [hT3] at hcn
  have HT3 := Lib.hid hT3
  clear hT3
  have hcd := cat_big [32] (dnT re im) (by simp) (by omega)
  obtain ⟨T4, hT4⟩ : ∃ T4, [32] ++ dnT re im = T4 := ⟨_, rfl⟩
  rw [hT4] at hcd
  have HT4 := Lib.hid hT4
  obtain ⟨DN, hDN⟩ : ∃ DN, dnT re im = DN := ⟨_, rfl⟩
  rw [hDN] at hcd HCT
  clear hT4 hDN
  unfold dcv
  simp only
  obtain ⟨n, hnn⟩ : ∃ n, w.heap.size = n := ⟨_, rfl⟩
  obtain ⟨NM, hNM⟩ : ∃ NM, (⟨nm.toArray⟩ : ByteArray) = NM := ⟨_, rfl⟩
  rw [hNM]
  rw [hNM] at hcn
  generalize fl false re = F at *
  generalize fl false im = G at *
  obtain ⟨bn, hbn⟩ : ∃ bn, bd.len = bn := ⟨_, rfl⟩
  rw [hbn]
  have HBN := Lib.hid hbn
  obtain ⟨W, hW⟩ : ∃ W, w.alloc (dbox 1 NM F G p bn c at_) = W := ⟨_, rfl⟩
  have hblk : W.heap[n]? = some (dbox 1 NM F G p bn c at_) := by rw [← hW, ← hnn]; exact heap_alloc_new _ _
  obtain ⟨b0, b1, b2, b3, b4⟩ := dbox_cells hblk
  have HBLK0 := Lib.hid hblk
  have HW0 : Hid (Wro B b l w W) := Lib.hid (by rw [← hW]; exact (Wro.refl hbu).below hB (below_alloc _ _))
  have hnb : n ≠ b := by omega
  clear hl hb hlen hbu hsum hblk hwd hdct hok hNM hbn hsm
  unfold dbox at hW
  have hW : w.alloc (.cells #[.int .i64 1, .string NM, .complex .f64 F G, .slice p bn c, .int .i64 at_] 43) = W := hW
  have b0 : W.cell? ⟨n, 0, none⟩ = some (.int .i64 1) := b0
  go_enter Tryd.func22, Tryd.ntmps22
  go_wp2_with fail
  have HWW := Lib.hid hW
  clear hW hnn
  refine (sword_any 1 (by omega) W (HL.out.on HW0.out.bel h7)).mono ?_
  rintro e w' ⟨rfl, rfl⟩
  go_wp2_with fail
  refine (write_list B b l (swd 1) W HW0.out.bu (by have h1 := HSUM.out; simp only [List.length_append, List.length_cons, List.length_nil] at *; omega) (HW0.out.size hB)).mono ?_
  rintro e w1 ⟨rfl, hw1⟩
  have HW1 := Lib.hid (HW0.out.trans hw1)
  have hblk := dbox_on HBLK0.out hw1 hnb
  clear b0 b1 b2 b3 b4
  obtain ⟨b0, b1, b2, b3, b4⟩ := dbox_cells hblk
  have b0 : w1.cell? ⟨n, 0, none⟩ = some (.int .i64 1) := b0
  have HBLK1 := Lib.hid hblk
  clear hblk hw1
  go_wp2_with fail
  refine (write_list B b (l ++ (swd 1)) T3 w1 HW1.out.bu (by have h1 := HSUM.out; have h2 := congrArg List.length HT3.out; simp only [List.length_append, List.length_cons, List.length_nil] at *; omega) (HW1.out.size hB)).mono ?_
  rintro e w2 ⟨rfl, hw2⟩
  have HW2 := Lib.hid (HW1.out.trans hw2)
  have hblk := dbox_on HBLK1.out hw2 hnb
  clear b0 b1 b2 b3 b4
  obtain ⟨b0, b1, b2, b3, b4⟩ := dbox_cells hblk
  have b0 : w2.cell? ⟨n, 0, none⟩ = some (.int .i64 1) := b0
  have HBLK2 := Lib.hid hblk
  clear hblk hw2
  go_wp2_with fail
  refine (HCT.out w2 (HL.out.on HW2.out.bel h7)).mono ?_
  rintro e wt ⟨rfl, hbt⟩
  have HWt := Lib.hid (HW2.out.below (HW2.out.size hB) hbt)
  have hblk := (hbt.block n (lt_of_block HBLK2.out)).trans HBLK2.out
  clear b0 b1 b2 b3 b4
  obtain ⟨b0, b1, b2, b3, b4⟩ := dbox_cells hblk
  have HBLKt := Lib.hid hblk
  clear hblk hbt
  go_wp2_with fail
  refine (write_list B b ((l ++ (swd 1)) ++ T3) T4 wt HWt.out.bu (by have h1 := HSUM.out; have h2 := congrArg List.length HT3.out; have h3 := congrArg List.length HT4.out; simp only [List.length_append, List.length_cons, List.length_nil] at *; omega) (HWt.out.size hB)).mono ?_
  rintro e w3 ⟨rfl, hw3⟩
  have HW3 := Lib.hid (HWt.out.trans hw3)
  have hblk := dbox_on HBLKt.out hw3 hnb
  clear b0 b1 b2 b3 b4
  obtain ⟨b0, b1, b2, b3, b4⟩ := dbox_cells hblk
  have b0 : w3.cell? ⟨n, 0, none⟩ = some (.int .i64 1) := b0
  have HBLK3 := Lib.hid hblk
  clear hblk hw3
  go_wp2_with fail
  refine (write_list B b (((l ++ (swd 1)) ++ T3) ++ T4) [59, 10] w3 HW3.out.bu (by have h1 := HSUM.out; have h2 := congrArg List.length HT3.out; have h3 := congrArg List.length HT4.out; simp only [List.length_append, List.length_cons, List.length_nil] at *; omega) (HW3.out.size hB)).mono ?_
  rintro e w4 ⟨rfl, hw4⟩
  have HW4 := Lib.hid (HW3.out.trans hw4)
  have hblk := dbox_on HBLK3.out hw4 hnb
  clear b0 b1 b2 b3 b4
  obtain ⟨b0, b1, b2, b3, b4⟩ := dbox_cells hblk
  have b0 : w4.cell? ⟨n, 0, none⟩ = some (.int .i64 1) := b0
  have HBLK4 := Lib.hid hblk
  clear hblk hw4
  go_wp2
  go_end0
  refine ⟨rfl, ?_⟩
  have := HW4.out
  rw [HDT.out]
  rw [← HT3.out] at this; rw [← HT4.out] at this
  simpa [List.append_assoc] using this

set_option maxRecDepth 100000 in
set_option maxHeartbeats 6400000 in
theorem pdecl_2 (nm : List UInt8) (re im : Int) (bd : Sts) (hwd : Wdc ⟨2, nm, re, im, bd⟩) (B b : Nat) (l : List UInt8) (p : Option Addr) (c : Nat) (at_ : Int) (w : World) (hl : Lb w) (hB : B ≤ w.heap.size) (h7 : 7 ≤ B) (hbu : Bu B b l w) (hb : StsV w (fun g => g < B) bd p c)
    (hlen : l.length + (dcT ⟨2, nm, re, im, bd⟩).length ≤ 1000000) : Calls Tryd.prog 22 #[.pointer (some ⟨b, 0, none⟩), dcv ⟨2, nm, re, im, bd⟩ p c at_] w fun e w' => e = .returned (.tuple #[]) ∧ Wro B b (l ++ dcT ⟨2, nm, re, im, bd⟩) w w' := by
  have hst := store_cx
  have HL := Lib.hid hl
  have HBV := Lib.hid hb
  have hblt : b < w.heap.size := hbu.lt
  have hnml := hwd.nml
  have hsm := hwd.sm
  have HWD := Lib.hid hwd
  simp only at hnml hsm
  have hdct : dcT ⟨2, nm, re, im, bd⟩ = (swd 2) ++ ([32] ++ nm) ++ [59, 10] := by
    simp [dcT]
  have HDT := Lib.hid hdct
  have hsum : l.length + (((swd 2)).length + (([32] ++ nm)).length + ([59, 10]).length) ≤ 1000000 := by rw [hdct] at hlen; simp only [List.length_append, List.length_cons, List.length_nil] at hlen ⊢; omega
  have HSUM := Lib.hid hsum
  have hok : ok2 re im = true := by have h1 := hwd.re; have h2 := hwd.im; simp only at h1 h2; simp [ok2, okI]; omega
  have HCT : Hid (∀ w', Lb w' → Calls Tryd.prog 39 #[.complex .f64 (fl false re) (fl false im)] w' fun e w'' => e = .returned (.string ⟨(dnT re im).toArray⟩) ∧ Below w'.heap.size w' w'') := Lib.hid (fun w' h' => text_any false false hsm.1 hsm.2 hok w' h'.tb)
  have hdn := dn_len hsm.1 hsm.2
  have hcn := cat_big [32] nm (by simp) (by omega)
  obtain ⟨T3, hT3⟩ : ∃ T3, [32] ++ nm = T3 := ⟨_, rfl⟩
  rw [hT3] at hcn
  have HT3 := Lib.hid hT3
  clear hT3
  unfold dcv
  simp only
  obtain ⟨n, hnn⟩ : ∃ n, w.heap.size = n := ⟨_, rfl⟩
  obtain ⟨NM, hNM⟩ : ∃ NM, (⟨nm.toArray⟩ : ByteArray) = NM := ⟨_, rfl⟩
  rw [hNM]
  rw [hNM] at hcn
  generalize fl false re = F at *
  generalize fl false im = G at *
  obtain ⟨bn, hbn⟩ : ∃ bn, bd.len = bn := ⟨_, rfl⟩
  rw [hbn]
  have HBN := Lib.hid hbn
  obtain ⟨W, hW⟩ : ∃ W, w.alloc (dbox 2 NM F G p bn c at_) = W := ⟨_, rfl⟩
  have hblk : W.heap[n]? = some (dbox 2 NM F G p bn c at_) := by rw [← hW, ← hnn]; exact heap_alloc_new _ _
  obtain ⟨b0, b1, b2, b3, b4⟩ := dbox_cells hblk
  have HBLK0 := Lib.hid hblk
  have HW0 : Hid (Wro B b l w W) := Lib.hid (by rw [← hW]; exact (Wro.refl hbu).below hB (below_alloc _ _))
  have hnb : n ≠ b := by omega
  clear hl hb hlen hbu hsum hblk hwd hdct hok hNM hbn hsm
  unfold dbox at hW
  have hW : w.alloc (.cells #[.int .i64 2, .string NM, .complex .f64 F G, .slice p bn c, .int .i64 at_] 43) = W := hW
  have b0 : W.cell? ⟨n, 0, none⟩ = some (.int .i64 2) := b0
  go_enter Tryd.func22, Tryd.ntmps22
  go_wp2_with fail
  have HWW := Lib.hid hW
  clear hW hnn
  refine (sword_any 2 (by omega) W (HL.out.on HW0.out.bel h7)).mono ?_
  rintro e w' ⟨rfl, rfl⟩
  go_wp2_with fail
  refine (write_list B b l (swd 2) W HW0.out.bu (by have h1 := HSUM.out; simp only [List.length_append, List.length_cons, List.length_nil] at *; omega) (HW0.out.size hB)).mono ?_
  rintro e w1 ⟨rfl, hw1⟩
  have HW1 := Lib.hid (HW0.out.trans hw1)
  have hblk := dbox_on HBLK0.out hw1 hnb
  clear b0 b1 b2 b3 b4
  obtain ⟨b0, b1, b2, b3, b4⟩ := dbox_cells hblk
  have b0 : w1.cell? ⟨n, 0, none⟩ = some (.int .i64 2) := b0
  have HBLK1 := Lib.hid hblk
  clear hblk hw1
  go_wp2_with fail
  refine (write_list B b (l ++ (swd 2)) T3 w1 HW1.out.bu (by have h1 := HSUM.out; have h2 := congrArg List.length HT3.out; simp only [List.length_append, List.length_cons, List.length_nil] at *; omega) (HW1.out.size hB)).mono ?_
  rintro e w2 ⟨rfl, hw2⟩
  have HW2 := Lib.hid (HW1.out.trans hw2)
  have hblk := dbox_on HBLK1.out hw2 hnb
  clear b0 b1 b2 b3 b4
  obtain ⟨b0, b1, b2, b3, b4⟩ := dbox_cells hblk
  have b0 : w2.cell? ⟨n, 0, none⟩ = some (.int .i64 2) := b0
  have HBLK2 := Lib.hid hblk
  clear hblk hw2
  go_wp2_with fail
  refine (write_list B b ((l ++ (swd 2)) ++ T3) [59, 10] w2 HW2.out.bu (by have h1 := HSUM.out; have h2 := congrArg List.length HT3.out; simp only [List.length_append, List.length_cons, List.length_nil] at *; omega) (HW2.out.size hB)).mono ?_
  rintro e w3 ⟨rfl, hw3⟩
  have HW3 := Lib.hid (HW2.out.trans hw3)
  have hblk := dbox_on HBLK2.out hw3 hnb
  clear b0 b1 b2 b3 b4
  obtain ⟨b0, b1, b2, b3, b4⟩ := dbox_cells hblk
  have b0 : w3.cell? ⟨n, 0, none⟩ = some (.int .i64 2) := b0
  have HBLK3 := Lib.hid hblk
  clear hblk hw3
  go_wp2
  go_end0
  refine ⟨rfl, ?_⟩
  have := HW3.out
  rw [HDT.out]
  rw [← HT3.out] at this
  simpa [List.append_assoc] using this

set_option maxRecDepth 100000 in
set_option maxHeartbeats 6400000 in
theorem pdecl_3 (nm : List UInt8) (re im : Int) (bd : Sts) (hwd : Wdc ⟨3, nm, re, im, bd⟩) (B b : Nat) (l : List UInt8) (p : Option Addr) (c : Nat) (at_ : Int) (w : World) (hl : Lb w) (hB : B ≤ w.heap.size) (h7 : 7 ≤ B) (hbu : Bu B b l w) (hb : StsV w (fun g => g < B) bd p c)
    (hlen : l.length + (dcT ⟨3, nm, re, im, bd⟩).length ≤ 1000000) : Calls Tryd.prog 22 #[.pointer (some ⟨b, 0, none⟩), dcv ⟨3, nm, re, im, bd⟩ p c at_] w fun e w' => e = .returned (.tuple #[]) ∧ Wro B b (l ++ dcT ⟨3, nm, re, im, bd⟩) w w' := by
  have hst := store_cx
  have HL := Lib.hid hl
  have HBV := Lib.hid hb
  have hblt : b < w.heap.size := hbu.lt
  have hnml := hwd.nml
  have hsm := hwd.sm
  have HWD := Lib.hid hwd
  simp only at hnml hsm
  have hdct : dcT ⟨3, nm, re, im, bd⟩ = (swd 3) ++ ([32] ++ nm) ++ ([32] ++ dnT re im) ++ [59, 10] := by
    simp [dcT]
  have HDT := Lib.hid hdct
  have hsum : l.length + (((swd 3)).length + (([32] ++ nm)).length + (([32] ++ dnT re im)).length + ([59, 10]).length) ≤ 1000000 := by rw [hdct] at hlen; simp only [List.length_append, List.length_cons, List.length_nil] at hlen ⊢; omega
  have HSUM := Lib.hid hsum
  have hok : ok2 re im = true := by have h1 := hwd.re; have h2 := hwd.im; simp only at h1 h2; simp [ok2, okI]; omega
  have HCT : Hid (∀ w', Lb w' → Calls Tryd.prog 39 #[.complex .f64 (fl false re) (fl false im)] w' fun e w'' => e = .returned (.string ⟨(dnT re im).toArray⟩) ∧ Below w'.heap.size w' w'') := Lib.hid (fun w' h' => text_any false false hsm.1 hsm.2 hok w' h'.tb)
  have hdn := dn_len hsm.1 hsm.2
  have hcn := cat_big [32] nm (by simp) (by omega)
  obtain ⟨T3, hT3⟩ : ∃ T3, [32] ++ nm = T3 := ⟨_, rfl⟩
  rw [hT3] at hcn
  have HT3 := Lib.hid hT3
  clear hT3
  have hcd := cat_big [32] (dnT re im) (by simp) (by omega)
  obtain ⟨T4, hT4⟩ : ∃ T4, [32] ++ dnT re im = T4 := ⟨_, rfl⟩
  rw [hT4] at hcd
  have HT4 := Lib.hid hT4
  obtain ⟨DN, hDN⟩ : ∃ DN, dnT re im = DN := ⟨_, rfl⟩
  rw [hDN] at hcd HCT
  clear hT4 hDN
  unfold dcv
  simp only
  obtain ⟨n, hnn⟩ : ∃ n, w.heap.size = n := ⟨_, rfl⟩
  obtain ⟨NM, hNM⟩ : ∃ NM, (⟨nm.toArray⟩ : ByteArray) = NM := ⟨_, rfl⟩
  rw [hNM]
  rw [hNM] at hcn
  generalize fl false re = F at *
  generalize fl false im = G at *
  obtain ⟨bn, hbn⟩ : ∃ bn, bd.len = bn := ⟨_, rfl⟩
  rw [hbn]
  have HBN := Lib.hid hbn
  obtain ⟨W, hW⟩ : ∃ W, w.alloc (dbox 3 NM F G p bn c at_) = W := ⟨_, rfl⟩
  have hblk : W.heap[n]? = some (dbox 3 NM F G p bn c at_) := by rw [← hW, ← hnn]; exact heap_alloc_new _ _
  obtain ⟨b0, b1, b2, b3, b4⟩ := dbox_cells hblk
  have HBLK0 := Lib.hid hblk
  have HW0 : Hid (Wro B b l w W) := Lib.hid (by rw [← hW]; exact (Wro.refl hbu).below hB (below_alloc _ _))
  have hnb : n ≠ b := by omega
  clear hl hb hlen hbu hsum hblk hwd hdct hok hNM hbn hsm
  unfold dbox at hW
  have hW : w.alloc (.cells #[.int .i64 3, .string NM, .complex .f64 F G, .slice p bn c, .int .i64 at_] 43) = W := hW
  have b0 : W.cell? ⟨n, 0, none⟩ = some (.int .i64 3) := b0
  go_enter Tryd.func22, Tryd.ntmps22
  go_wp2_with fail
  have HWW := Lib.hid hW
  clear hW hnn
  refine (sword_any 3 (by omega) W (HL.out.on HW0.out.bel h7)).mono ?_
  rintro e w' ⟨rfl, rfl⟩
  go_wp2_with fail
  refine (write_list B b l (swd 3) W HW0.out.bu (by have h1 := HSUM.out; simp only [List.length_append, List.length_cons, List.length_nil] at *; omega) (HW0.out.size hB)).mono ?_
  rintro e w1 ⟨rfl, hw1⟩
  have HW1 := Lib.hid (HW0.out.trans hw1)
  have hblk := dbox_on HBLK0.out hw1 hnb
  clear b0 b1 b2 b3 b4
  obtain ⟨b0, b1, b2, b3, b4⟩ := dbox_cells hblk
  have b0 : w1.cell? ⟨n, 0, none⟩ = some (.int .i64 3) := b0
  have HBLK1 := Lib.hid hblk
  clear hblk hw1
  go_wp2_with fail
  refine (write_list B b (l ++ (swd 3)) T3 w1 HW1.out.bu (by have h1 := HSUM.out; have h2 := congrArg List.length HT3.out; simp only [List.length_append, List.length_cons, List.length_nil] at *; omega) (HW1.out.size hB)).mono ?_
  rintro e w2 ⟨rfl, hw2⟩
  have HW2 := Lib.hid (HW1.out.trans hw2)
  have hblk := dbox_on HBLK1.out hw2 hnb
  clear b0 b1 b2 b3 b4
  obtain ⟨b0, b1, b2, b3, b4⟩ := dbox_cells hblk
  have b0 : w2.cell? ⟨n, 0, none⟩ = some (.int .i64 3) := b0
  have HBLK2 := Lib.hid hblk
  clear hblk hw2
  go_wp2_with fail
  refine (HCT.out w2 (HL.out.on HW2.out.bel h7)).mono ?_
  rintro e wt ⟨rfl, hbt⟩
  have HWt := Lib.hid (HW2.out.below (HW2.out.size hB) hbt)
  have hblk := (hbt.block n (lt_of_block HBLK2.out)).trans HBLK2.out
  clear b0 b1 b2 b3 b4
  obtain ⟨b0, b1, b2, b3, b4⟩ := dbox_cells hblk
  have HBLKt := Lib.hid hblk
  clear hblk hbt
  go_wp2_with fail
  refine (write_list B b ((l ++ (swd 3)) ++ T3) T4 wt HWt.out.bu (by have h1 := HSUM.out; have h2 := congrArg List.length HT3.out; have h3 := congrArg List.length HT4.out; simp only [List.length_append, List.length_cons, List.length_nil] at *; omega) (HWt.out.size hB)).mono ?_
  rintro e w3 ⟨rfl, hw3⟩
  have HW3 := Lib.hid (HWt.out.trans hw3)
  have hblk := dbox_on HBLKt.out hw3 hnb
  clear b0 b1 b2 b3 b4
  obtain ⟨b0, b1, b2, b3, b4⟩ := dbox_cells hblk
  have b0 : w3.cell? ⟨n, 0, none⟩ = some (.int .i64 3) := b0
  have HBLK3 := Lib.hid hblk
  clear hblk hw3
  go_wp2_with fail
  refine (write_list B b (((l ++ (swd 3)) ++ T3) ++ T4) [59, 10] w3 HW3.out.bu (by have h1 := HSUM.out; have h2 := congrArg List.length HT3.out; have h3 := congrArg List.length HT4.out; simp only [List.length_append, List.length_cons, List.length_nil] at *; omega) (HW3.out.size hB)).mono ?_
  rintro e w4 ⟨rfl, hw4⟩
  have HW4 := Lib.hid (HW3.out.trans hw4)
  have hblk := dbox_on HBLK3.out hw4 hnb
  clear b0 b1 b2 b3 b4
  obtain ⟨b0, b1, b2, b3, b4⟩ := dbox_cells hblk
  have b0 : w4.cell? ⟨n, 0, none⟩ = some (.int .i64 3) := b0
  have HBLK4 := Lib.hid hblk
  clear hblk hw4
  go_wp2
  go_end0
  refine ⟨rfl, ?_⟩
  have := HW4.out
  rw [HDT.out]
  rw [← HT3.out] at this; rw [← HT4.out] at this
  simpa [List.append_assoc] using this

set_option maxRecDepth 100000 in
set_option maxHeartbeats 6400000 in
theorem pdecl_4 (nm : List UInt8) (re im : Int) (bd : Sts) (hwd : Wdc ⟨4, nm, re, im, bd⟩) (B b : Nat) (l : List UInt8) (p : Option Addr) (c : Nat) (at_ : Int) (w : World) (hl : Lb w) (hB : B ≤ w.heap.size) (h7 : 7 ≤ B) (hbu : Bu B b l w) (hb : StsV w (fun g => g < B) bd p c)
    (hlen : l.length + (dcT ⟨4, nm, re, im, bd⟩).length ≤ 1000000) : Calls Tryd.prog 22 #[.pointer (some ⟨b, 0, none⟩), dcv ⟨4, nm, re, im, bd⟩ p c at_] w fun e w' => e = .returned (.tuple #[]) ∧ Wro B b (l ++ dcT ⟨4, nm, re, im, bd⟩) w w' := by
  have hst := store_cx
  have HL := Lib.hid hl
  have HBV := Lib.hid hb
  have hblt : b < w.heap.size := hbu.lt
  have hnml := hwd.nml
  have hsm := hwd.sm
  have HWD := Lib.hid hwd
  simp only at hnml hsm
  have hdct : dcT ⟨4, nm, re, im, bd⟩ = (swd 4) ++ ([32] ++ dnT re im) ++ [59, 10] := by
    simp [dcT]
  have HDT := Lib.hid hdct
  have hsum : l.length + (((swd 4)).length + (([32] ++ dnT re im)).length + ([59, 10]).length) ≤ 1000000 := by rw [hdct] at hlen; simp only [List.length_append, List.length_cons, List.length_nil] at hlen ⊢; omega
  have HSUM := Lib.hid hsum
  have hok : ok2 re im = true := by have h1 := hwd.re; have h2 := hwd.im; simp only at h1 h2; simp [ok2, okI]; omega
  have HCT : Hid (∀ w', Lb w' → Calls Tryd.prog 39 #[.complex .f64 (fl false re) (fl false im)] w' fun e w'' => e = .returned (.string ⟨(dnT re im).toArray⟩) ∧ Below w'.heap.size w' w'') := Lib.hid (fun w' h' => text_any false false hsm.1 hsm.2 hok w' h'.tb)
  have hdn := dn_len hsm.1 hsm.2
  have hcd := cat_big [32] (dnT re im) (by simp) (by omega)
  obtain ⟨T4, hT4⟩ : ∃ T4, [32] ++ dnT re im = T4 := ⟨_, rfl⟩
  rw [hT4] at hcd
  have HT4 := Lib.hid hT4
  obtain ⟨DN, hDN⟩ : ∃ DN, dnT re im = DN := ⟨_, rfl⟩
  rw [hDN] at hcd HCT
  clear hT4 hDN
  unfold dcv
  simp only
  obtain ⟨n, hnn⟩ : ∃ n, w.heap.size = n := ⟨_, rfl⟩
  obtain ⟨NM, hNM⟩ : ∃ NM, (⟨nm.toArray⟩ : ByteArray) = NM := ⟨_, rfl⟩
  rw [hNM]

  generalize fl false re = F at *
  generalize fl false im = G at *
  obtain ⟨bn, hbn⟩ : ∃ bn, bd.len = bn := ⟨_, rfl⟩
  rw [hbn]
  have HBN := Lib.hid hbn
  obtain ⟨W, hW⟩ : ∃ W, w.alloc (dbox 4 NM F G p bn c at_) = W := ⟨_, rfl⟩
  have hblk : W.heap[n]? = some (dbox 4 NM F G p bn c at_) := by rw [← hW, ← hnn]; exact heap_alloc_new _ _
  obtain ⟨b0, b1, b2, b3, b4⟩ := dbox_cells hblk
  have HBLK0 := Lib.hid hblk
  have HW0 : Hid (Wro B b l w W) := Lib.hid (by rw [← hW]; exact (Wro.refl hbu).below hB (below_alloc _ _))
  have hnb : n ≠ b := by omega
  clear hl hb hlen hbu hsum hblk hwd hdct hok hNM hbn hsm
  unfold dbox at hW
  have hW : w.alloc (.cells #[.int .i64 4, .string NM, .complex .f64 F G, .slice p bn c, .int .i64 at_] 43) = W := hW
  have b0 : W.cell? ⟨n, 0, none⟩ = some (.int .i64 4) := b0
  go_enter Tryd.func22, Tryd.ntmps22
  go_wp2_with fail
  have HWW := Lib.hid hW
  clear hW hnn
  refine (sword_any 4 (by omega) W (HL.out.on HW0.out.bel h7)).mono ?_
  rintro e w' ⟨rfl, rfl⟩
  go_wp2_with fail
  refine (write_list B b l (swd 4) W HW0.out.bu (by have h1 := HSUM.out; simp only [List.length_append, List.length_cons, List.length_nil] at *; omega) (HW0.out.size hB)).mono ?_
  rintro e w1 ⟨rfl, hw1⟩
  have HW1 := Lib.hid (HW0.out.trans hw1)
  have hblk := dbox_on HBLK0.out hw1 hnb
  clear b0 b1 b2 b3 b4
  obtain ⟨b0, b1, b2, b3, b4⟩ := dbox_cells hblk
  have b0 : w1.cell? ⟨n, 0, none⟩ = some (.int .i64 4) := b0
  have HBLK1 := Lib.hid hblk
  clear hblk hw1
  go_wp2_with fail
  refine (HCT.out w1 (HL.out.on HW1.out.bel h7)).mono ?_
  rintro e wt ⟨rfl, hbt⟩
  have HWt := Lib.hid (HW1.out.below (HW1.out.size hB) hbt)
  have hblk := (hbt.block n (lt_of_block HBLK1.out)).trans HBLK1.out
  clear b0 b1 b2 b3 b4
  obtain ⟨b0, b1, b2, b3, b4⟩ := dbox_cells hblk
  have HBLKt := Lib.hid hblk
  clear hblk hbt
  go_wp2_with fail
  refine (write_list B b (l ++ (swd 4)) T4 wt HWt.out.bu (by have h1 := HSUM.out; have h2 := congrArg List.length HT4.out; simp only [List.length_append, List.length_cons, List.length_nil] at *; omega) (HWt.out.size hB)).mono ?_
  rintro e w2 ⟨rfl, hw2⟩
  have HW2 := Lib.hid (HWt.out.trans hw2)
  have hblk := dbox_on HBLKt.out hw2 hnb
  clear b0 b1 b2 b3 b4
  obtain ⟨b0, b1, b2, b3, b4⟩ := dbox_cells hblk
  have b0 : w2.cell? ⟨n, 0, none⟩ = some (.int .i64 4) := b0
  have HBLK2 := Lib.hid hblk
  clear hblk hw2
  go_wp2_with fail
  refine (write_list B b ((l ++ (swd 4)) ++ T4) [59, 10] w2 HW2.out.bu (by have h1 := HSUM.out; have h2 := congrArg List.length HT4.out; simp only [List.length_append, List.length_cons, List.length_nil] at *; omega) (HW2.out.size hB)).mono ?_
  rintro e w3 ⟨rfl, hw3⟩
  have HW3 := Lib.hid (HW2.out.trans hw3)
  have hblk := dbox_on HBLK2.out hw3 hnb
  clear b0 b1 b2 b3 b4
  obtain ⟨b0, b1, b2, b3, b4⟩ := dbox_cells hblk
  have b0 : w3.cell? ⟨n, 0, none⟩ = some (.int .i64 4) := b0
  have HBLK3 := Lib.hid hblk
  clear hblk hw3
  go_wp2
  go_end0
  refine ⟨rfl, ?_⟩
  have := HW3.out
  rw [HDT.out]
  rw [← HT4.out] at this
  simpa [List.append_assoc] using this

set_option maxRecDepth 100000 in
set_option maxHeartbeats 6400000 in
theorem pdecl_5 (nm : List UInt8) (re im : Int) (bd : Sts) (hwd : Wdc ⟨5, nm, re, im, bd⟩) (B b : Nat) (l : List UInt8) (p : Option Addr) (c : Nat) (at_ : Int) (w : World) (hl : Lb w) (hB : B ≤ w.heap.size) (h7 : 7 ≤ B) (hbu : Bu B b l w) (hb : StsV w (fun g => g < B) bd p c)
    (hlen : l.length + (dcT ⟨5, nm, re, im, bd⟩).length ≤ 1000000) : Calls Tryd.prog 22 #[.pointer (some ⟨b, 0, none⟩), dcv ⟨5, nm, re, im, bd⟩ p c at_] w fun e w' => e = .returned (.tuple #[]) ∧ Wro B b (l ++ dcT ⟨5, nm, re, im, bd⟩) w w' := by
  have hst := store_cx
  have HL := Lib.hid hl
  have HBV := Lib.hid hb
  have hblt : b < w.heap.size := hbu.lt
  have hnml := hwd.nml
  have hsm := hwd.sm
  have HWD := Lib.hid hwd
  simp only at hnml hsm
  have hdct : dcT ⟨5, nm, re, im, bd⟩ = (swd 5) ++ ([32] ++ nm) ++ blkT bd ++ [10] := by
    simp [dcT]
  have HDT := Lib.hid hdct
  have hsum : l.length + (((swd 5)).length + (([32] ++ nm)).length + (blkT bd).length + ([10]).length) ≤ 1000000 := by rw [hdct] at hlen; simp only [List.length_append, List.length_cons, List.length_nil] at hlen ⊢; omega
  have HSUM := Lib.hid hsum
  have hok : ok2 re im = true := by have h1 := hwd.re; have h2 := hwd.im; simp only at h1 h2; simp [ok2, okI]; omega
  have HCT : Hid (∀ w', Lb w' → Calls Tryd.prog 39 #[.complex .f64 (fl false re) (fl false im)] w' fun e w'' => e = .returned (.string ⟨(dnT re im).toArray⟩) ∧ Below w'.heap.size w' w'') := Lib.hid (fun w' h' => text_any false false hsm.1 hsm.2 hok w' h'.tb)
  have hdn := dn_len hsm.1 hsm.2
  have hcn := cat_big [32] nm (by simp) (by omega)
  obtain ⟨T3, hT3⟩ : ∃ T3, [32] ++ nm = T3 := ⟨_, rfl⟩
  rw [hT3] at hcn
  have HT3 := Lib.hid hT3
  clear hT3
  unfold dcv
  simp only
  obtain ⟨n, hnn⟩ : ∃ n, w.heap.size = n := ⟨_, rfl⟩
  obtain ⟨NM, hNM⟩ : ∃ NM, (⟨nm.toArray⟩ : ByteArray) = NM := ⟨_, rfl⟩
  rw [hNM]
  rw [hNM] at hcn
  generalize fl false re = F at *
  generalize fl false im = G at *
  obtain ⟨bn, hbn⟩ : ∃ bn, bd.len = bn := ⟨_, rfl⟩
  rw [hbn]
  have HBN := Lib.hid hbn
  obtain ⟨W, hW⟩ : ∃ W, w.alloc (dbox 5 NM F G p bn c at_) = W := ⟨_, rfl⟩
  have hblk : W.heap[n]? = some (dbox 5 NM F G p bn c at_) := by rw [← hW, ← hnn]; exact heap_alloc_new _ _
  obtain ⟨b0, b1, b2, b3, b4⟩ := dbox_cells hblk
  have HBLK0 := Lib.hid hblk
  have HW0 : Hid (Wro B b l w W) := Lib.hid (by rw [← hW]; exact (Wro.refl hbu).below hB (below_alloc _ _))
  have hnb : n ≠ b := by omega
  clear hl hb hlen hbu hsum hblk hwd hdct hok hNM hbn hsm
  unfold dbox at hW
  have hW : w.alloc (.cells #[.int .i64 5, .string NM, .complex .f64 F G, .slice p bn c, .int .i64 at_] 43) = W := hW
  have b0 : W.cell? ⟨n, 0, none⟩ = some (.int .i64 5) := b0
  go_enter Tryd.func22, Tryd.ntmps22
  go_wp2_with fail
  have HWW := Lib.hid hW
  clear hW hnn
  refine (sword_any 5 (by omega) W (HL.out.on HW0.out.bel h7)).mono ?_
  rintro e w' ⟨rfl, rfl⟩
  go_wp2_with fail
  refine (write_list B b l (swd 5) W HW0.out.bu (by have h1 := HSUM.out; simp only [List.length_append, List.length_cons, List.length_nil] at *; omega) (HW0.out.size hB)).mono ?_
  rintro e w1 ⟨rfl, hw1⟩
  have HW1 := Lib.hid (HW0.out.trans hw1)
  have hblk := dbox_on HBLK0.out hw1 hnb
  clear b0 b1 b2 b3 b4
  obtain ⟨b0, b1, b2, b3, b4⟩ := dbox_cells hblk
  have b0 : w1.cell? ⟨n, 0, none⟩ = some (.int .i64 5) := b0
  have HBLK1 := Lib.hid hblk
  clear hblk hw1
  go_wp2_with fail
  refine (write_list B b (l ++ (swd 5)) T3 w1 HW1.out.bu (by have h1 := HSUM.out; have h2 := congrArg List.length HT3.out; simp only [List.length_append, List.length_cons, List.length_nil] at *; omega) (HW1.out.size hB)).mono ?_
  rintro e w2 ⟨rfl, hw2⟩
  have HW2 := Lib.hid (HW1.out.trans hw2)
  have hblk := dbox_on HBLK1.out hw2 hnb
  clear b0 b1 b2 b3 b4
  obtain ⟨b0, b1, b2, b3, b4⟩ := dbox_cells hblk
  have b0 : w2.cell? ⟨n, 0, none⟩ = some (.int .i64 5) := b0
  have HBLK2 := Lib.hid hblk
  clear hblk hw2
  go_wp2_with fail
  have hcall := pb_any bd HWD.out.body B b ((l ++ (swd 5)) ++ T3) p c w2 (HL.out.on HW2.out.bel h7) (HW2.out.size hB) h7 HW2.out.bu (HBV.out.on (Same.below HW2.out.bel (fun g h => h)) (fun g h => h)) (by have h1 := HSUM.out; have h2 := congrArg List.length HT3.out; simp only [List.length_append, List.length_cons, List.length_nil] at *; omega)
  rw [HBN.out] at hcall
  refine hcall.mono ?_
  rintro e w3 ⟨rfl, hw3⟩
  have HW3 := Lib.hid (HW2.out.trans hw3)
  clear hcall
  have hblk := dbox_on HBLK2.out hw3 hnb
  clear b0 b1 b2 b3 b4
  obtain ⟨b0, b1, b2, b3, b4⟩ := dbox_cells hblk
  have b0 : w3.cell? ⟨n, 0, none⟩ = some (.int .i64 5) := b0
  have HBLK3 := Lib.hid hblk
  clear hblk hw3
  go_wp2_with fail
  refine (write_list B b (((l ++ (swd 5)) ++ T3) ++ blkT bd) [10] w3 HW3.out.bu (by have h1 := HSUM.out; have h2 := congrArg List.length HT3.out; simp only [List.length_append, List.length_cons, List.length_nil] at *; omega) (HW3.out.size hB)).mono ?_
  rintro e w4 ⟨rfl, hw4⟩
  have HW4 := Lib.hid (HW3.out.trans hw4)
  have hblk := dbox_on HBLK3.out hw4 hnb
  clear b0 b1 b2 b3 b4
  obtain ⟨b0, b1, b2, b3, b4⟩ := dbox_cells hblk
  have b0 : w4.cell? ⟨n, 0, none⟩ = some (.int .i64 5) := b0
  have HBLK4 := Lib.hid hblk
  clear hblk hw4
  go_wp2
  (try simp only [Exit.inBlock, Exit.then])
  refine bodyPost_ret (results_none rfl _ _ _) rfl ?_
  refine ⟨rfl, ?_⟩
  have := HW4.out
  rw [HDT.out]
  rw [← HT3.out] at this
  simpa [List.append_assoc] using this

theorem pdecl_any (d : Dc) (hwd : Wdc d) (B b : Nat) (l : List UInt8) (p : Option Addr) (c : Nat) (at_ : Int) (w : World) (hl : Lb w) (hB : B ≤ w.heap.size) (h7 : 7 ≤ B) (hbu : Bu B b l w) (hb : StsV w (fun g => g < B) d.body p c)
    (hlen : l.length + (dcT d).length ≤ 1000000) : Calls Tryd.prog 22 #[.pointer (some ⟨b, 0, none⟩), dcv d p c at_] w fun e w' => e = .returned (.tuple #[]) ∧ Wro B b (l ++ dcT d) w w' := by
  obtain ⟨so, nm, re, im, bd⟩ := d
  have hso := hwd.so
  simp only at hso
  obtain rfl | rfl | rfl | rfl | rfl | rfl : so = 0 ∨ so = 1 ∨ so = 2 ∨ so = 3 ∨ so = 4 ∨ so = 5 := by omega
  · exact pdecl_0 nm re im bd hwd B b l p c at_ w hl hB h7 hbu hb hlen
  · exact pdecl_1 nm re im bd hwd B b l p c at_ w hl hB h7 hbu hb hlen
  · exact pdecl_2 nm re im bd hwd B b l p c at_ w hl hB h7 hbu hb hlen
  · exact pdecl_3 nm re im bd hwd B b l p c at_ w hl hB h7 hbu hb hlen
  · exact pdecl_4 nm re im bd hwd B b l p c at_ w hl hB h7 hbu hb hlen
  · exact pdecl_5 nm re im bd hwd B b l p c at_ w hl hB h7 hbu hb hlen

end Go.Proofs.YtmomdcnlhljhcaaDoor
