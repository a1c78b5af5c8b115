/- tree.printStmt. -/
import Derived.Test.YtmomdcnlhljhcaaDoorPb
set_option linter.unusedSimpArgs false
set_option linter.unusedVariables false
namespace Go.Proofs.YtmomdcnlhljhcaaDoor
open Go.RowKit Ieee

theorem tail46 (g ln cap : Nat) (h1 : 1 ≤ ln) (hc : ln ≤ cap) : ∃ X, (∀ W : World, (Instr.slice 46 (.slice (some ⟨g, 0, none⟩) ln cap) (some (.int .i64 1)) none none).run Tryd.prog W = .ok (.slice X (ln - 1) (cap - 1)) W) ∧ (2 ≤ ln → X = some ⟨g, 4, none⟩) := by
  refine ⟨if cap = 1 then some ⟨g, 0, none⟩ else some ⟨g, 4, none⟩, fun W => ?_, fun h => if_neg (by omega)⟩
  have h2 : (1 : Int) ≤ (ln : Int) := by omega
  have h3 : (1 : Int) ≤ (cap : Int) := by omega
  go_simp
theorem xsp_of {w : World} {B : Nat} {xs : List Ex} {px : Option Addr} {cx : Nat} (h : XsV w (fun g => g < B) xs px cx) (h7 : 7 ≤ B) : ∃ g, XsP w B xs px g 0 := by
  rcases h with ⟨rfl, rfl, rfl⟩ | ⟨g, rfl, hg, _, _, _, hall⟩
  · exact ⟨0, by omega, fun h => absurd rfl h, fun i e h => by simp at h⟩
  · exact ⟨g, hg, fun _ => rfl, fun i e hi => by rw [Nat.zero_add]; exact hall i e hi⟩
theorem XsP.on {w w' : World} {B : Nat} {xs : List Ex} {X : Option Addr} {g o : Nat} (h : XsP w B xs X g o) (hs : Same (fun g => g < B) w w') : XsP w' B xs X g o := by
  refine ⟨h.1, h.2.1, fun i e hi => ?_⟩
  obtain ⟨q, hc, hp⟩ := h.2.2 i e hi
  exact ⟨q, hc.on hs h.1, hp.on hs (fun g h => h)⟩

set_option maxRecDepth 100000 in
set_option maxHeartbeats 6400000 in
theorem pst_a (k : Nat) (rg nm : List UInt8) (xs : List Ex) (bd es : Sts) (hwh : Wh k rg nm false xs) (hg : gives k = true) (hn : named k = false) (hk : k < 15) (hpb : PbOk bd) (hpe : PbOk es) : PsOk k rg nm false xs bd es := by
  intro B b l px cx pb cb pe ce w hl hB h7 hbu hx hb he hlen
  have hst := store_cx
  have HL := Lib.hid hl
  have HBV := Lib.hid hb
  have HEV := Lib.hid he
  have HPB := Lib.hid hpb
  have HPE := Lib.hid hpe
  have HWH := Lib.hid hwh
  have HXV := Lib.hid hx
  have hkd := hwh.kd
  have hxl := hwh.xlen
  have hblt : b < w.heap.size := hbu.lt
  have HG := Lib.hid hg
  have HM := Lib.hid hn
  have hstt : stT k rg nm false xs bd es = (rg ++ [32, 61, 32]) ++ word k ++ exsT (gap1 k) xs ++ [59, 10] := by
    unfold stT headT nameT restX
    rw [hg, hn]
    simp [if_neg (show ¬ (k = 15 ∨ k = 16) by omega)]
  have HST := Lib.hid hstt
  have hsum : l.length + (((rg ++ [32, 61, 32])).length + (word k).length + (exsT (gap1 k) xs).length + ([59, 10]).length) ≤ 1000000 := by rw [hstt] at hlen; simp only [List.length_append, List.length_cons, List.length_nil] at hlen ⊢; omega
  have HSUM := Lib.hid hsum
  have hrgl := hwh.rlen
  have hnml := hwh.name.len
  have hwl := word_len k
  have hcg := cat_big rg [32, 61, 32] (by omega) (by simp)
  obtain ⟨T1, hT1⟩ : ∃ T1, rg ++ [32, 61, 32] = T1 := ⟨_, rfl⟩
  rw [hT1] at hcg
  have HT1 := Lib.hid hT1
  clear hT1
  obtain ⟨gx, hPX⟩ := xsp_of hx h7
  have HPX := Lib.hid hPX
  clear hPX
  unfold stv
  obtain ⟨n, hnn⟩ : ∃ n, w.heap.size = n := ⟨_, rfl⟩
  have hgn : B ≤ n := by omega
  obtain ⟨ln, hln⟩ : ∃ ln, xs.length = ln := ⟨_, rfl⟩
  have HLN := Lib.hid hln
  rw [hln] at hxl ⊢


  obtain ⟨RG, hRG⟩ : ∃ RG, (⟨rg.toArray⟩ : ByteArray) = RG := ⟨_, rfl⟩
  obtain ⟨NM, hNM⟩ : ∃ NM, (⟨nm.toArray⟩ : ByteArray) = NM := ⟨_, rfl⟩
  rw [hRG, hNM]
  rw [hRG] at hcg

  have HRG := Lib.hid hRG
  have HNM := Lib.hid hNM
  obtain ⟨W, hW⟩ : ∃ W, w.alloc (sbox k RG NM false px ln cx pb bd.len cb pe es.len ce) = W := ⟨_, rfl⟩
  have hblk : W.heap[n]? = some (sbox k RG NM false px ln cx pb bd.len cb pe es.len ce) := by rw [← hW, ← hnn]; exact heap_alloc_new _ _
  obtain ⟨b0, b1, b2, b3, b4, b5, b6, b7⟩ := sbox_cells hblk
  have HBLK0 := Lib.hid hblk
  have HW0 : Hid (Wro B b l w W) := Lib.hid (by rw [← hW]; exact (Wro.refl hbu).below hB (below_alloc _ _))
  have hnb : n ≠ b := by omega
  clear hl hb he hpb hpe hlen hbu hsum hblk hwh hstt hx hg hn  hRG hNM hln
  unfold sbox at hW
  go_enter Tryd.func47, Tryd.ntmps47
  go_wp2_with fail
  have HWW := Lib.hid hW
  clear hW hnn
  refine (gives_any k hkd W).mono ?_
  rintro e w' ⟨rfl, rfl⟩
  rw [HG.out]
  go_wp2_with fail
  refine (write_list B b l T1 W HW0.out.bu (by have h1 := HSUM.out; have h2 := congrArg List.length HT1.out; simp only [List.length_append, List.length_cons, List.length_nil] at *; omega) (HW0.out.size hB)).mono ?_
  rintro e w1 ⟨rfl, hw1⟩
  have HW1 := Lib.hid (HW0.out.trans hw1)
  have hblk := sbox_on HBLK0.out hw1 hnb
  clear b0 b1 b2 b3 b4 b5 b6 b7
  obtain ⟨b0, b1, b2, b3, b4, b5, b6, b7⟩ := sbox_cells hblk
  have HBLK1 := Lib.hid hblk
  clear hblk hw1
  go_wp2_with fail
  refine (kword_any k hkd w1 (HL.out.on HW1.out.bel h7)).mono ?_
  rintro e w' ⟨rfl, rfl⟩
  go_wp2_with fail
  refine (write_list B b (l ++ T1) (word k) w1 HW1.out.bu (by have h1 := HSUM.out; have h2 := congrArg List.length HT1.out; simp only [List.length_append, List.length_cons, List.length_nil] at *; omega) (HW1.out.size hB)).mono ?_
  rintro e w2 ⟨rfl, hw2⟩
  have HW2 := Lib.hid (HW1.out.trans hw2)
  have hblk := sbox_on HBLK1.out hw2 hnb
  clear b0 b1 b2 b3 b4 b5 b6 b7
  obtain ⟨b0, b1, b2, b3, b4, b5, b6, b7⟩ := sbox_cells hblk
  have HBLK2 := Lib.hid hblk
  clear hblk hw2
  go_wp2_with fail
  refine (named_any k hkd w2).mono ?_
  rintro e w' ⟨rfl, rfl⟩
  rw [HM.out]
  go_wp2_with fail
  have hS : Same (fun g => g < B) w w2 := Same.below HW2.out.bel (fun g h => h)
  have hcallx := pexprs_any B b ((l ++ T1) ++ (word k)) k hkd xs px gx 0 cx w2 (HL.out.on HW2.out.bel h7) (HW2.out.size hB) h7 HW2.out.bu (HPX.out.on hS) (fun x hx => HWH.out.ex x (by exact hx)) (by have h1 := HSUM.out; have h2 := congrArg List.length HT1.out; simp only [List.length_append, List.length_cons, List.length_nil] at *; omega) (by rw [HLN.out]; exact hxl)
  rw [HLN.out] at hcallx
  refine hcallx.mono ?_
  rintro e w3 ⟨rfl, hw3⟩
  have HW3 := Lib.hid (HW2.out.trans hw3)
  have hblk := sbox_on HBLK2.out hw3 hnb
  clear b0 b1 b2 b3 b4 b5 b6 b7 hS hcallx
  obtain ⟨b0, b1, b2, b3, b4, b5, b6, b7⟩ := sbox_cells hblk
  have HBLK3 := Lib.hid hblk
  clear hblk hw3
  have hk15 : ((k : Int) == 15) = false := by simp; omega
  have hk16 : ((k : Int) == 16) = false := by simp; omega
  have hk15' : (k == 15) = false := by simp; omega
  have hk16' : (k == 16) = false := by simp; omega
  go_wp2_with fail
  refine (write_list B b (((l ++ T1) ++ (word k)) ++ exsT (gap1 k) xs) [59, 10] w3 HW3.out.bu (by have h1 := HSUM.out; have h2 := congrArg List.length HT1.out; simp only [List.length_append, List.length_cons, List.length_nil] at *; omega) (HW3.out.size hB)).mono ?_
  rintro e w4 ⟨rfl, hw4⟩
  have HW4 := Lib.hid (HW3.out.trans hw4)
  have hblk := sbox_on HBLK3.out hw4 hnb
  clear b0 b1 b2 b3 b4 b5 b6 b7
  obtain ⟨b0, b1, b2, b3, b4, b5, b6, b7⟩ := sbox_cells hblk
  have HBLK4 := Lib.hid hblk
  clear hblk hw4
  go_wp2
  go_end0
  refine ⟨rfl, ?_⟩
  have := HW4.out
  rw [HST.out]
  rw [← HT1.out] at this
  simpa [List.append_assoc] using this

set_option maxRecDepth 100000 in
set_option maxHeartbeats 6400000 in
theorem pst_b0 (k : Nat) (rg nm : List UInt8) (xs : List Ex) (bd es : Sts) (hwh : Wh k rg nm false xs) (hg : gives k = true) (hn : named k = true) (hk : k < 15) (hpb : PbOk bd) (hpe : PbOk es) : PsOk k rg nm false xs bd es := by
  intro B b l px cx pb cb pe ce w hl hB h7 hbu hx hb he hlen
  have hst := store_cx
  have HL := Lib.hid hl
  have HBV := Lib.hid hb
  have HEV := Lib.hid he
  have HPB := Lib.hid hpb
  have HPE := Lib.hid hpe
  have HWH := Lib.hid hwh
  have HXV := Lib.hid hx
  have hkd := hwh.kd
  have hxl := hwh.xlen
  have hblt : b < w.heap.size := hbu.lt
  have HG := Lib.hid hg
  have HM := Lib.hid hn
  have hstt : stT k rg nm false xs bd es = (rg ++ [32, 61, 32]) ++ word k ++ ([32] ++ nm) ++ exsT (gap1 k) xs ++ [59, 10] := by
    unfold stT headT nameT restX
    rw [hg, hn]
    simp [if_neg (show ¬ (k = 15 ∨ k = 16) by omega)]
  have HST := Lib.hid hstt
  have hsum : l.length + (((rg ++ [32, 61, 32])).length + (word k).length + (([32] ++ nm)).length + (exsT (gap1 k) xs).length + ([59, 10]).length) ≤ 1000000 := by rw [hstt] at hlen; simp only [List.length_append, List.length_cons, List.length_nil] at hlen ⊢; omega
  have HSUM := Lib.hid hsum
  have hrgl := hwh.rlen
  have hnml := hwh.name.len
  have hwl := word_len k
  have hcg := cat_big rg [32, 61, 32] (by omega) (by simp)
  obtain ⟨T1, hT1⟩ : ∃ T1, rg ++ [32, 61, 32] = T1 := ⟨_, rfl⟩
  rw [hT1] at hcg
  have HT1 := Lib.hid hT1
  clear hT1
  have hcn := cat_big [32] nm (by simp) (by omega)
  obtain ⟨T3, hT3⟩ : ∃ T3, [32] ++ nm = T3 := ⟨_, rfl⟩
  rw [hT3] at hcn
  have HT3 := Lib.hid hT3
  clear hT3
  obtain ⟨gx, hPX⟩ := xsp_of hx h7
  have HPX := Lib.hid hPX
  clear hPX
  unfold stv
  obtain ⟨n, hnn⟩ : ∃ n, w.heap.size = n := ⟨_, rfl⟩
  have hgn : B ≤ n := by omega
  obtain ⟨ln, hln⟩ : ∃ ln, xs.length = ln := ⟨_, rfl⟩
  have HLN := Lib.hid hln
  rw [hln] at hxl ⊢


  obtain ⟨RG, hRG⟩ : ∃ RG, (⟨rg.toArray⟩ : ByteArray) = RG := ⟨_, rfl⟩
  obtain ⟨NM, hNM⟩ : ∃ NM, (⟨nm.toArray⟩ : ByteArray) = NM := ⟨_, rfl⟩
  rw [hRG, hNM]
  rw [hRG] at hcg
  rw [hNM] at hcn
  have HRG := Lib.hid hRG
  have HNM := Lib.hid hNM
  obtain ⟨W, hW⟩ : ∃ W, w.alloc (sbox k RG NM false px ln cx pb bd.len cb pe es.len ce) = W := ⟨_, rfl⟩
  have hblk : W.heap[n]? = some (sbox k RG NM false px ln cx pb bd.len cb pe es.len ce) := by rw [← hW, ← hnn]; exact heap_alloc_new _ _
  obtain ⟨b0, b1, b2, b3, b4, b5, b6, b7⟩ := sbox_cells hblk
  have HBLK0 := Lib.hid hblk
  have HW0 : Hid (Wro B b l w W) := Lib.hid (by rw [← hW]; exact (Wro.refl hbu).below hB (below_alloc _ _))
  have hnb : n ≠ b := by omega
  clear hl hb he hpb hpe hlen hbu hsum hblk hwh hstt hx hg hn  hRG hNM hln
  unfold sbox at hW
  go_enter Tryd.func47, Tryd.ntmps47
  go_wp2_with fail
  have HWW := Lib.hid hW
  clear hW hnn
  refine (gives_any k hkd W).mono ?_
  rintro e w' ⟨rfl, rfl⟩
  rw [HG.out]
  go_wp2_with fail
  refine (write_list B b l T1 W HW0.out.bu (by have h1 := HSUM.out; have h2 := congrArg List.length HT1.out; simp only [List.length_append, List.length_cons, List.length_nil] at *; omega) (HW0.out.size hB)).mono ?_
  rintro e w1 ⟨rfl, hw1⟩
  have HW1 := Lib.hid (HW0.out.trans hw1)
  have hblk := sbox_on HBLK0.out hw1 hnb
  clear b0 b1 b2 b3 b4 b5 b6 b7
  obtain ⟨b0, b1, b2, b3, b4, b5, b6, b7⟩ := sbox_cells hblk
  have HBLK1 := Lib.hid hblk
  clear hblk hw1
  go_wp2_with fail
  refine (kword_any k hkd w1 (HL.out.on HW1.out.bel h7)).mono ?_
  rintro e w' ⟨rfl, rfl⟩
  go_wp2_with fail
  refine (write_list B b (l ++ T1) (word k) w1 HW1.out.bu (by have h1 := HSUM.out; have h2 := congrArg List.length HT1.out; simp only [List.length_append, List.length_cons, List.length_nil] at *; omega) (HW1.out.size hB)).mono ?_
  rintro e w2 ⟨rfl, hw2⟩
  have HW2 := Lib.hid (HW1.out.trans hw2)
  have hblk := sbox_on HBLK1.out hw2 hnb
  clear b0 b1 b2 b3 b4 b5 b6 b7
  obtain ⟨b0, b1, b2, b3, b4, b5, b6, b7⟩ := sbox_cells hblk
  have HBLK2 := Lib.hid hblk
  clear hblk hw2
  go_wp2_with fail
  refine (named_any k hkd w2).mono ?_
  rintro e w' ⟨rfl, rfl⟩
  rw [HM.out]
  go_wp2_with fail
  refine (write_list B b ((l ++ T1) ++ (word k)) T3 w2 HW2.out.bu (by have h1 := HSUM.out; have h2 := congrArg List.length HT1.out; have h3 := congrArg List.length HT3.out; simp only [List.length_append, List.length_cons, List.length_nil] at *; omega) (HW2.out.size hB)).mono ?_
  rintro e w3 ⟨rfl, hw3⟩
  have HW3 := Lib.hid (HW2.out.trans hw3)
  have hblk := sbox_on HBLK2.out hw3 hnb
  clear b0 b1 b2 b3 b4 b5 b6 b7
  obtain ⟨b0, b1, b2, b3, b4, b5, b6, b7⟩ := sbox_cells hblk
  have HBLK3 := Lib.hid hblk
  clear hblk hw3
  go_wp2_with fail
  have hS : Same (fun g => g < B) w w3 := Same.below HW3.out.bel (fun g h => h)
  have hcallx := pexprs_any B b (((l ++ T1) ++ (word k)) ++ T3) k hkd xs px gx 0 cx w3 (HL.out.on HW3.out.bel h7) (HW3.out.size hB) h7 HW3.out.bu (HPX.out.on hS) (fun x hx => HWH.out.ex x (by exact hx)) (by have h1 := HSUM.out; have h2 := congrArg List.length HT1.out; have h3 := congrArg List.length HT3.out; simp only [List.length_append, List.length_cons, List.length_nil] at *; omega) (by rw [HLN.out]; exact hxl)
  rw [HLN.out] at hcallx
  refine hcallx.mono ?_
  rintro e w4 ⟨rfl, hw4⟩
  have HW4 := Lib.hid (HW3.out.trans hw4)
  have hblk := sbox_on HBLK3.out hw4 hnb
  clear b0 b1 b2 b3 b4 b5 b6 b7 hS hcallx
  obtain ⟨b0, b1, b2, b3, b4, b5, b6, b7⟩ := sbox_cells hblk
  have HBLK4 := Lib.hid hblk
  clear hblk hw4
  have hk15 : ((k : Int) == 15) = false := by simp; omega
  have hk16 : ((k : Int) == 16) = false := by simp; omega
  have hk15' : (k == 15) = false := by simp; omega
  have hk16' : (k == 16) = false := by simp; omega
  go_wp2_with fail
  refine (write_list B b ((((l ++ T1) ++ (word k)) ++ T3) ++ exsT (gap1 k) xs) [59, 10] w4 HW4.out.bu (by have h1 := HSUM.out; have h2 := congrArg List.length HT1.out; have h3 := congrArg List.length HT3.out; simp only [List.length_append, List.length_cons, List.length_nil] at *; omega) (HW4.out.size hB)).mono ?_
  rintro e w5 ⟨rfl, hw5⟩
  have HW5 := Lib.hid (HW4.out.trans hw5)
  have hblk := sbox_on HBLK4.out hw5 hnb
  clear b0 b1 b2 b3 b4 b5 b6 b7
  obtain ⟨b0, b1, b2, b3, b4, b5, b6, b7⟩ := sbox_cells hblk
  have HBLK5 := Lib.hid hblk
  clear hblk hw5
  go_wp2
  go_end0
  refine ⟨rfl, ?_⟩
  have := HW5.out
  rw [HST.out]
  rw [← HT1.out] at this; rw [← HT3.out] at this
  simpa [List.append_assoc] using this

set_option maxRecDepth 100000 in
set_option maxHeartbeats 6400000 in
theorem pst_b1 (k : Nat) (rg nm : List UInt8) (xs : List Ex) (bd es : Sts) (hwh : Wh k rg nm true xs) (hg : gives k = true) (hn : named k = true) (hk : k < 15) (hpb : PbOk bd) (hpe : PbOk es) : PsOk k rg nm true xs bd es := by
  intro B b l px cx pb cb pe ce w hl hB h7 hbu hx hb he hlen
  have hst := store_cx
  have HL := Lib.hid hl
  have HBV := Lib.hid hb
  have HEV := Lib.hid he
  have HPB := Lib.hid hpb
  have HPE := Lib.hid hpe
  have HWH := Lib.hid hwh
  have HXV := Lib.hid hx
  have hkd := hwh.kd
  have hxl := hwh.xlen
  have hblt : b < w.heap.size := hbu.lt
  have HG := Lib.hid hg
  have HM := Lib.hid hn
  obtain ⟨x0, xr, hxs⟩ : ∃ x0 xr, xs = x0 :: xr := by
    cases hxx : xs with
    | nil => have := hwh.many; rw [hxx] at this; simp at this
    | cons x0 xr => exact ⟨x0, xr, rfl⟩
  have HXS := Lib.hid hxs
  have hstt : stT k rg nm true xs bd es = (rg ++ [32, 61, 32]) ++ word k ++ ([32] ++ nm) ++ ([91] ++ ext x0 ++ [93]) ++ exsT (gap1 k) xr ++ [59, 10] := by
    unfold stT headT nameT restX
    rw [hg, hn, hxs]
    simp [if_neg (show ¬ (k = 15 ∨ k = 16) by omega)]
  have HST := Lib.hid hstt
  have hsum : l.length + (((rg ++ [32, 61, 32])).length + (word k).length + (([32] ++ nm)).length + (([91] ++ ext x0 ++ [93])).length + (exsT (gap1 k) xr).length + ([59, 10]).length) ≤ 1000000 := by rw [hstt] at hlen; simp only [List.length_append, List.length_cons, List.length_nil] at hlen ⊢; omega
  have HSUM := Lib.hid hsum
  have hrgl := hwh.rlen
  have hnml := hwh.name.len
  have hwl := word_len k
  have hcg := cat_big rg [32, 61, 32] (by omega) (by simp)
  obtain ⟨T1, hT1⟩ : ∃ T1, rg ++ [32, 61, 32] = T1 := ⟨_, rfl⟩
  rw [hT1] at hcg
  have HT1 := Lib.hid hT1
  clear hT1
  have hcn := cat_big [32] nm (by simp) (by omega)
  obtain ⟨T3, hT3⟩ : ∃ T3, [32] ++ nm = T3 := ⟨_, rfl⟩
  rw [hT3] at hcn
  have HT3 := Lib.hid hT3
  clear hT3
  have hx0l : (ext x0).length ≤ 1000000 := by have := HSUM.out; simp only [List.length_append] at this; omega
  have hc1 := cat_big [91] (ext x0) (by simp) (by omega)
  have hc2 := cat_big ([91] ++ ext x0) [93] (by simp; omega) (by simp)
  obtain ⟨M1, hM1⟩ : ∃ M1, [91] ++ ext x0 = M1 := ⟨_, rfl⟩
  rw [hM1] at hc1 hc2
  obtain ⟨T4, hT4⟩ : ∃ T4, M1 ++ [93] = T4 := ⟨_, rfl⟩
  rw [hT4] at hc2
  have HT4 : Hid ([91] ++ ext x0 ++ [93] = T4) := Lib.hid (by rw [hM1, hT4])
  obtain ⟨E0, hE0⟩ : ∃ E0, ext x0 = E0 := ⟨_, rfl⟩
  rw [hE0] at hc1
  have HE0 := Lib.hid hE0
  have hx0w : Wx x0 := hwh.ex x0 (by rw [hxs]; simp)
  have hlns : xs.length = xr.length + 1 := by rw [hxs]; simp
  rcases hx with ⟨h, _⟩ | ⟨gx, rfl, hgx, hx1, hx2, hx3, hall⟩
  · rw [hxs] at h; cases h
  obtain ⟨q0, hq0, hp0⟩ := hall 0 x0 (by rw [hxs]; rfl)
  obtain ⟨X, hX, hX1⟩ := tail46 gx xs.length cx (by omega) hx2
  have HX1 := Lib.hid hX1
  have HQ0 := Lib.hid hq0
  have HP0 := Lib.hid hp0
  have HALL := Lib.hid hall
  have hPX : XsP w B xr X gx 4 := by
    refine ⟨hgx, fun h => hX1 (by cases xr with | nil => exact absurd rfl h | cons y l => simp at hlns; omega), fun i e hi => ?_⟩
    obtain ⟨q, hc, hp⟩ := hall (i + 1) e (by rw [hxs]; simpa using hi)
    exact ⟨q, by rw [show 4 + i * 4 = (i + 1) * 4 by omega]; exact hc, hp⟩
  have HPX := Lib.hid hPX
  clear hM1 hT4 hE0 hX1 hq0 hp0 hall hPX
  unfold stv
  obtain ⟨n, hnn⟩ : ∃ n, w.heap.size = n := ⟨_, rfl⟩
  have hgn : B ≤ n := by omega
  obtain ⟨ln, hln⟩ : ∃ ln, xs.length = ln := ⟨_, rfl⟩
  have HLN := Lib.hid hln
  rw [hln] at hxl hX hx1 hx2 hlns ⊢
  have HLNS := Lib.hid hlns
  clear hlns
  obtain ⟨RG, hRG⟩ : ∃ RG, (⟨rg.toArray⟩ : ByteArray) = RG := ⟨_, rfl⟩
  obtain ⟨NM, hNM⟩ : ∃ NM, (⟨nm.toArray⟩ : ByteArray) = NM := ⟨_, rfl⟩
  rw [hRG, hNM]
  rw [hRG] at hcg
  rw [hNM] at hcn
  have HRG := Lib.hid hRG
  have HNM := Lib.hid hNM
  obtain ⟨W, hW⟩ : ∃ W, w.alloc (sbox k RG NM true (some ⟨gx, 0, none⟩) ln cx pb bd.len cb pe es.len ce) = W := ⟨_, rfl⟩
  have hblk : W.heap[n]? = some (sbox k RG NM true (some ⟨gx, 0, none⟩) ln cx pb bd.len cb pe es.len ce) := by rw [← hW, ← hnn]; exact heap_alloc_new _ _
  obtain ⟨b0, b1, b2, b3, b4, b5, b6, b7⟩ := sbox_cells hblk
  have HBLK0 := Lib.hid hblk
  have HW0 : Hid (Wro B b l w W) := Lib.hid (by rw [← hW]; exact (Wro.refl hbu).below hB (below_alloc _ _))
  have hnb : n ≠ b := by omega
  clear hl hb he hpb hpe hlen hbu hsum hblk hwh hstt  hg hn hxs hRG hNM hln
  unfold sbox at hW
  go_enter Tryd.func47, Tryd.ntmps47
  go_wp2_with fail
  have HWW := Lib.hid hW
  clear hW hnn
  refine (gives_any k hkd W).mono ?_
  rintro e w' ⟨rfl, rfl⟩
  rw [HG.out]
  go_wp2_with fail
  refine (write_list B b l T1 W HW0.out.bu (by have h1 := HSUM.out; have h2 := congrArg List.length HT1.out; simp only [List.length_append, List.length_cons, List.length_nil] at *; omega) (HW0.out.size hB)).mono ?_
  rintro e w1 ⟨rfl, hw1⟩
  have HW1 := Lib.hid (HW0.out.trans hw1)
  have hblk := sbox_on HBLK0.out hw1 hnb
  clear b0 b1 b2 b3 b4 b5 b6 b7
  obtain ⟨b0, b1, b2, b3, b4, b5, b6, b7⟩ := sbox_cells hblk
  have HBLK1 := Lib.hid hblk
  clear hblk hw1
  go_wp2_with fail
  refine (kword_any k hkd w1 (HL.out.on HW1.out.bel h7)).mono ?_
  rintro e w' ⟨rfl, rfl⟩
  go_wp2_with fail
  refine (write_list B b (l ++ T1) (word k) w1 HW1.out.bu (by have h1 := HSUM.out; have h2 := congrArg List.length HT1.out; simp only [List.length_append, List.length_cons, List.length_nil] at *; omega) (HW1.out.size hB)).mono ?_
  rintro e w2 ⟨rfl, hw2⟩
  have HW2 := Lib.hid (HW1.out.trans hw2)
  have hblk := sbox_on HBLK1.out hw2 hnb
  clear b0 b1 b2 b3 b4 b5 b6 b7
  obtain ⟨b0, b1, b2, b3, b4, b5, b6, b7⟩ := sbox_cells hblk
  have HBLK2 := Lib.hid hblk
  clear hblk hw2
  go_wp2_with fail
  refine (named_any k hkd w2).mono ?_
  rintro e w' ⟨rfl, rfl⟩
  rw [HM.out]
  go_wp2_with fail
  refine (write_list B b ((l ++ T1) ++ (word k)) T3 w2 HW2.out.bu (by have h1 := HSUM.out; have h2 := congrArg List.length HT1.out; have h3 := congrArg List.length HT3.out; simp only [List.length_append, List.length_cons, List.length_nil] at *; omega) (HW2.out.size hB)).mono ?_
  rintro e w3 ⟨rfl, hw3⟩
  have HW3 := Lib.hid (HW2.out.trans hw3)
  have hblk := sbox_on HBLK2.out hw3 hnb
  clear b0 b1 b2 b3 b4 b5 b6 b7
  obtain ⟨b0, b1, b2, b3, b4, b5, b6, b7⟩ := sbox_cells hblk
  have HBLK3 := Lib.hid hblk
  clear hblk hw3
  obtain ⟨c0, c1, c2, c3⟩ := HQ0.out.on (Same.below HW3.out.bel (fun g h => h) : Same (fun g => g < B) w w3) hgx
  simp only [Nat.zero_mul, Nat.zero_add] at c0 c1 c2 c3
  have hcall := etext_any x0 q0 w3 (HL.out.on HW3.out.bel h7) hx0w (HP0.out.on (Same.below HW3.out.bel (fun g h => h)) (fun g h => Nat.lt_of_lt_of_le h (HW3.out.size hB))) hx0l
  rw [HE0.out] at hcall
  have HCALL := Lib.hid hcall
  unfold exv at HCALL
  generalize opB x0 = s0 at *
  generalize nxB x0 = xx0 at *
  generalize nyB x0 = yy0 at *
  generalize nmB x0 = s1 at *
  generalize npB x0 = n0 at *
  have hln0 : (0 : Int) < (ln : Int) := by omega
  have hln0' : 0 < ln := by omega
  clear hcall
  go_wp2_with fail
  refine HCALL.out.mono ?_
  rintro e wt ⟨rfl, hbt⟩
  have HWt := Lib.hid (HW3.out.below (HW3.out.size hB) hbt)
  have hblk := (hbt.block n (lt_of_block HBLK3.out)).trans HBLK3.out
  clear b0 b1 b2 b3 b4 b5 b6 b7 c0 c1 c2 c3
  obtain ⟨b0, b1, b2, b3, b4, b5, b6, b7⟩ := sbox_cells hblk
  have HBLKt := Lib.hid hblk
  clear hblk hbt
  go_wp2_with fail
  refine (write_list B b (((l ++ T1) ++ (word k)) ++ T3) T4 wt HWt.out.bu (by have h1 := HSUM.out; have h2 := congrArg List.length HT1.out; have h3 := congrArg List.length HT3.out; have h4 := congrArg List.length HT4.out; simp only [List.length_append, List.length_cons, List.length_nil] at *; omega) (HWt.out.size hB)).mono ?_
  rintro e w4 ⟨rfl, hw4⟩
  have HW4 := Lib.hid (HWt.out.trans hw4)
  have hblk := sbox_on HBLKt.out hw4 hnb
  clear b0 b1 b2 b3 b4 b5 b6 b7
  obtain ⟨b0, b1, b2, b3, b4, b5, b6, b7⟩ := sbox_cells hblk
  have HBLK4 := Lib.hid hblk
  clear hblk hw4
  go_wp2_with fail
  have hS : Same (fun g => g < B) w w4 := Same.below HW4.out.bel (fun g h => h)
  have hcallx := pexprs_any B b ((((l ++ T1) ++ (word k)) ++ T3) ++ T4) k hkd xr X gx 4 (cx - 1) w4 (HL.out.on HW4.out.bel h7) (HW4.out.size hB) h7 HW4.out.bu (HPX.out.on hS) (fun x hx => HWH.out.ex x (by rw [HXS.out]; exact List.mem_cons_of_mem _ hx)) (by have h1 := HSUM.out; have h2 := congrArg List.length HT1.out; have h3 := congrArg List.length HT3.out; have h4 := congrArg List.length HT4.out; simp only [List.length_append, List.length_cons, List.length_nil] at *; omega) (by have := HLNS.out; omega)
  rw [show xr.length = ln - 1 by have := HLNS.out; omega] at hcallx
  refine hcallx.mono ?_
  rintro e w5 ⟨rfl, hw5⟩
  have HW5 := Lib.hid (HW4.out.trans hw5)
  have hblk := sbox_on HBLK4.out hw5 hnb
  clear b0 b1 b2 b3 b4 b5 b6 b7 hS hcallx
  obtain ⟨b0, b1, b2, b3, b4, b5, b6, b7⟩ := sbox_cells hblk
  have HBLK5 := Lib.hid hblk
  clear hblk hw5
  have hk15 : ((k : Int) == 15) = false := by simp; omega
  have hk16 : ((k : Int) == 16) = false := by simp; omega
  have hk15' : (k == 15) = false := by simp; omega
  have hk16' : (k == 16) = false := by simp; omega
  go_wp2_with fail
  refine (write_list B b (((((l ++ T1) ++ (word k)) ++ T3) ++ T4) ++ exsT (gap1 k) xr) [59, 10] w5 HW5.out.bu (by have h1 := HSUM.out; have h2 := congrArg List.length HT1.out; have h3 := congrArg List.length HT3.out; have h4 := congrArg List.length HT4.out; simp only [List.length_append, List.length_cons, List.length_nil] at *; omega) (HW5.out.size hB)).mono ?_
  rintro e w6 ⟨rfl, hw6⟩
  have HW6 := Lib.hid (HW5.out.trans hw6)
  have hblk := sbox_on HBLK5.out hw6 hnb
  clear b0 b1 b2 b3 b4 b5 b6 b7
  obtain ⟨b0, b1, b2, b3, b4, b5, b6, b7⟩ := sbox_cells hblk
  have HBLK6 := Lib.hid hblk
  clear hblk hw6
  go_wp2
  go_end0
  refine ⟨rfl, ?_⟩
  have := HW6.out
  rw [HST.out]
  rw [← HT1.out] at this; rw [← HT3.out] at this; rw [← HT4.out] at this
  simpa [List.append_assoc] using this

set_option maxRecDepth 100000 in
set_option maxHeartbeats 6400000 in
theorem pst_c0 (k : Nat) (rg nm : List UInt8) (xs : List Ex) (bd es : Sts) (hwh : Wh k rg nm false xs) (hg : gives k = false) (hn : named k = true) (hk : k < 15) (hpb : PbOk bd) (hpe : PbOk es) : PsOk k rg nm false xs bd es := by
  intro B b l px cx pb cb pe ce w hl hB h7 hbu hx hb he hlen
  have hst := store_cx
  have HL := Lib.hid hl
  have HBV := Lib.hid hb
  have HEV := Lib.hid he
  have HPB := Lib.hid hpb
  have HPE := Lib.hid hpe
  have HWH := Lib.hid hwh
  have HXV := Lib.hid hx
  have hkd := hwh.kd
  have hxl := hwh.xlen
  have hblt : b < w.heap.size := hbu.lt
  have HG := Lib.hid hg
  have HM := Lib.hid hn
  have hstt : stT k rg nm false xs bd es = word k ++ ([32] ++ nm) ++ exsT (gap1 k) xs ++ [59, 10] := by
    unfold stT headT nameT restX
    rw [hg, hn]
    simp [if_neg (show ¬ (k = 15 ∨ k = 16) by omega)]
  have HST := Lib.hid hstt
  have hsum : l.length + ((word k).length + (([32] ++ nm)).length + (exsT (gap1 k) xs).length + ([59, 10]).length) ≤ 1000000 := by rw [hstt] at hlen; simp only [List.length_append, List.length_cons, List.length_nil] at hlen ⊢; omega
  have HSUM := Lib.hid hsum
  have hrgl := hwh.rlen
  have hnml := hwh.name.len
  have hwl := word_len k
  have hcn := cat_big [32] nm (by simp) (by omega)
  obtain ⟨T3, hT3⟩ : ∃ T3, [32] ++ nm = T3 := ⟨_, rfl⟩
  rw [hT3] at hcn
  have HT3 := Lib.hid hT3
  clear hT3
  obtain ⟨gx, hPX⟩ := xsp_of hx h7
  have HPX := Lib.hid hPX
  clear hPX
  unfold stv
  obtain ⟨n, hnn⟩ : ∃ n, w.heap.size = n := ⟨_, rfl⟩
  have hgn : B ≤ n := by omega
  obtain ⟨ln, hln⟩ : ∃ ln, xs.length = ln := ⟨_, rfl⟩
  have HLN := Lib.hid hln
  rw [hln] at hxl ⊢


  obtain ⟨RG, hRG⟩ : ∃ RG, (⟨rg.toArray⟩ : ByteArray) = RG := ⟨_, rfl⟩
  obtain ⟨NM, hNM⟩ : ∃ NM, (⟨nm.toArray⟩ : ByteArray) = NM := ⟨_, rfl⟩
  rw [hRG, hNM]

  rw [hNM] at hcn
  have HRG := Lib.hid hRG
  have HNM := Lib.hid hNM
  obtain ⟨W, hW⟩ : ∃ W, w.alloc (sbox k RG NM false px ln cx pb bd.len cb pe es.len ce) = W := ⟨_, rfl⟩
  have hblk : W.heap[n]? = some (sbox k RG NM false px ln cx pb bd.len cb pe es.len ce) := by rw [← hW, ← hnn]; exact heap_alloc_new _ _
  obtain ⟨b0, b1, b2, b3, b4, b5, b6, b7⟩ := sbox_cells hblk
  have HBLK0 := Lib.hid hblk
  have HW0 : Hid (Wro B b l w W) := Lib.hid (by rw [← hW]; exact (Wro.refl hbu).below hB (below_alloc _ _))
  have hnb : n ≠ b := by omega
  clear hl hb he hpb hpe hlen hbu hsum hblk hwh hstt hx hg hn  hRG hNM hln
  unfold sbox at hW
  go_enter Tryd.func47, Tryd.ntmps47
  go_wp2_with fail
  have HWW := Lib.hid hW
  clear hW hnn
  refine (gives_any k hkd W).mono ?_
  rintro e w' ⟨rfl, rfl⟩
  rw [HG.out]
  go_wp2_with fail
  refine (kword_any k hkd W (HL.out.on HW0.out.bel h7)).mono ?_
  rintro e w' ⟨rfl, rfl⟩
  go_wp2_with fail
  refine (write_list B b l (word k) W HW0.out.bu (by have h1 := HSUM.out; simp only [List.length_append, List.length_cons, List.length_nil] at *; omega) (HW0.out.size hB)).mono ?_
  rintro e w1 ⟨rfl, hw1⟩
  have HW1 := Lib.hid (HW0.out.trans hw1)
  have hblk := sbox_on HBLK0.out hw1 hnb
  clear b0 b1 b2 b3 b4 b5 b6 b7
  obtain ⟨b0, b1, b2, b3, b4, b5, b6, b7⟩ := sbox_cells hblk
  have HBLK1 := Lib.hid hblk
  clear hblk hw1
  go_wp2_with fail
  refine (named_any k hkd w1).mono ?_
  rintro e w' ⟨rfl, rfl⟩
  rw [HM.out]
  go_wp2_with fail
  refine (write_list B b (l ++ (word k)) T3 w1 HW1.out.bu (by have h1 := HSUM.out; have h2 := congrArg List.length HT3.out; simp only [List.length_append, List.length_cons, List.length_nil] at *; omega) (HW1.out.size hB)).mono ?_
  rintro e w2 ⟨rfl, hw2⟩
  have HW2 := Lib.hid (HW1.out.trans hw2)
  have hblk := sbox_on HBLK1.out hw2 hnb
  clear b0 b1 b2 b3 b4 b5 b6 b7
  obtain ⟨b0, b1, b2, b3, b4, b5, b6, b7⟩ := sbox_cells hblk
  have HBLK2 := Lib.hid hblk
  clear hblk hw2
  go_wp2_with fail
  have hS : Same (fun g => g < B) w w2 := Same.below HW2.out.bel (fun g h => h)
  have hcallx := pexprs_any B b ((l ++ (word k)) ++ T3) k hkd xs px gx 0 cx w2 (HL.out.on HW2.out.bel h7) (HW2.out.size hB) h7 HW2.out.bu (HPX.out.on hS) (fun x hx => HWH.out.ex x (by exact hx)) (by have h1 := HSUM.out; have h2 := congrArg List.length HT3.out; simp only [List.length_append, List.length_cons, List.length_nil] at *; omega) (by rw [HLN.out]; exact hxl)
  rw [HLN.out] at hcallx
  refine hcallx.mono ?_
  rintro e w3 ⟨rfl, hw3⟩
  have HW3 := Lib.hid (HW2.out.trans hw3)
  have hblk := sbox_on HBLK2.out hw3 hnb
  clear b0 b1 b2 b3 b4 b5 b6 b7 hS hcallx
  obtain ⟨b0, b1, b2, b3, b4, b5, b6, b7⟩ := sbox_cells hblk
  have HBLK3 := Lib.hid hblk
  clear hblk hw3
  have hk15 : ((k : Int) == 15) = false := by simp; omega
  have hk16 : ((k : Int) == 16) = false := by simp; omega
  have hk15' : (k == 15) = false := by simp; omega
  have hk16' : (k == 16) = false := by simp; omega
  go_wp2_with fail
  refine (write_list B b (((l ++ (word k)) ++ T3) ++ exsT (gap1 k) xs) [59, 10] w3 HW3.out.bu (by have h1 := HSUM.out; have h2 := congrArg List.length HT3.out; simp only [List.length_append, List.length_cons, List.length_nil] at *; omega) (HW3.out.size hB)).mono ?_
  rintro e w4 ⟨rfl, hw4⟩
  have HW4 := Lib.hid (HW3.out.trans hw4)
  have hblk := sbox_on HBLK3.out hw4 hnb
  clear b0 b1 b2 b3 b4 b5 b6 b7
  obtain ⟨b0, b1, b2, b3, b4, b5, b6, b7⟩ := sbox_cells hblk
  have HBLK4 := Lib.hid hblk
  clear hblk hw4
  go_wp2
  go_end0
  refine ⟨rfl, ?_⟩
  have := HW4.out
  rw [HST.out]
  rw [← HT3.out] at this
  simpa [List.append_assoc] using this

set_option maxRecDepth 100000 in
set_option maxHeartbeats 6400000 in
theorem pst_c1 (k : Nat) (rg nm : List UInt8) (xs : List Ex) (bd es : Sts) (hwh : Wh k rg nm true xs) (hg : gives k = false) (hn : named k = true) (hk : k < 15) (hpb : PbOk bd) (hpe : PbOk es) : PsOk k rg nm true xs bd es := by
  intro B b l px cx pb cb pe ce w hl hB h7 hbu hx hb he hlen
  have hst := store_cx
  have HL := Lib.hid hl
  have HBV := Lib.hid hb
  have HEV := Lib.hid he
  have HPB := Lib.hid hpb
  have HPE := Lib.hid hpe
  have HWH := Lib.hid hwh
  have HXV := Lib.hid hx
  have hkd := hwh.kd
  have hxl := hwh.xlen
  have hblt : b < w.heap.size := hbu.lt
  have HG := Lib.hid hg
  have HM := Lib.hid hn
  obtain ⟨x0, xr, hxs⟩ : ∃ x0 xr, xs = x0 :: xr := by
    cases hxx : xs with
    | nil => have := hwh.many; rw [hxx] at this; simp at this
    | cons x0 xr => exact ⟨x0, xr, rfl⟩
  have HXS := Lib.hid hxs
  have hstt : stT k rg nm true xs bd es = word k ++ ([32] ++ nm) ++ ([91] ++ ext x0 ++ [93]) ++ exsT (gap1 k) xr ++ [59, 10] := by
    unfold stT headT nameT restX
    rw [hg, hn, hxs]
    simp [if_neg (show ¬ (k = 15 ∨ k = 16) by omega)]
  have HST := Lib.hid hstt
  have hsum : l.length + ((word k).length + (([32] ++ nm)).length + (([91] ++ ext x0 ++ [93])).length + (exsT (gap1 k) xr).length + ([59, 10]).length) ≤ 1000000 := by rw [hstt] at hlen; simp only [List.length_append, List.length_cons, List.length_nil] at hlen ⊢; omega
  have HSUM := Lib.hid hsum
  have hrgl := hwh.rlen
  have hnml := hwh.name.len
  have hwl := word_len k
  have hcn := cat_big [32] nm (by simp) (by omega)
  obtain ⟨T3, hT3⟩ : ∃ T3, [32] ++ nm = T3 := ⟨_, rfl⟩
  rw [hT3] at hcn
  have HT3 := Lib.hid hT3
  clear hT3
  have hx0l : (ext x0).length ≤ 1000000 := by have := HSUM.out; simp only [List.length_append] at this; omega
  have hc1 := cat_big [91] (ext x0) (by simp) (by omega)
  have hc2 := cat_big ([91] ++ ext x0) [93] (by simp; omega) (by simp)
  obtain ⟨M1, hM1⟩ : ∃ M1, [91] ++ ext x0 = M1 := ⟨_, rfl⟩
  rw [hM1] at hc1 hc2
  obtain ⟨T4, hT4⟩ : ∃ T4, M1 ++ [93] = T4 := ⟨_, rfl⟩
  rw [hT4] at hc2
  have HT4 : Hid ([91] ++ ext x0 ++ [93] = T4) := Lib.hid (by rw [hM1, hT4])
  obtain ⟨E0, hE0⟩ : ∃ E0, ext x0 = E0 := ⟨_, rfl⟩
  rw [hE0] at hc1
  have HE0 := Lib.hid hE0
  have hx0w : Wx x0 := hwh.ex x0 (by rw [hxs]; simp)
  have hlns : xs.length = xr.length + 1 := by rw [hxs]; simp
  rcases hx with ⟨h, _⟩ | ⟨gx, rfl, hgx, hx1, hx2, hx3, hall⟩
  · rw [hxs] at h; cases h
  obtain ⟨q0, hq0, hp0⟩ := hall 0 x0 (by rw [hxs]; rfl)
  obtain ⟨X, hX, hX1⟩ := tail46 gx xs.length cx (by omega) hx2
  have HX1 := Lib.hid hX1
  have HQ0 := Lib.hid hq0
  have HP0 := Lib.hid hp0
  have HALL := Lib.hid hall
  have hPX : XsP w B xr X gx 4 := by
    refine ⟨hgx, fun h => hX1 (by cases xr with | nil => exact absurd rfl h | cons y l => simp at hlns; omega), fun i e hi => ?_⟩
    obtain ⟨q, hc, hp⟩ := hall (i + 1) e (by rw [hxs]; simpa using hi)
    exact ⟨q, by rw [show 4 + i * 4 = (i + 1) * 4 by omega]; exact hc, hp⟩
  have HPX := Lib.hid hPX
  clear hM1 hT4 hE0 hX1 hq0 hp0 hall hPX
  unfold stv
  obtain ⟨n, hnn⟩ : ∃ n, w.heap.size = n := ⟨_, rfl⟩
  have hgn : B ≤ n := by omega
  obtain ⟨ln, hln⟩ : ∃ ln, xs.length = ln := ⟨_, rfl⟩
  have HLN := Lib.hid hln
  rw [hln] at hxl hX hx1 hx2 hlns ⊢
  have HLNS := Lib.hid hlns
  clear hlns
  obtain ⟨RG, hRG⟩ : ∃ RG, (⟨rg.toArray⟩ : ByteArray) = RG := ⟨_, rfl⟩
  obtain ⟨NM, hNM⟩ : ∃ NM, (⟨nm.toArray⟩ : ByteArray) = NM := ⟨_, rfl⟩
  rw [hRG, hNM]

  rw [hNM] at hcn
  have HRG := Lib.hid hRG
  have HNM := Lib.hid hNM
  obtain ⟨W, hW⟩ : ∃ W, w.alloc (sbox k RG NM true (some ⟨gx, 0, none⟩) ln cx pb bd.len cb pe es.len ce) = W := ⟨_, rfl⟩
  have hblk : W.heap[n]? = some (sbox k RG NM true (some ⟨gx, 0, none⟩) ln cx pb bd.len cb pe es.len ce) := by rw [← hW, ← hnn]; exact heap_alloc_new _ _
  obtain ⟨b0, b1, b2, b3, b4, b5, b6, b7⟩ := sbox_cells hblk
  have HBLK0 := Lib.hid hblk
  have HW0 : Hid (Wro B b l w W) := Lib.hid (by rw [← hW]; exact (Wro.refl hbu).below hB (below_alloc _ _))
  have hnb : n ≠ b := by omega
  clear hl hb he hpb hpe hlen hbu hsum hblk hwh hstt  hg hn hxs hRG hNM hln
  unfold sbox at hW
  go_enter Tryd.func47, Tryd.ntmps47
  go_wp2_with fail
  have HWW := Lib.hid hW
  clear hW hnn
  refine (gives_any k hkd W).mono ?_
  rintro e w' ⟨rfl, rfl⟩
  rw [HG.out]
  go_wp2_with fail
  refine (kword_any k hkd W (HL.out.on HW0.out.bel h7)).mono ?_
  rintro e w' ⟨rfl, rfl⟩
  go_wp2_with fail
  refine (write_list B b l (word k) W HW0.out.bu (by have h1 := HSUM.out; simp only [List.length_append, List.length_cons, List.length_nil] at *; omega) (HW0.out.size hB)).mono ?_
  rintro e w1 ⟨rfl, hw1⟩
  have HW1 := Lib.hid (HW0.out.trans hw1)
  have hblk := sbox_on HBLK0.out hw1 hnb
  clear b0 b1 b2 b3 b4 b5 b6 b7
  obtain ⟨b0, b1, b2, b3, b4, b5, b6, b7⟩ := sbox_cells hblk
  have HBLK1 := Lib.hid hblk
  clear hblk hw1
  go_wp2_with fail
  refine (named_any k hkd w1).mono ?_
  rintro e w' ⟨rfl, rfl⟩
  rw [HM.out]
  go_wp2_with fail
  refine (write_list B b (l ++ (word k)) T3 w1 HW1.out.bu (by have h1 := HSUM.out; have h2 := congrArg List.length HT3.out; simp only [List.length_append, List.length_cons, List.length_nil] at *; omega) (HW1.out.size hB)).mono ?_
  rintro e w2 ⟨rfl, hw2⟩
  have HW2 := Lib.hid (HW1.out.trans hw2)
  have hblk := sbox_on HBLK1.out hw2 hnb
  clear b0 b1 b2 b3 b4 b5 b6 b7
  obtain ⟨b0, b1, b2, b3, b4, b5, b6, b7⟩ := sbox_cells hblk
  have HBLK2 := Lib.hid hblk
  clear hblk hw2
  obtain ⟨c0, c1, c2, c3⟩ := HQ0.out.on (Same.below HW2.out.bel (fun g h => h) : Same (fun g => g < B) w w2) hgx
  simp only [Nat.zero_mul, Nat.zero_add] at c0 c1 c2 c3
  have hcall := etext_any x0 q0 w2 (HL.out.on HW2.out.bel h7) hx0w (HP0.out.on (Same.below HW2.out.bel (fun g h => h)) (fun g h => Nat.lt_of_lt_of_le h (HW2.out.size hB))) hx0l
  rw [HE0.out] at hcall
  have HCALL := Lib.hid hcall
  unfold exv at HCALL
  generalize opB x0 = s0 at *
  generalize nxB x0 = xx0 at *
  generalize nyB x0 = yy0 at *
  generalize nmB x0 = s1 at *
  generalize npB x0 = n0 at *
  have hln0 : (0 : Int) < (ln : Int) := by omega
  have hln0' : 0 < ln := by omega
  clear hcall
  go_wp2_with fail
  refine HCALL.out.mono ?_
  rintro e wt ⟨rfl, hbt⟩
  have HWt := Lib.hid (HW2.out.below (HW2.out.size hB) hbt)
  have hblk := (hbt.block n (lt_of_block HBLK2.out)).trans HBLK2.out
  clear b0 b1 b2 b3 b4 b5 b6 b7 c0 c1 c2 c3
  obtain ⟨b0, b1, b2, b3, b4, b5, b6, b7⟩ := sbox_cells hblk
  have HBLKt := Lib.hid hblk
  clear hblk hbt
  go_wp2_with fail
  refine (write_list B b ((l ++ (word k)) ++ T3) T4 wt HWt.out.bu (by have h1 := HSUM.out; have h2 := congrArg List.length HT3.out; have h3 := congrArg List.length HT4.out; simp only [List.length_append, List.length_cons, List.length_nil] at *; omega) (HWt.out.size hB)).mono ?_
  rintro e w3 ⟨rfl, hw3⟩
  have HW3 := Lib.hid (HWt.out.trans hw3)
  have hblk := sbox_on HBLKt.out hw3 hnb
  clear b0 b1 b2 b3 b4 b5 b6 b7
  obtain ⟨b0, b1, b2, b3, b4, b5, b6, b7⟩ := sbox_cells hblk
  have HBLK3 := Lib.hid hblk
  clear hblk hw3
  go_wp2_with fail
  have hS : Same (fun g => g < B) w w3 := Same.below HW3.out.bel (fun g h => h)
  have hcallx := pexprs_any B b (((l ++ (word k)) ++ T3) ++ T4) k hkd xr X gx 4 (cx - 1) w3 (HL.out.on HW3.out.bel h7) (HW3.out.size hB) h7 HW3.out.bu (HPX.out.on hS) (fun x hx => HWH.out.ex x (by rw [HXS.out]; exact List.mem_cons_of_mem _ hx)) (by have h1 := HSUM.out; have h2 := congrArg List.length HT3.out; have h3 := congrArg List.length HT4.out; simp only [List.length_append, List.length_cons, List.length_nil] at *; omega) (by have := HLNS.out; omega)
  rw [show xr.length = ln - 1 by have := HLNS.out; omega] at hcallx
  refine hcallx.mono ?_
  rintro e w4 ⟨rfl, hw4⟩
  have HW4 := Lib.hid (HW3.out.trans hw4)
  have hblk := sbox_on HBLK3.out hw4 hnb
  clear b0 b1 b2 b3 b4 b5 b6 b7 hS hcallx
  obtain ⟨b0, b1, b2, b3, b4, b5, b6, b7⟩ := sbox_cells hblk
  have HBLK4 := Lib.hid hblk
  clear hblk hw4
  have hk15 : ((k : Int) == 15) = false := by simp; omega
  have hk16 : ((k : Int) == 16) = false := by simp; omega
  have hk15' : (k == 15) = false := by simp; omega
  have hk16' : (k == 16) = false := by simp; omega
  go_wp2_with fail
  refine (write_list B b ((((l ++ (word k)) ++ T3) ++ T4) ++ exsT (gap1 k) xr) [59, 10] w4 HW4.out.bu (by have h1 := HSUM.out; have h2 := congrArg List.length HT3.out; have h3 := congrArg List.length HT4.out; simp only [List.length_append, List.length_cons, List.length_nil] at *; omega) (HW4.out.size hB)).mono ?_
  rintro e w5 ⟨rfl, hw5⟩
  have HW5 := Lib.hid (HW4.out.trans hw5)
  have hblk := sbox_on HBLK4.out hw5 hnb
  clear b0 b1 b2 b3 b4 b5 b6 b7
  obtain ⟨b0, b1, b2, b3, b4, b5, b6, b7⟩ := sbox_cells hblk
  have HBLK5 := Lib.hid hblk
  clear hblk hw5
  go_wp2
  go_end0
  refine ⟨rfl, ?_⟩
  have := HW5.out
  rw [HST.out]
  rw [← HT3.out] at this; rw [← HT4.out] at this
  simpa [List.append_assoc] using this

set_option maxRecDepth 100000 in
set_option maxHeartbeats 6400000 in
theorem pst_d (k : Nat) (rg nm : List UInt8) (xs : List Ex) (bd es : Sts) (hwh : Wh k rg nm false xs) (hg : gives k = false) (hn : named k = false) (hk : k < 15) (hpb : PbOk bd) (hpe : PbOk es) : PsOk k rg nm false xs bd es := by
  intro B b l px cx pb cb pe ce w hl hB h7 hbu hx hb he hlen
  have hst := store_cx
  have HL := Lib.hid hl
  have HBV := Lib.hid hb
  have HEV := Lib.hid he
  have HPB := Lib.hid hpb
  have HPE := Lib.hid hpe
  have HWH := Lib.hid hwh
  have HXV := Lib.hid hx
  have hkd := hwh.kd
  have hxl := hwh.xlen
  have hblt : b < w.heap.size := hbu.lt
  have HG := Lib.hid hg
  have HM := Lib.hid hn
  have hstt : stT k rg nm false xs bd es = word k ++ exsT (gap1 k) xs ++ [59, 10] := by
    unfold stT headT nameT restX
    rw [hg, hn]
    simp [if_neg (show ¬ (k = 15 ∨ k = 16) by omega)]
  have HST := Lib.hid hstt
  have hsum : l.length + ((word k).length + (exsT (gap1 k) xs).length + ([59, 10]).length) ≤ 1000000 := by rw [hstt] at hlen; simp only [List.length_append, List.length_cons, List.length_nil] at hlen ⊢; omega
  have HSUM := Lib.hid hsum
  have hrgl := hwh.rlen
  have hnml := hwh.name.len
  have hwl := word_len k
  obtain ⟨gx, hPX⟩ := xsp_of hx h7
  have HPX := Lib.hid hPX
  clear hPX
  unfold stv
  obtain ⟨n, hnn⟩ : ∃ n, w.heap.size = n := ⟨_, rfl⟩
  have hgn : B ≤ n := by omega
  obtain ⟨ln, hln⟩ : ∃ ln, xs.length = ln := ⟨_, rfl⟩
  have HLN := Lib.hid hln
  rw [hln] at hxl ⊢


  obtain ⟨RG, hRG⟩ : ∃ RG, (⟨rg.toArray⟩ : ByteArray) = RG := ⟨_, rfl⟩
  obtain ⟨NM, hNM⟩ : ∃ NM, (⟨nm.toArray⟩ : ByteArray) = NM := ⟨_, rfl⟩
  rw [hRG, hNM]


  have HRG := Lib.hid hRG
  have HNM := Lib.hid hNM
  obtain ⟨W, hW⟩ : ∃ W, w.alloc (sbox k RG NM false px ln cx pb bd.len cb pe es.len ce) = W := ⟨_, rfl⟩
  have hblk : W.heap[n]? = some (sbox k RG NM false px ln cx pb bd.len cb pe es.len ce) := by rw [← hW, ← hnn]; exact heap_alloc_new _ _
  obtain ⟨b0, b1, b2, b3, b4, b5, b6, b7⟩ := sbox_cells hblk
  have HBLK0 := Lib.hid hblk
  have HW0 : Hid (Wro B b l w W) := Lib.hid (by rw [← hW]; exact (Wro.refl hbu).below hB (below_alloc _ _))
  have hnb : n ≠ b := by omega
  clear hl hb he hpb hpe hlen hbu hsum hblk hwh hstt hx hg hn  hRG hNM hln
  unfold sbox at hW
  go_enter Tryd.func47, Tryd.ntmps47
  go_wp2_with fail
  have HWW := Lib.hid hW
  clear hW hnn
  refine (gives_any k hkd W).mono ?_
  rintro e w' ⟨rfl, rfl⟩
  rw [HG.out]
  go_wp2_with fail
  refine (kword_any k hkd W (HL.out.on HW0.out.bel h7)).mono ?_
  rintro e w' ⟨rfl, rfl⟩
  go_wp2_with fail
  refine (write_list B b l (word k) W HW0.out.bu (by have h1 := HSUM.out; simp only [List.length_append, List.length_cons, List.length_nil] at *; omega) (HW0.out.size hB)).mono ?_
  rintro e w1 ⟨rfl, hw1⟩
  have HW1 := Lib.hid (HW0.out.trans hw1)
  have hblk := sbox_on HBLK0.out hw1 hnb
  clear b0 b1 b2 b3 b4 b5 b6 b7
  obtain ⟨b0, b1, b2, b3, b4, b5, b6, b7⟩ := sbox_cells hblk
  have HBLK1 := Lib.hid hblk
  clear hblk hw1
  go_wp2_with fail
  refine (named_any k hkd w1).mono ?_
  rintro e w' ⟨rfl, rfl⟩
  rw [HM.out]
  go_wp2_with fail
  have hS : Same (fun g => g < B) w w1 := Same.below HW1.out.bel (fun g h => h)
  have hcallx := pexprs_any B b (l ++ (word k)) k hkd xs px gx 0 cx w1 (HL.out.on HW1.out.bel h7) (HW1.out.size hB) h7 HW1.out.bu (HPX.out.on hS) (fun x hx => HWH.out.ex x (by exact hx)) (by have h1 := HSUM.out; simp only [List.length_append, List.length_cons, List.length_nil] at *; omega) (by rw [HLN.out]; exact hxl)
  rw [HLN.out] at hcallx
  refine hcallx.mono ?_
  rintro e w2 ⟨rfl, hw2⟩
  have HW2 := Lib.hid (HW1.out.trans hw2)
  have hblk := sbox_on HBLK1.out hw2 hnb
  clear b0 b1 b2 b3 b4 b5 b6 b7 hS hcallx
  obtain ⟨b0, b1, b2, b3, b4, b5, b6, b7⟩ := sbox_cells hblk
  have HBLK2 := Lib.hid hblk
  clear hblk hw2
  have hk15 : ((k : Int) == 15) = false := by simp; omega
  have hk16 : ((k : Int) == 16) = false := by simp; omega
  have hk15' : (k == 15) = false := by simp; omega
  have hk16' : (k == 16) = false := by simp; omega
  go_wp2_with fail
  refine (write_list B b ((l ++ (word k)) ++ exsT (gap1 k) xs) [59, 10] w2 HW2.out.bu (by have h1 := HSUM.out; simp only [List.length_append, List.length_cons, List.length_nil] at *; omega) (HW2.out.size hB)).mono ?_
  rintro e w3 ⟨rfl, hw3⟩
  have HW3 := Lib.hid (HW2.out.trans hw3)
  have hblk := sbox_on HBLK2.out hw3 hnb
  clear b0 b1 b2 b3 b4 b5 b6 b7
  obtain ⟨b0, b1, b2, b3, b4, b5, b6, b7⟩ := sbox_cells hblk
  have HBLK3 := Lib.hid hblk
  clear hblk hw3
  go_wp2
  go_end0
  refine ⟨rfl, ?_⟩
  have := HW3.out
  rw [HST.out]
  skip
  simpa [List.append_assoc] using this

set_option maxRecDepth 100000 in
set_option maxHeartbeats 6400000 in
theorem pst_e (k : Nat) (rg nm : List UInt8) (xs : List Ex) (bd es : Sts) (hwh : Wh k rg nm false xs) (hg : gives k = false) (hn : named k = false) (hk : k = 15 ∨ k = 16) (hpb : PbOk bd) (hpe : PbOk es) : PsOk k rg nm false xs bd es := by
  intro B b l px cx pb cb pe ce w hl hB h7 hbu hx hb he hlen
  have hst := store_cx
  have HL := Lib.hid hl
  have HBV := Lib.hid hb
  have HEV := Lib.hid he
  have HPB := Lib.hid hpb
  have HPE := Lib.hid hpe
  have HWH := Lib.hid hwh
  have HXV := Lib.hid hx
  have hkd := hwh.kd
  have hxl := hwh.xlen
  have hblt : b < w.heap.size := hbu.lt
  have HG := Lib.hid hg
  have HM := Lib.hid hn
  have hstt : stT k rg nm false xs bd es = word k ++ exsT (gap1 k) xs ++ (blkT bd ++ elseT (blkT es) es.len ++ [10]) := by
    unfold stT headT nameT restX
    rw [hg, hn]
    simp [if_pos hk]
  have HST := Lib.hid hstt
  have hsum : l.length + ((word k).length + (exsT (gap1 k) xs).length + ((blkT bd ++ elseT (blkT es) es.len ++ [10])).length) ≤ 1000000 := by rw [hstt] at hlen; simp only [List.length_append, List.length_cons, List.length_nil] at hlen ⊢; omega
  have HSUM := Lib.hid hsum
  have hrgl := hwh.rlen
  have hnml := hwh.name.len
  have hwl := word_len k
  obtain ⟨gx, hPX⟩ := xsp_of hx h7
  have HPX := Lib.hid hPX
  clear hPX
  unfold stv
  obtain ⟨n, hnn⟩ : ∃ n, w.heap.size = n := ⟨_, rfl⟩
  have hgn : B ≤ n := by omega
  obtain ⟨ln, hln⟩ : ∃ ln, xs.length = ln := ⟨_, rfl⟩
  have HLN := Lib.hid hln
  rw [hln] at hxl ⊢


  obtain ⟨RG, hRG⟩ : ∃ RG, (⟨rg.toArray⟩ : ByteArray) = RG := ⟨_, rfl⟩
  obtain ⟨NM, hNM⟩ : ∃ NM, (⟨nm.toArray⟩ : ByteArray) = NM := ⟨_, rfl⟩
  rw [hRG, hNM]


  have HRG := Lib.hid hRG
  have HNM := Lib.hid hNM
  obtain ⟨W, hW⟩ : ∃ W, w.alloc (sbox k RG NM false px ln cx pb bd.len cb pe es.len ce) = W := ⟨_, rfl⟩
  have hblk : W.heap[n]? = some (sbox k RG NM false px ln cx pb bd.len cb pe es.len ce) := by rw [← hW, ← hnn]; exact heap_alloc_new _ _
  obtain ⟨b0, b1, b2, b3, b4, b5, b6, b7⟩ := sbox_cells hblk
  have HBLK0 := Lib.hid hblk
  have HW0 : Hid (Wro B b l w W) := Lib.hid (by rw [← hW]; exact (Wro.refl hbu).below hB (below_alloc _ _))
  have hnb : n ≠ b := by omega
  clear hl hb he hpb hpe hlen hbu hsum hblk hwh hstt hx hg hn  hRG hNM hln
  unfold sbox at hW
  go_enter Tryd.func47, Tryd.ntmps47
  go_wp2_with fail
  have HWW := Lib.hid hW
  clear hW hnn
  refine (gives_any k hkd W).mono ?_
  rintro e w' ⟨rfl, rfl⟩
  rw [HG.out]
  go_wp2_with fail
  refine (kword_any k hkd W (HL.out.on HW0.out.bel h7)).mono ?_
  rintro e w' ⟨rfl, rfl⟩
  go_wp2_with fail
  refine (write_list B b l (word k) W HW0.out.bu (by have h1 := HSUM.out; simp only [List.length_append, List.length_cons, List.length_nil] at *; omega) (HW0.out.size hB)).mono ?_
  rintro e w1 ⟨rfl, hw1⟩
  have HW1 := Lib.hid (HW0.out.trans hw1)
  have hblk := sbox_on HBLK0.out hw1 hnb
  clear b0 b1 b2 b3 b4 b5 b6 b7
  obtain ⟨b0, b1, b2, b3, b4, b5, b6, b7⟩ := sbox_cells hblk
  have HBLK1 := Lib.hid hblk
  clear hblk hw1
  go_wp2_with fail
  refine (named_any k hkd w1).mono ?_
  rintro e w' ⟨rfl, rfl⟩
  rw [HM.out]
  go_wp2_with fail
  have hS : Same (fun g => g < B) w w1 := Same.below HW1.out.bel (fun g h => h)
  have hcallx := pexprs_any B b (l ++ (word k)) k hkd xs px gx 0 cx w1 (HL.out.on HW1.out.bel h7) (HW1.out.size hB) h7 HW1.out.bu (HPX.out.on hS) (fun x hx => HWH.out.ex x (by exact hx)) (by have h1 := HSUM.out; simp only [List.length_append, List.length_cons, List.length_nil] at *; omega) (by rw [HLN.out]; exact hxl)
  rw [HLN.out] at hcallx
  refine hcallx.mono ?_
  rintro e w2 ⟨rfl, hw2⟩
  have HW2 := Lib.hid (HW1.out.trans hw2)
  have hblk := sbox_on HBLK1.out hw2 hnb
  clear b0 b1 b2 b3 b4 b5 b6 b7 hS hcallx
  obtain ⟨b0, b1, b2, b3, b4, b5, b6, b7⟩ := sbox_cells hblk
  have HBLK2 := Lib.hid hblk
  clear hblk hw2
  have hk15 : k = 15 → (((k : Int) == 15) = true ∧ (k == 15) = true) := by rintro rfl; decide
  have hk16 : k = 16 → (((k : Int) == 15) = false ∧ ((k : Int) == 16) = true ∧ (k == 15) = false ∧ (k == 16) = true) := by rintro rfl; decide
  have hS : Same (fun g => g < B) w w2 := Same.below HW2.out.bel (fun g h => h)
  have HCB : Hid (Calls Tryd.prog 59 #[.pointer (some ⟨b, 0, none⟩), .agg #[.int .i64 (k : Int), .string RG, .string NM, .bool false, .slice px ln cx, .slice pb bd.len cb, .slice pe es.len ce, .int .i64 0]] w2 fun e w' => e = .returned (.tuple #[]) ∧ Wro B b (((l ++ (word k)) ++ exsT (gap1 k) xs) ++ (blkT bd ++ elseT (blkT es) es.len ++ [10])) w2 w') := Lib.hid (by
    have := pbodies_any k rg nm false xs bd es HPB.out HPE.out B b ((l ++ (word k)) ++ exsT (gap1 k) xs) px cx pb cb pe ce w2 (HL.out.on HW2.out.bel h7) (HW2.out.size hB) h7 HW2.out.bu (HBV.out.on hS (fun g h => h)) (HEV.out.on hS (fun g h => h)) (by have h1 := HSUM.out; simp only [List.length_append, List.length_cons, List.length_nil] at *; omega)
    unfold stv at this
    rw [HRG.out, HNM.out, HLN.out] at this
    exact this)
  generalize bd.len = bn at *
  generalize es.len = en at *
  clear hS
  rcases hk with rfl | rfl
  all_goals
    first | (obtain ⟨q1, q2⟩ := hk15 rfl; clear hk15 hk16) | (obtain ⟨q1, q2, q3, q4⟩ := hk16 rfl; clear hk15 hk16)
    go_wp2_with fail
    refine HCB.out.mono ?_
    rintro e w3 ⟨rfl, hw3⟩
    have HW3 := Lib.hid (HW2.out.trans hw3)
    clear hw3
    go_wp2
    (try simp only [Exit.inBlock, Exit.then])
    refine bodyPost_ret (results_none rfl _ _ _) rfl ?_
    refine ⟨rfl, ?_⟩
    have := HW3.out
    rw [HST.out]
    skip
    simpa [List.append_assoc] using this

theorem pa_any (b : Sts) : Ws b → PaOk b := by
  induction b with
  | nil => intro _; trivial
  | cons k rg nm ix xs b e r ihb ihe ihr =>
    intro h
    refine ⟨?_, ihr h.2.2.2.2.2⟩
    have hb := pblock_any b (ihb h.2.2.2.1)
    have he := pblock_any e (ihe h.2.2.2.2.1)
    have hkd := h.1.kd
    cases ix with
    | true =>
      have hc := h.1.cell rfl
      have hn : named k = true := by unfold named; simp; omega
      cases hg : gives k with
      | true => exact pst_b1 k rg nm xs b e h.1 hg hn (by omega) hb he
      | false => exact pst_c1 k rg nm xs b e h.1 hg hn (by omega) hb he
    | false =>
      by_cases hk : k < 15
      · cases hg : gives k with
        | true =>
          cases hn : named k with
          | true => exact pst_b0 k rg nm xs b e h.1 hg hn hk hb he
          | false => exact pst_a k rg nm xs b e h.1 hg hn hk hb he
        | false =>
          cases hn : named k with
          | true => exact pst_c0 k rg nm xs b e h.1 hg hn hk hb he
          | false => exact pst_d k rg nm xs b e h.1 hg hn hk hb he
      · have hk' : k = 15 ∨ k = 16 := by omega
        exact pst_e k rg nm xs b e h.1 (by rcases hk' with rfl | rfl <;> rfl) (by rcases hk' with rfl | rfl <;> rfl) hk' hb he
theorem pb_any (b : Sts) (h : Ws b) : PbOk b := pblock_any b (pa_any b h)
end Go.Proofs.YtmomdcnlhljhcaaDoor
