/- tree.Print. -/
import Derived.Test.YtmomdcnlhljhcaaDoorPd
set_option linter.unusedSimpArgs false
set_option linter.unusedVariables false
namespace Go.Proofs.YtmomdcnlhljhcaaDoor
open Go.RowKit Ieee

set_option maxRecDepth 100000 in
set_option maxHeartbeats 6400000 in
theorem print_any (l : List Dc) (g c : Nat) (w : World) (hl : Lb w) (hw : ∀ d ∈ l, Wdc d) (hg : g < w.heap.size) (h0 : 0 < l.length) (hv : DcsAt w (fun g => g < w.heap.size) l g) (hlen : (dcsT l).length ≤ 1000000) :
    Calls Tryd.prog 14 #[.agg #[.slice (some ⟨g, 0, none⟩) l.length c]] w fun en w' => en = .returned (.string ⟨(dcsT l).toArray⟩) ∧ Below w.heap.size w w' := by
  have hst := store_cx
  have HL := Lib.hid hl
  have HW := Lib.hid hw
  have HLEN := Lib.hid hlen
  obtain ⟨ln, hln⟩ : ∃ ln, l.length = ln := ⟨_, rfl⟩
  have HLN := Lib.hid hln
  have hlm : ln ≤ 1000000 := by have := dcsT_len l; omega
  rw [hln] at h0 ⊢
  obtain ⟨n, hn⟩ : ∃ n, w.heap.size = n := ⟨_, rfl⟩
  have h7 : 7 ≤ n := by rw [← hn]; exact hl.size
  have HN := Lib.hid hn
  obtain ⟨W, hW⟩ : ∃ W, w.alloc (.cells #[.slice (some ⟨g, 0, none⟩) ln c] 37) = W := ⟨_, rfl⟩
  have hWs : W.heap.size = n + 1 := by rw [← hW, ← hn]; simp
  obtain ⟨W2, hW2⟩ : ∃ W2, W.alloc (.cells #[.pointer none, .slice none 0 0] 57) = W2 := ⟨_, rfl⟩
  have hbu : Bu (n + 1) (n + 1) [] W2 := by have := bu_new W; rw [hWs, hW2] at this; exact this
  have hb2 : Below w.heap.size w W2 := by rw [← hW2, ← hW]; exact below_trans (below_alloc _ _) (below_alloc _ _)
  have hb0 : W2.cell? ⟨n, 0, none⟩ = some (.slice (some ⟨g, 0, none⟩) ln c) := by rw [← hW2, ← hW, ← hn]; simp [go_sem]
  have hs2 : W2.heap.size = n + 2 := by rw [← hW2, ← hW, ← hn]; simp
  have HV : Hid (DcsAt W2 (fun g => g < n + 1) l g) := Lib.hid (hv.on (Same.below hb2 (fun g h => h)) (fun g h => by omega) hg)
  have HB2 := Lib.hid hb2
  have HLW := Lib.hid (hl.new hb2)
  have HW0 : Hid (Wro (n + 1) (n + 1) (dcsT (l.take 0)) W2 W2) := Lib.hid (Wro.refl hbu)
  have HS2 := Lib.hid hs2
  have hgn : g < n + 1 := by omega
  have hns : n + 1 ≤ W2.heap.size := by omega
  clear hl hw hv hlen hln hbu hb2 hs2 hg
  go_enter Tryd.func14, Tryd.ntmps14
  go_wp2
  clear hW hW2 hn hWs
  go_loopw [9] (fun i wr => ∃ (j : Nat), j ≤ ln ∧ i = .int .i64 (j : Int) ∧ Wro (n + 1) (n + 1) (dcsT (l.take j)) W2 wr) (fun i _ => ln - (intOf i).toNat)
  case atStart => exact ⟨0, Nat.zero_le _, rfl, HW0.out⟩
  case round =>
    obtain ⟨j, hj, rfl, hwr⟩ := hrel
    have HWR := Lib.hid hwr
    clear hwr
    by_cases hlt : j < ln
    · obtain ⟨d, hd⟩ : ∃ d, l[j]? = some d := ⟨l[j]'(by rw [HLN.out]; exact hlt), List.getElem?_eq_getElem _⟩
      have hwd := HW.out d (List.mem_of_getElem? hd)
      obtain ⟨p, c', at_, ha0, ha1, hcd, hsv⟩ := HV.out j d hd
      have hBr : n + 1 ≤ wr.heap.size := HWR.out.size hns
      have hgw : g < wr.heap.size := by omega
      have hS : Same (fun g => g < n + 1) W2 wr := Same.below HWR.out.bel (fun g h => h)
      have htk : dcsT (l.take (j + 1)) = dcsT (l.take j) ++ dcT d := by rw [List.take_add_one, hd, dcsT_app]; simp [dcsT]
      have HTK := Lib.hid htk
      have htot : (dcsT l).length = (dcsT (l.take (j + 1))).length + (dcsT (l.drop (j + 1))).length := by rw [← List.length_append, ← dcsT_app, List.take_append_drop]
      rw [htk, List.length_append] at htot
      obtain ⟨c0, c1, c2, c3, c4⟩ := hcd
      have c0 := (hS g _ hgn).trans c0
      have c1 := (hS g _ hgn).trans c1
      have c2 := (hS g _ hgn).trans c2
      have c3 := (hS g _ hgn).trans c3
      have c4 := (hS g _ hgn).trans c4
      have hcall := fun (o : Obj) => pdecl_any d hwd (n + 1) (n + 1) (dcsT (l.take j)) p c' at_ (wr.alloc o) ((HLW.out.on HWR.out.bel (by omega)).new (below_alloc _ _)) (by simp; omega) (by omega) (HWR.out.bu.alloc o)
        (hsv.on (Same.below (HWR.out.bel.trans ((below_alloc wr o).mono hBr)) (fun g h => h)) (fun g h => h)) (by have := HLEN.out; omega)
      have HC := Lib.hid hcall
      unfold dcv at HC
      generalize fl false d.re = F at *
      generalize fl false d.im = G at *
      generalize d.body.len = bn at *
      generalize d.so = so at *
      generalize (⟨d.nm.toArray⟩ : ByteArray) = NM at *
      clear hcall hd hsv hS htk htot hwd ha0 ha1
      go_wp2_with fail
      refine (HC.out _).mono ?_
      rintro e w2 ⟨rfl, hw2⟩
      have HW2 := Lib.hid ((HWR.out.below hBr (below_alloc _ _)).trans hw2)
      clear hw2
      go_wp2
      go_roundw
      case rel => exact ⟨j + 1, by omega, by go_num, by rw [HTK.out]; exact HW2.out⟩
      case measure => simp [intOf]; omega
    · obtain rfl : j = ln := by omega
      have hfin : dcsT (l.take j) = dcsT l := by rw [List.take_of_length_le (by rw [HLN.out]; omega)]
      have HF := Lib.hid hfin
      clear hfin
      go_wp2_with fail
      refine (string_any (n + 1) (n + 1) _ wr HWR.out.bu (HWR.out.size hns)).mono ?_
      rintro e w2 ⟨rfl, hw2⟩
      have HW2 := Lib.hid (HWR.out.trans hw2)
      clear hw2
      go_wp2
      go_ret
      refine ⟨by rw [← HF.out]; rfl, ?_⟩
      have h1 := HB2.out
      rw [HN.out] at h1
      have h2 := h1.trans (HW2.out.bel.mono (by omega : n ≤ n + 1))
      rw [HN.out]
      exact h2
end Go.Proofs.YtmomdcnlhljhcaaDoor
