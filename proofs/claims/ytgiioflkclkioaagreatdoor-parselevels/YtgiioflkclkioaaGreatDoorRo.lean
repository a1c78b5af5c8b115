/- What binds most: a number, a register, a sign and what it is ahead of, brackets; so all expressions. -/
import Derived.Test.YtgiioflkclkioaaGreatDoorRe
set_option linter.unusedSimpArgs false
set_option linter.unusedVariables false
namespace Go.Proofs.YtgiioflkclkioaaGreatDoor
open Go.RowKit Ieee

theorem below_tr {a b c : World} (h : Below a.heap.size a b) (k : Below b.heap.size b c) : Below a.heap.size a c := h.trans (k.mono h.size)

set_option maxRecDepth 100000 in
set_option maxHeartbeats 3200000 in
theorem one_num (f b g : Nat) (t : Tk) (r : List Tk) (d : Nat) (w : World) (hrd : Rdr w b g (t :: r) d) (hok : Okt (t :: r)) (hk : t.kind = 2) : Calls Tryz.prog 222 #[.pointer (some ⟨b, 0, none⟩)] w (PE b g w d (.ok (.num t.re t.im, r))) := by
  have hst := store_cx
  have hfK := fldK
  have hfT := fldT
  have hfN := fldN
  have HOK := Lib.hid hok
  have HRD := Lib.hid hrd
  have hbw : b < w.heap.size := hrd.lt
  have hgw : g < w.heap.size := hrd.1
  have hlo : 13 ≤ b := by obtain ⟨_, _, _, R⟩ := hrd; exact R.lo
  have hlow : 13 ≤ w.heap.size := hrd.lkk.sz
  have HN := Lib.hid (fun w' (hb : Below w.heap.size w w') => next_any b g t r d w' (hrd.on hb))
  have HT := Lib.hid (fun w' (hb : Below w.heap.size w w') hr => take_any b g t r d w' (hrd.on hb) hr)
  unfold tv at HN HT
  obtain ⟨TT, hTT⟩ : ∃ TT : ByteArray, (⟨t.text.toArray⟩ : ByteArray) = TT := ⟨_, rfl⟩
  rw [hTT] at HN HT
  have HTT := Lib.hid hTT
  clear hTT
  obtain ⟨n, hn⟩ : ∃ n, w.heap.size = n := ⟨_, rfl⟩
  have HWN := Lib.hid hn
  rw [hn] at hbw hgw hlow
  obtain ⟨w0, hw0⟩ : ∃ w0, w.alloc (.cells #[.string ⟨#[]⟩, .complex .f64 0 0, .string ⟨#[]⟩, .slice none 0 0] 159) = w0 := ⟨_, rfl⟩
  have HB0 : Hid (Below w.heap.size w w0) := Lib.hid (by rw [← hw0]; exact below_alloc _ _)
  have HNB0 : Hid (w0.heap[n]? = some (.cells zex 159 (0, 0))) := Lib.hid (by rw [← hw0]; exact alloc_at hn _)
  have hn0 : n < w0.heap.size := lt_of_row HNB0.out
  clear hrd hok
  have hk1 : ((t.kind : Int) == 2) = true := by simp; omega
  have HR := Lib.hid (HOK.out.tlk (by omega))
  clear hk
  go_enter Tryz.func222, Tryz.ntmps222
  go_wp2_with fail
  clear hw0 hn
  refine (HN.out _ HB0.out).mono ?_
  rintro en w1 ⟨rfl, hb1⟩
  have HB1 : Hid (Below w0.heap.size w0 w1) := Lib.hid hb1
  clear hb1
  go_wp2_with fail
  refine (HT.out _ (below_tr HB0.out HB1.out) HR.out.2.2).mono ?_
  rintro en w2 ⟨rfl, hrd2, hk2⟩
  have HK2 : Hid (Kx (· = b) w0 w2) := Lib.hid ((Kx.of HB1.out).tr hk2)
  have HNB : Hid (w2.heap[n]? = some (.cells zex 159 (0, 0))) := Lib.hid ((HK2.out.block n hn0 (by omega)).trans HNB0.out)
  have n0 : w2.cell? ⟨n, 0, none⟩ = some (.string ⟨#[]⟩) := row_cell HNB.out
  have n1 : w2.cell? ⟨n, 1, none⟩ = some (.complex .f64 0 0) := row_cell HNB.out
  have n2 : w2.cell? ⟨n, 2, none⟩ = some (.string ⟨#[]⟩) := row_cell HNB.out
  have n3 : w2.cell? ⟨n, 3, none⟩ = some (.slice none 0 0) := row_cell HNB.out
  have f0 : w2.frozen? ⟨n, 0, none⟩ = false := row_frozen HNB.out
  have f1 : w2.frozen? ⟨n, 1, none⟩ = false := row_frozen HNB.out
  have f2 : w2.frozen? ⟨n, 2, none⟩ = false := row_frozen HNB.out
  have f3 : w2.frozen? ⟨n, 3, none⟩ = false := row_frozen HNB.out
  have HFIN := Lib.hid (fun W en hW he => pe_fin (w := w) (W := W) (en := en) (n := n) (b := b) (g := g) (d := d) (r := r) (e := .num t.re t.im) (p := none) (w2 := w2) (by have := HWN.out; omega) (by omega) (by omega) (by have := HWN.out; omega) ((Kx.of HB0.out).tr HK2.out) rfl hrd2 hW he)
  unfold exv opB nxB nyB nmB npB at HFIN
  simp only at HFIN
  clear hrd2 hk2
  generalize fl false (t.re : Int) = X at *
  generalize fl false (t.im : Int) = Y at *
  go_wp2
  exact bodyPost_ret (v := .agg #[.string ⟨#[]⟩, .complex .f64 X Y, .string ⟨#[]⟩, .slice none 0 0]) (by simp [results, Tryz.results222, go_sem, n0, n1, n2, n3]) rfl (HFIN.out _ _ rfl rfl)

set_option maxRecDepth 100000 in
set_option maxHeartbeats 3200000 in
theorem one_op_ok (f b g : Nat) (t : Tk) (r : List Tk) (d : Nat) (w : World) (hrd : Rdr w b g (t :: r) d) (hok : Okt (t :: r)) (hk : t.kind ≠ 2) (k : Nat) (ho : opOne t.text = some k) (hf : (t :: r).length ≤ f + 1) (ih : ExOk 222 f (oneP f)) (x : Ex) (r1 : List Tk) (hx : oneP f r = .ok (x, r1)) : Calls Tryz.prog 222 #[.pointer (some ⟨b, 0, none⟩)] w (PE b g w d (.ok (.one k x, r1))) := by
  have hst := store_cx
  have hfK := fldK
  have hfT := fldT
  have hfN := fldN
  have HOK := Lib.hid hok
  have HRD := Lib.hid hrd
  have hbw : b < w.heap.size := hrd.lt
  have hgw : g < w.heap.size := hrd.1
  have hlo : 13 ≤ b := by obtain ⟨_, _, _, R⟩ := hrd; exact R.lo
  have hlow : 13 ≤ w.heap.size := hrd.lkk.sz
  have HN := Lib.hid (fun w' (hb : Below w.heap.size w w') => next_any b g t r d w' (hrd.on hb))
  have HT := Lib.hid (fun w' (hb : Below w.heap.size w w') hr => take_any b g t r d w' (hrd.on hb) hr)
  unfold tv at HN HT
  obtain ⟨TT, hTT⟩ : ∃ TT : ByteArray, (⟨t.text.toArray⟩ : ByteArray) = TT := ⟨_, rfl⟩
  rw [hTT] at HN HT
  have HTT := Lib.hid hTT
  clear hTT
  obtain ⟨n, hn⟩ : ∃ n, w.heap.size = n := ⟨_, rfl⟩
  have HWN := Lib.hid hn
  rw [hn] at hbw hgw hlow
  obtain ⟨w0, hw0⟩ : ∃ w0, w.alloc (.cells #[.string ⟨#[]⟩, .complex .f64 0 0, .string ⟨#[]⟩, .slice none 0 0] 159) = w0 := ⟨_, rfl⟩
  have HB0 : Hid (Below w.heap.size w w0) := Lib.hid (by rw [← hw0]; exact below_alloc _ _)
  have HNB0 : Hid (w0.heap[n]? = some (.cells zex 159 (0, 0))) := Lib.hid (by rw [← hw0]; exact alloc_at hn _)
  have hn0 : n < w0.heap.size := lt_of_row HNB0.out
  clear hrd hok
  have hk1 : ((t.kind : Int) == 2) = false := by simp; omega
  have HR := Lib.hid (HOK.out.tl (opOne_ne ho))
  have hfl : r.length ≤ f := by simpa using hf
  have HOP := Lib.hid (opOfOne_any t.text)
  have hos : op1S t.text = op1 k := by unfold op1S; rw [ho]
  rw [hos, HTT.out] at HOP
  have hk4 : k < 4 := by rcases opOne_cases t.text with ⟨_, h⟩ | ⟨_, h⟩ | ⟨_, h⟩ | ⟨_, h⟩ | ⟨_, _, _, _, h⟩ <;> rw [h] at ho <;> first | (injection ho with ho; omega) | cases ho
  have o1 : (⟨(op1 k).toArray⟩ : ByteArray).toList.isEmpty = false := by rcases (by omega : k = 0 ∨ k = 1 ∨ k = 2 ∨ k = 3) with rfl | rfl | rfl | rfl <;> simp [op1, go_sem]
  have o2 : ¬ (⟨(op1 k).toArray⟩ : ByteArray).toList = [] := by rcases (by omega : k = 0 ∨ k = 1 ∨ k = 2 ∨ k = 3) with rfl | rfl | rfl | rfl <;> simp [op1, go_sem]
  have HOB : Hid (∀ x, opB (.one k x) = ⟨(op1 k).toArray⟩) := Lib.hid (fun _ => rfl)
  generalize (⟨(op1 k).toArray⟩ : ByteArray) = OB at *
  have HI := Lib.hid (fun w' (h : Rdr w' b g r d) => ih b g r d w' h HR.out.1 hfl)
  clear hk hos ho
  go_enter Tryz.func222, Tryz.ntmps222
  go_wp2_with fail
  clear hw0 hn
  refine (HN.out _ HB0.out).mono ?_
  rintro en w1 ⟨rfl, hb1⟩
  have HB1 : Hid (Below w0.heap.size w0 w1) := Lib.hid hb1
  clear hb1
  go_wp2_with fail
  refine (HN.out _ (below_tr HB0.out HB1.out)).mono ?_
  rintro en w2 ⟨rfl, hb2⟩
  have HB2 : Hid (Below w0.heap.size w0 w2) := Lib.hid (below_tr HB1.out hb2)
  clear hb2
  go_wp2_with fail
  refine (HOP.out _).mono ?_
  rintro en w2' ⟨rfl, rfl⟩
  go_wp2_with fail
  refine (HT.out _ (below_tr HB0.out HB2.out) HR.out.2.2).mono ?_
  rintro en w3 ⟨rfl, hrd3, hk3⟩
  have HK3 : Hid (Kx (· = b) w0 w3) := Lib.hid ((Kx.of HB2.out).tr hk3)
  have HI3 := Lib.hid (HI.out _ hrd3)
  clear hrd3 hk3
  go_wp2_with fail
  refine HI3.out.mono ?_
  rw [hx]
  rintro en w4 ⟨p, rfl, hpx, hrd4, hk4'⟩
  have HK4 : Hid (Kx (· = b) w0 w4) := Lib.hid (HK3.out.tr hk4')
  have hz3 : w0.heap.size ≤ w3.heap.size := HK3.out.size
  have hz4 : w3.heap.size ≤ w4.heap.size := hk4'.size
  have hn4 : n < w4.heap.size := by omega
  have HNB : Hid (w4.heap[n]? = some (.cells zex 159 (0, 0))) := Lib.hid ((HK4.out.block n hn0 (by omega)).trans HNB0.out)
  have n0 : w4.cell? ⟨n, 0, none⟩ = some (.string ⟨#[]⟩) := row_cell HNB.out
  have n1 : w4.cell? ⟨n, 1, none⟩ = some (.complex .f64 0 0) := row_cell HNB.out
  have n2 : w4.cell? ⟨n, 2, none⟩ = some (.string ⟨#[]⟩) := row_cell HNB.out
  have n3 : w4.cell? ⟨n, 3, none⟩ = some (.slice none 0 0) := row_cell HNB.out
  have f0 : w4.frozen? ⟨n, 0, none⟩ = false := row_frozen HNB.out
  have f1 : w4.frozen? ⟨n, 1, none⟩ = false := row_frozen HNB.out
  have f2 : w4.frozen? ⟨n, 2, none⟩ = false := row_frozen HNB.out
  have f3 : w4.frozen? ⟨n, 3, none⟩ = false := row_frozen HNB.out
  have HFIN := Lib.hid (fun (o : Obj) (ho : o = .cells (exb x p) 159) W en hW he => pe_fin (w := w) (W := W) (en := en) (n := n) (b := b) (g := g) (d := d) (r := r1) (e := .one k x) (p := some ⟨w4.heap.size, 0, none⟩) (w2 := w4.alloc o) (by have := HWN.out; omega) (by omega) (by omega) (by have := HWN.out; omega) (((Kx.of HB0.out).tr HK4.out).alloc _) (by
    subst ho
    have hrow : (w4.alloc (.cells (exb x p) 159)).heap[w4.heap.size]? = some (.cells (exb x p) 159 (0, 0)) := heap_alloc_new _ _
    refine ⟨w4.heap.size, p, rfl, ⟨by omega, by simp⟩, ⟨row_cell hrow, row_cell hrow, row_cell hrow, row_cell hrow⟩, ?_⟩
    exact hpx.on (Same.below (below_alloc _ _) fun i hi => hi.2) (fun i hi => ⟨by have := hi.1; omega, by have := hi.2; simp; omega⟩)) (hrd4.on (below_alloc _ _)) hW he)
  have HFIN2 := Lib.hid (HFIN.out _ rfl)
  have q1 : opB (.one k x) = OB := HOB.out x
  have q2 : nxB (.one k x) = 0 := rfl
  have q3 : nyB (.one k x) = 0 := rfl
  have q4 : nmB (.one k x) = ⟨#[]⟩ := rfl
  have q5 : npB (.one k x) = 1 := rfl
  unfold exv exb at HFIN2
  rw [q1, q2, q3, q4, q5] at HFIN2
  unfold exv
  clear q1 q2 q3 q4 q5 HFIN hpx hrd4 hk4' hx
  generalize opB x = z0 at *
  generalize nxB x = z1 at *
  generalize nyB x = z2 at *
  generalize nmB x = z3 at *
  generalize npB x = z4 at *
  go_wp2
  refine bodyPost_ret (v := .agg #[.string OB, .complex .f64 0 0, .string ⟨#[]⟩, .slice (some ⟨w4.heap.size, 0, none⟩) 1 1]) (by simp [results, Tryz.results222, go_sem, n0, n1, n2, n3, hn4]) rfl (HFIN2.out _ _ ?_ rfl)
  rw [World.setCell_alloc_past _ _ _ _ hn4, World.setCell_alloc_past _ _ _ _ (by simpa using hn4), World.setCell_alloc_past _ _ _ _ (by simpa using hn4), World.setCell_alloc_past _ _ _ _ (by simpa using hn4)]

set_option maxRecDepth 100000 in
set_option maxHeartbeats 3200000 in
theorem one_op_er (f b g : Nat) (t : Tk) (r : List Tk) (d : Nat) (w : World) (hrd : Rdr w b g (t :: r) d) (hok : Okt (t :: r)) (hk : t.kind ≠ 2) (k : Nat) (ho : opOne t.text = some k) (hf : (t :: r).length ≤ f + 1) (ih : ExOk 222 f (oneP f)) (pp cc : Nat) (hx : oneP f r = .error (pp, cc)) : Calls Tryz.prog 222 #[.pointer (some ⟨b, 0, none⟩)] w (PE b g w d (.error (pp, cc))) := by
  have hst := store_cx
  have hfK := fldK
  have hfT := fldT
  have hfN := fldN
  have HOK := Lib.hid hok
  have HRD := Lib.hid hrd
  have hbw : b < w.heap.size := hrd.lt
  have hgw : g < w.heap.size := hrd.1
  have hlo : 13 ≤ b := by obtain ⟨_, _, _, R⟩ := hrd; exact R.lo
  have hlow : 13 ≤ w.heap.size := hrd.lkk.sz
  have HN := Lib.hid (fun w' (hb : Below w.heap.size w w') => next_any b g t r d w' (hrd.on hb))
  have HT := Lib.hid (fun w' (hb : Below w.heap.size w w') hr => take_any b g t r d w' (hrd.on hb) hr)
  unfold tv at HN HT
  obtain ⟨TT, hTT⟩ : ∃ TT : ByteArray, (⟨t.text.toArray⟩ : ByteArray) = TT := ⟨_, rfl⟩
  rw [hTT] at HN HT
  have HTT := Lib.hid hTT
  clear hTT
  obtain ⟨n, hn⟩ : ∃ n, w.heap.size = n := ⟨_, rfl⟩
  have HWN := Lib.hid hn
  rw [hn] at hbw hgw hlow
  obtain ⟨w0, hw0⟩ : ∃ w0, w.alloc (.cells #[.string ⟨#[]⟩, .complex .f64 0 0, .string ⟨#[]⟩, .slice none 0 0] 159) = w0 := ⟨_, rfl⟩
  have HB0 : Hid (Below w.heap.size w w0) := Lib.hid (by rw [← hw0]; exact below_alloc _ _)
  have HNB0 : Hid (w0.heap[n]? = some (.cells zex 159 (0, 0))) := Lib.hid (by rw [← hw0]; exact alloc_at hn _)
  have hn0 : n < w0.heap.size := lt_of_row HNB0.out
  clear hrd hok
  have hk1 : ((t.kind : Int) == 2) = false := by simp; omega
  have HR := Lib.hid (HOK.out.tl (opOne_ne ho))
  have hfl : r.length ≤ f := by simpa using hf
  have HOP := Lib.hid (opOfOne_any t.text)
  have hos : op1S t.text = op1 k := by unfold op1S; rw [ho]
  rw [hos, HTT.out] at HOP
  have hk4 : k < 4 := by rcases opOne_cases t.text with ⟨_, h⟩ | ⟨_, h⟩ | ⟨_, h⟩ | ⟨_, h⟩ | ⟨_, _, _, _, h⟩ <;> rw [h] at ho <;> first | (injection ho with ho; omega) | cases ho
  have o1 : (⟨(op1 k).toArray⟩ : ByteArray).toList.isEmpty = false := by rcases (by omega : k = 0 ∨ k = 1 ∨ k = 2 ∨ k = 3) with rfl | rfl | rfl | rfl <;> simp [op1, go_sem]
  have o2 : ¬ (⟨(op1 k).toArray⟩ : ByteArray).toList = [] := by rcases (by omega : k = 0 ∨ k = 1 ∨ k = 2 ∨ k = 3) with rfl | rfl | rfl | rfl <;> simp [op1, go_sem]
  have HOB : Hid (∀ x, opB (.one k x) = ⟨(op1 k).toArray⟩) := Lib.hid (fun _ => rfl)
  generalize (⟨(op1 k).toArray⟩ : ByteArray) = OB at *
  have HI := Lib.hid (fun w' (h : Rdr w' b g r d) => ih b g r d w' h HR.out.1 hfl)
  clear hk hos ho
  go_enter Tryz.func222, Tryz.ntmps222
  go_wp2_with fail
  clear hw0 hn
  refine (HN.out _ HB0.out).mono ?_
  rintro en w1 ⟨rfl, hb1⟩
  have HB1 : Hid (Below w0.heap.size w0 w1) := Lib.hid hb1
  clear hb1
  go_wp2_with fail
  refine (HN.out _ (below_tr HB0.out HB1.out)).mono ?_
  rintro en w2 ⟨rfl, hb2⟩
  have HB2 : Hid (Below w0.heap.size w0 w2) := Lib.hid (below_tr HB1.out hb2)
  clear hb2
  go_wp2_with fail
  refine (HOP.out _).mono ?_
  rintro en w2' ⟨rfl, rfl⟩
  go_wp2_with fail
  refine (HT.out _ (below_tr HB0.out HB2.out) HR.out.2.2).mono ?_
  rintro en w3 ⟨rfl, hrd3, hk3⟩
  have HK3 : Hid (Kx (· = b) w0 w3) := Lib.hid ((Kx.of HB2.out).tr hk3)
  have HI3 := Lib.hid (HI.out _ hrd3)
  clear hrd3 hk3
  go_wp2_with fail
  refine HI3.out.mono ?_
  rw [hx]
  unfold PE pan
  rintro en w4 ⟨rfl, hk4⟩
  have HK4 := Lib.hid hk4
  clear hk4
  go_wp2
  exact ⟨rfl, rfl, ((Kx.of HB0.out).tr HK3.out).tr HK4.out⟩

set_option maxRecDepth 100000 in
set_option maxHeartbeats 3200000 in
theorem one_par_er (f b g : Nat) (t : Tk) (r : List Tk) (d : Nat) (w : World) (hrd : Rdr w b g (t :: r) d) (hok : Okt (t :: r)) (hk : t.kind ≠ 2) (ht : t.text = [40]) (hf : (t :: r).length ≤ f + 1) (ih : ExOk 198 f (exprP (oneP f))) (pp cc : Nat) (hx : exprP (oneP f) r = .error (pp, cc)) : Calls Tryz.prog 222 #[.pointer (some ⟨b, 0, none⟩)] w (PE b g w d (.error (pp, cc))) := by
  have hst := store_cx
  have hfK := fldK
  have hfT := fldT
  have hfN := fldN
  have HOK := Lib.hid hok
  have HRD := Lib.hid hrd
  have hbw : b < w.heap.size := hrd.lt
  have hgw : g < w.heap.size := hrd.1
  have hlo : 13 ≤ b := by obtain ⟨_, _, _, R⟩ := hrd; exact R.lo
  have hlow : 13 ≤ w.heap.size := hrd.lkk.sz
  have HN := Lib.hid (fun w' (hb : Below w.heap.size w w') => next_any b g t r d w' (hrd.on hb))
  have HT := Lib.hid (fun w' (hb : Below w.heap.size w w') hr => take_any b g t r d w' (hrd.on hb) hr)
  unfold tv at HN HT
  obtain ⟨TT, hTT⟩ : ∃ TT : ByteArray, (⟨t.text.toArray⟩ : ByteArray) = TT := ⟨_, rfl⟩
  rw [hTT] at HN HT
  have HTT := Lib.hid hTT
  clear hTT
  obtain ⟨n, hn⟩ : ∃ n, w.heap.size = n := ⟨_, rfl⟩
  have HWN := Lib.hid hn
  rw [hn] at hbw hgw hlow
  obtain ⟨w0, hw0⟩ : ∃ w0, w.alloc (.cells #[.string ⟨#[]⟩, .complex .f64 0 0, .string ⟨#[]⟩, .slice none 0 0] 159) = w0 := ⟨_, rfl⟩
  have HB0 : Hid (Below w.heap.size w w0) := Lib.hid (by rw [← hw0]; exact below_alloc _ _)
  have HNB0 : Hid (w0.heap[n]? = some (.cells zex 159 (0, 0))) := Lib.hid (by rw [← hw0]; exact alloc_at hn _)
  have hn0 : n < w0.heap.size := lt_of_row HNB0.out
  clear hrd hok
  have hk1 : ((t.kind : Int) == 2) = false := by simp; omega
  have HR := Lib.hid (HOK.out.tl (by rw [ht]; simp))
  have hfl : r.length ≤ f := by simpa using hf
  have HOP := Lib.hid (opOfOne_any t.text)
  have hos : op1S t.text = [] := by rw [ht]; rfl
  rw [hos, HTT.out] at HOP
  have HTI := Lib.hid (fun w' (hb : Below w.heap.size w w') => takeIf_yes b g t r d [40] w' (HRD.out.on hb) HR.out.2.2 ht)
  have HI := Lib.hid (fun w' (h : Rdr w' b g r d) => ih b g r d w' h HR.out.1 hfl)
  clear hk hos ht
  go_enter Tryz.func222, Tryz.ntmps222
  go_wp2_with fail
  clear hw0 hn
  refine (HN.out _ HB0.out).mono ?_
  rintro en w1 ⟨rfl, hb1⟩
  have HB1 : Hid (Below w0.heap.size w0 w1) := Lib.hid hb1
  clear hb1
  go_wp2_with fail
  refine (HN.out _ (below_tr HB0.out HB1.out)).mono ?_
  rintro en w2 ⟨rfl, hb2⟩
  have HB2 : Hid (Below w0.heap.size w0 w2) := Lib.hid (below_tr HB1.out hb2)
  clear hb2
  go_wp2_with fail
  refine (HOP.out _).mono ?_
  rintro en w2' ⟨rfl, rfl⟩
  go_wp2_with fail
  refine (HTI.out _ (below_tr HB0.out HB2.out)).mono ?_
  rintro en w3 ⟨rfl, hrd3, hk3⟩
  have HK3 : Hid (Kx (· = b) w0 w3) := Lib.hid ((Kx.of HB2.out).tr hk3)
  have HI3 := Lib.hid (HI.out _ hrd3)
  clear hrd3 hk3
  go_wp2_with fail
  refine HI3.out.mono ?_
  rw [hx]
  unfold PE pan
  rintro en w4 ⟨rfl, hk4⟩
  have HK4 := Lib.hid hk4
  clear hk4
  go_wp2
  exact ⟨rfl, rfl, ((Kx.of HB0.out).tr HK3.out).tr HK4.out⟩

set_option maxRecDepth 100000 in
set_option maxHeartbeats 3200000 in
theorem one_par_no (f b g : Nat) (t : Tk) (r : List Tk) (d : Nat) (w : World) (hrd : Rdr w b g (t :: r) d) (hok : Okt (t :: r)) (hk : t.kind ≠ 2) (ht : t.text = [40]) (hf : (t :: r).length ≤ f + 1) (ih : ExOk 198 f (exprP (oneP f))) (x : Ex) (u : Tk) (r1 : List Tk) (hx : exprP (oneP f) r = .ok (x, u :: r1)) (hu : u.text ≠ [41]) : Calls Tryz.prog 222 #[.pointer (some ⟨b, 0, none⟩)] w (PE b g w d (.error (u.pos, 1))) := by
  have hst := store_cx
  have hfK := fldK
  have hfT := fldT
  have hfN := fldN
  have HOK := Lib.hid hok
  have HRD := Lib.hid hrd
  have hbw : b < w.heap.size := hrd.lt
  have hgw : g < w.heap.size := hrd.1
  have hlo : 13 ≤ b := by obtain ⟨_, _, _, R⟩ := hrd; exact R.lo
  have hlow : 13 ≤ w.heap.size := hrd.lkk.sz
  have HN := Lib.hid (fun w' (hb : Below w.heap.size w w') => next_any b g t r d w' (hrd.on hb))
  have HT := Lib.hid (fun w' (hb : Below w.heap.size w w') hr => take_any b g t r d w' (hrd.on hb) hr)
  unfold tv at HN HT
  obtain ⟨TT, hTT⟩ : ∃ TT : ByteArray, (⟨t.text.toArray⟩ : ByteArray) = TT := ⟨_, rfl⟩
  rw [hTT] at HN HT
  have HTT := Lib.hid hTT
  clear hTT
  obtain ⟨n, hn⟩ : ∃ n, w.heap.size = n := ⟨_, rfl⟩
  have HWN := Lib.hid hn
  rw [hn] at hbw hgw hlow
  obtain ⟨w0, hw0⟩ : ∃ w0, w.alloc (.cells #[.string ⟨#[]⟩, .complex .f64 0 0, .string ⟨#[]⟩, .slice none 0 0] 159) = w0 := ⟨_, rfl⟩
  have HB0 : Hid (Below w.heap.size w w0) := Lib.hid (by rw [← hw0]; exact below_alloc _ _)
  have HNB0 : Hid (w0.heap[n]? = some (.cells zex 159 (0, 0))) := Lib.hid (by rw [← hw0]; exact alloc_at hn _)
  have hn0 : n < w0.heap.size := lt_of_row HNB0.out
  clear hrd hok
  have hk1 : ((t.kind : Int) == 2) = false := by simp; omega
  have HR := Lib.hid (HOK.out.tl (by rw [ht]; simp))
  have hfl : r.length ≤ f := by simpa using hf
  have HOP := Lib.hid (opOfOne_any t.text)
  have hos : op1S t.text = [] := by rw [ht]; rfl
  rw [hos, HTT.out] at HOP
  have HTI := Lib.hid (fun w' (hb : Below w.heap.size w w') => takeIf_yes b g t r d [40] w' (HRD.out.on hb) HR.out.2.2 ht)
  have HI := Lib.hid (fun w' (h : Rdr w' b g r d) => ih b g r d w' h HR.out.1 hfl)
  clear hk hos ht
  go_enter Tryz.func222, Tryz.ntmps222
  go_wp2_with fail
  clear hw0 hn
  refine (HN.out _ HB0.out).mono ?_
  rintro en w1 ⟨rfl, hb1⟩
  have HB1 : Hid (Below w0.heap.size w0 w1) := Lib.hid hb1
  clear hb1
  go_wp2_with fail
  refine (HN.out _ (below_tr HB0.out HB1.out)).mono ?_
  rintro en w2 ⟨rfl, hb2⟩
  have HB2 : Hid (Below w0.heap.size w0 w2) := Lib.hid (below_tr HB1.out hb2)
  clear hb2
  go_wp2_with fail
  refine (HOP.out _).mono ?_
  rintro en w2' ⟨rfl, rfl⟩
  go_wp2_with fail
  refine (HTI.out _ (below_tr HB0.out HB2.out)).mono ?_
  rintro en w3 ⟨rfl, hrd3, hk3⟩
  have HK3 : Hid (Kx (· = b) w0 w3) := Lib.hid ((Kx.of HB2.out).tr hk3)
  have HI3 := Lib.hid (HI.out _ hrd3)
  clear hrd3 hk3
  go_wp2_with fail
  refine HI3.out.mono ?_
  rw [hx]
  rintro en w4 ⟨p, rfl, hpx, hrd4, hk4⟩
  have HK4 : Hid (Kx (· = b) w0 w4) := Lib.hid (HK3.out.tr hk4)
  have hz3 : w0.heap.size ≤ w3.heap.size := HK3.out.size
  have hz4 : w3.heap.size ≤ w4.heap.size := hk4.size
  have HPX := Lib.hid hpx
  have HRD4 := Lib.hid hrd4
  clear hpx hrd4 hk4
  have HMU := Lib.hid (fun w' (hb : Below w4.heap.size w4 w') => must_no b g u r1 d [41] w' (HRD4.out.on hb) hu)
  unfold exv
  unfold PE
  unfold pan at HMU ⊢
  clear hx hu
  go_wp2_with fail
  refine (HMU.out _ (below_alloc _ _)).mono ?_
  rintro en w5 ⟨rfl, hb5⟩
  have HB5 := Lib.hid (below_new hb5)
  clear hb5
  go_wp2
  exact ⟨rfl, rfl, ((Kx.of HB0.out).tr HK4.out).bel HB5.out⟩

set_option maxRecDepth 100000 in
set_option maxHeartbeats 3200000 in
theorem one_par_ok (f b g : Nat) (t : Tk) (r : List Tk) (d : Nat) (w : World) (hrd : Rdr w b g (t :: r) d) (hok : Okt (t :: r)) (hk : t.kind ≠ 2) (ht : t.text = [40]) (hf : (t :: r).length ≤ f + 1) (ih : ExOk 198 f (exprP (oneP f))) (x : Ex) (u : Tk) (r1 : List Tk) (hx : exprP (oneP f) r = .ok (x, u :: r1)) (hu : u.text = [41]) (hr1 : r1 ≠ []) : Calls Tryz.prog 222 #[.pointer (some ⟨b, 0, none⟩)] w (PE b g w d (.ok (x, r1))) := by
  have hst := store_cx
  have hfK := fldK
  have hfT := fldT
  have hfN := fldN
  have HOK := Lib.hid hok
  have HRD := Lib.hid hrd
  have hbw : b < w.heap.size := hrd.lt
  have hgw : g < w.heap.size := hrd.1
  have hlo : 13 ≤ b := by obtain ⟨_, _, _, R⟩ := hrd; exact R.lo
  have hlow : 13 ≤ w.heap.size := hrd.lkk.sz
  have HN := Lib.hid (fun w' (hb : Below w.heap.size w w') => next_any b g t r d w' (hrd.on hb))
  have HT := Lib.hid (fun w' (hb : Below w.heap.size w w') hr => take_any b g t r d w' (hrd.on hb) hr)
  unfold tv at HN HT
  obtain ⟨TT, hTT⟩ : ∃ TT : ByteArray, (⟨t.text.toArray⟩ : ByteArray) = TT := ⟨_, rfl⟩
  rw [hTT] at HN HT
  have HTT := Lib.hid hTT
  clear hTT
  obtain ⟨n, hn⟩ : ∃ n, w.heap.size = n := ⟨_, rfl⟩
  have HWN := Lib.hid hn
  rw [hn] at hbw hgw hlow
  obtain ⟨w0, hw0⟩ : ∃ w0, w.alloc (.cells #[.string ⟨#[]⟩, .complex .f64 0 0, .string ⟨#[]⟩, .slice none 0 0] 159) = w0 := ⟨_, rfl⟩
  have HB0 : Hid (Below w.heap.size w w0) := Lib.hid (by rw [← hw0]; exact below_alloc _ _)
  have HNB0 : Hid (w0.heap[n]? = some (.cells zex 159 (0, 0))) := Lib.hid (by rw [← hw0]; exact alloc_at hn _)
  have hn0 : n < w0.heap.size := lt_of_row HNB0.out
  clear hrd hok
  have hk1 : ((t.kind : Int) == 2) = false := by simp; omega
  have HR := Lib.hid (HOK.out.tl (by rw [ht]; simp))
  have hfl : r.length ≤ f := by simpa using hf
  have HOP := Lib.hid (opOfOne_any t.text)
  have hos : op1S t.text = [] := by rw [ht]; rfl
  rw [hos, HTT.out] at HOP
  have HTI := Lib.hid (fun w' (hb : Below w.heap.size w w') => takeIf_yes b g t r d [40] w' (HRD.out.on hb) HR.out.2.2 ht)
  have HI := Lib.hid (fun w' (h : Rdr w' b g r d) => ih b g r d w' h HR.out.1 hfl)
  clear hk hos ht
  go_enter Tryz.func222, Tryz.ntmps222
  go_wp2_with fail
  clear hw0 hn
  refine (HN.out _ HB0.out).mono ?_
  rintro en w1 ⟨rfl, hb1⟩
  have HB1 : Hid (Below w0.heap.size w0 w1) := Lib.hid hb1
  clear hb1
  go_wp2_with fail
  refine (HN.out _ (below_tr HB0.out HB1.out)).mono ?_
  rintro en w2 ⟨rfl, hb2⟩
  have HB2 : Hid (Below w0.heap.size w0 w2) := Lib.hid (below_tr HB1.out hb2)
  clear hb2
  go_wp2_with fail
  refine (HOP.out _).mono ?_
  rintro en w2' ⟨rfl, rfl⟩
  go_wp2_with fail
  refine (HTI.out _ (below_tr HB0.out HB2.out)).mono ?_
  rintro en w3 ⟨rfl, hrd3, hk3⟩
  have HK3 : Hid (Kx (· = b) w0 w3) := Lib.hid ((Kx.of HB2.out).tr hk3)
  have HI3 := Lib.hid (HI.out _ hrd3)
  clear hrd3 hk3
  go_wp2_with fail
  refine HI3.out.mono ?_
  rw [hx]
  rintro en w4 ⟨p, rfl, hpx, hrd4, hk4⟩
  have HK4 : Hid (Kx (· = b) w0 w4) := Lib.hid (HK3.out.tr hk4)
  have hz3 : w0.heap.size ≤ w3.heap.size := HK3.out.size
  have hz4 : w3.heap.size ≤ w4.heap.size := hk4.size
  have HPX := Lib.hid hpx
  have HRD4 := Lib.hid hrd4
  clear hpx hrd4 hk4
  obtain ⟨m, hm⟩ : ∃ m, w4.heap.size = m := ⟨_, rfl⟩
  obtain ⟨w5, hw5⟩ : ∃ w5, w4.alloc (.cells (exb x p) 159) = w5 := ⟨_, rfl⟩
  have HB5 : Hid (Below w4.heap.size w4 w5) := Lib.hid (by rw [← hw5]; exact below_alloc _ _)
  have HM5 : Hid (w5.heap[m]? = some (.cells (exb x p) 159 (0, 0))) := Lib.hid (by rw [← hw5]; exact alloc_at hm _)
  have HMU := Lib.hid (must_yes b g u r1 d [41] w5 (HRD4.out.on HB5.out) hr1 hu)
  have hm5 : m < w5.heap.size := lt_of_row HM5.out
  have hnm : n < m := by omega
  have hbm : b ≠ m := by omega
  have HMM := Lib.hid hm
  have HQ : Hid (∀ w6, Kx (· = b) w5 w6 → w6.heap[m]? = some (.cells (exb x p) 159 (0, 0)) ∧ w6.heap[n]? = some (.cells zex 159 (0, 0)) ∧ Px w6 (fun i => n < i ∧ i < w6.heap.size) x p ∧ Kx (· = b) w w6) := Lib.hid (fun w6 h6 => by
    have k5 : Kx (· = b) w4 w6 := (Kx.of HB5.out).tr h6
    refine ⟨(h6.block m hm5 (by omega)).trans HM5.out, (k5.block n (by omega) (by omega)).trans ((HK4.out.block n hn0 (by omega)).trans HNB0.out), ?_, ((Kx.of HB0.out).tr HK4.out).tr k5⟩
    exact HPX.out.on (Same.kx k5 fun i hi => ⟨hi.2, by have := hi.1; omega⟩) (fun i hi => ⟨by have := hi.1; omega, Nat.lt_of_lt_of_le hi.2 k5.size⟩))
  unfold exb at hw5
  unfold exv
  clear hx hu
  go_wp2_with fail
  clear hw5 hm
  refine HMU.out.mono ?_
  rintro en w6 ⟨rfl, hrd6, hk6⟩
  obtain ⟨q1, q2, q3, q4⟩ := HQ.out w6 hk6
  have HM := Lib.hid q1
  have HNB := Lib.hid q2
  have HFIN := Lib.hid (fun W en hW he => pe_fin (w := w) (W := W) (en := en) (n := n) (b := b) (g := g) (d := d) (r := r1) (e := x) (p := p) (w2 := w6) (by have := HWN.out; omega) (by omega) (by omega) (by have := HWN.out; omega) q4 q3 hrd6 hW he)
  unfold exv at HFIN
  clear q1 q2 q3 q4 hk6 hrd6
  have m0 : w6.cell? ⟨m, 0, none⟩ = some (.string (opB x)) := row_cell HM.out
  have m1 : w6.cell? ⟨m, 1, none⟩ = some (.complex .f64 (nxB x) (nyB x)) := row_cell HM.out
  have m2 : w6.cell? ⟨m, 2, none⟩ = some (.string (nmB x)) := row_cell HM.out
  have m3 : w6.cell? ⟨m, 3, none⟩ = some (.slice p (npB x) (npB x)) := row_cell HM.out
  have n0 : w6.cell? ⟨n, 0, none⟩ = some (.string ⟨#[]⟩) := row_cell HNB.out
  have n1 : w6.cell? ⟨n, 1, none⟩ = some (.complex .f64 0 0) := row_cell HNB.out
  have n2 : w6.cell? ⟨n, 2, none⟩ = some (.string ⟨#[]⟩) := row_cell HNB.out
  have n3 : w6.cell? ⟨n, 3, none⟩ = some (.slice none 0 0) := row_cell HNB.out
  have f0 : w6.frozen? ⟨n, 0, none⟩ = false := row_frozen HNB.out
  have f1 : w6.frozen? ⟨n, 1, none⟩ = false := row_frozen HNB.out
  have f2 : w6.frozen? ⟨n, 2, none⟩ = false := row_frozen HNB.out
  have f3 : w6.frozen? ⟨n, 3, none⟩ = false := row_frozen HNB.out
  generalize opB x = z0 at *
  generalize nxB x = z1 at *
  generalize nyB x = z2 at *
  generalize nmB x = z3 at *
  generalize npB x = z4 at *
  go_wp2
  exact bodyPost_ret (v := .agg #[.string z0, .complex .f64 z1 z2, .string z3, .slice p z4 z4]) (by simp [results, Tryz.results222, go_sem, n0, n1, n2, n3]) rfl (HFIN.out _ _ rfl rfl)

set_option maxRecDepth 100000 in
set_option maxHeartbeats 3200000 in
theorem one_reg_ok (f b g : Nat) (t : Tk) (r : List Tk) (d : Nat) (w : World) (hrd : Rdr w b g (t :: r) d) (hok : Okt (t :: r)) (hk : t.kind ≠ 2) (ho : opOne t.text = none) (ht : t.text ≠ [40]) (hnm : isNm t = true) : Calls Tryz.prog 222 #[.pointer (some ⟨b, 0, none⟩)] w (PE b g w d (.ok (.reg t.text, r))) := by
  have hst := store_cx
  have hfK := fldK
  have hfT := fldT
  have hfN := fldN
  have HOK := Lib.hid hok
  have HRD := Lib.hid hrd
  have hbw : b < w.heap.size := hrd.lt
  have hgw : g < w.heap.size := hrd.1
  have hlo : 13 ≤ b := by obtain ⟨_, _, _, R⟩ := hrd; exact R.lo
  have hlow : 13 ≤ w.heap.size := hrd.lkk.sz
  have HN := Lib.hid (fun w' (hb : Below w.heap.size w w') => next_any b g t r d w' (hrd.on hb))
  have HT := Lib.hid (fun w' (hb : Below w.heap.size w w') hr => take_any b g t r d w' (hrd.on hb) hr)
  unfold tv at HN HT
  obtain ⟨TT, hTT⟩ : ∃ TT : ByteArray, (⟨t.text.toArray⟩ : ByteArray) = TT := ⟨_, rfl⟩
  rw [hTT] at HN HT
  have HTT := Lib.hid hTT
  clear hTT
  obtain ⟨n, hn⟩ : ∃ n, w.heap.size = n := ⟨_, rfl⟩
  have HWN := Lib.hid hn
  rw [hn] at hbw hgw hlow
  obtain ⟨w0, hw0⟩ : ∃ w0, w.alloc (.cells #[.string ⟨#[]⟩, .complex .f64 0 0, .string ⟨#[]⟩, .slice none 0 0] 159) = w0 := ⟨_, rfl⟩
  have HB0 : Hid (Below w.heap.size w w0) := Lib.hid (by rw [← hw0]; exact below_alloc _ _)
  have HNB0 : Hid (w0.heap[n]? = some (.cells zex 159 (0, 0))) := Lib.hid (by rw [← hw0]; exact alloc_at hn _)
  have hn0 : n < w0.heap.size := lt_of_row HNB0.out
  clear hrd hok
  have hk1 : ((t.kind : Int) == 2) = false := by simp; omega
  have HOP := Lib.hid (opOfOne_any t.text)
  have hos : op1S t.text = [] := by unfold op1S; rw [ho]
  rw [hos, HTT.out] at HOP
  have HTI := Lib.hid (fun w' (hb : Below w.heap.size w w') => takeIf_no b g t r d [40] w' (HRD.out.on hb) ht)
  have HR := Lib.hid (HOK.out.tl (isNm_ne HOK.out hnm))
  clear hk hos ht ho
  go_enter Tryz.func222, Tryz.ntmps222
  go_wp2_with fail
  clear hw0 hn
  refine (HN.out _ HB0.out).mono ?_
  rintro en w1 ⟨rfl, hb1⟩
  have HB1 : Hid (Below w0.heap.size w0 w1) := Lib.hid hb1
  clear hb1
  go_wp2_with fail
  refine (HN.out _ (below_tr HB0.out HB1.out)).mono ?_
  rintro en w2 ⟨rfl, hb2⟩
  have HB2 : Hid (Below w0.heap.size w0 w2) := Lib.hid (below_tr HB1.out hb2)
  clear hb2
  go_wp2_with fail
  refine (HOP.out _).mono ?_
  rintro en w2' ⟨rfl, rfl⟩
  go_wp2_with fail
  refine (HTI.out _ (below_tr HB0.out HB2.out)).mono ?_
  rintro en w3 ⟨rfl, hb3⟩
  have HB3 : Hid (Below w0.heap.size w0 w3) := Lib.hid (below_tr HB2.out hb3)
  clear hb3
  go_wp2_with fail
  refine (mustName_yes b g t r d _ (HRD.out.on (below_tr HB0.out HB3.out)) HR.out.2.2 hnm).mono ?_
  rw [HTT.out]
  rintro en w4 ⟨rfl, hrd4, hk4⟩
  have HK4 : Hid (Kx (· = b) w0 w4) := Lib.hid ((Kx.of HB3.out).tr hk4)
  have HNB : Hid (w4.heap[n]? = some (.cells zex 159 (0, 0))) := Lib.hid ((HK4.out.block n hn0 (by omega)).trans HNB0.out)
  have n0 : w4.cell? ⟨n, 0, none⟩ = some (.string ⟨#[]⟩) := row_cell HNB.out
  have n1 : w4.cell? ⟨n, 1, none⟩ = some (.complex .f64 0 0) := row_cell HNB.out
  have n2 : w4.cell? ⟨n, 2, none⟩ = some (.string ⟨#[]⟩) := row_cell HNB.out
  have n3 : w4.cell? ⟨n, 3, none⟩ = some (.slice none 0 0) := row_cell HNB.out
  have f0 : w4.frozen? ⟨n, 0, none⟩ = false := row_frozen HNB.out
  have f1 : w4.frozen? ⟨n, 1, none⟩ = false := row_frozen HNB.out
  have f2 : w4.frozen? ⟨n, 2, none⟩ = false := row_frozen HNB.out
  have f3 : w4.frozen? ⟨n, 3, none⟩ = false := row_frozen HNB.out
  have HFIN := Lib.hid (fun W en hW he => pe_fin (w := w) (W := W) (en := en) (n := n) (b := b) (g := g) (d := d) (r := r) (e := .reg t.text) (p := none) (w2 := w4) (by have := HWN.out; omega) (by omega) (by omega) (by have := HWN.out; omega) ((Kx.of HB0.out).tr HK4.out) rfl hrd4 hW he)
  unfold exv opB nxB nyB nmB npB at HFIN
  simp only at HFIN
  rw [HTT.out] at HFIN
  clear hrd4 hk4 hnm
  go_wp2
  exact bodyPost_ret (v := .agg #[.string ⟨#[114, 101, 103]⟩, .complex .f64 0 0, .string TT, .slice none 0 0]) (by simp [results, Tryz.results222, go_sem, n0, n1, n2, n3]) rfl (HFIN.out _ _ rfl rfl)

set_option maxRecDepth 100000 in
set_option maxHeartbeats 3200000 in
theorem one_reg_no (f b g : Nat) (t : Tk) (r : List Tk) (d : Nat) (w : World) (hrd : Rdr w b g (t :: r) d) (hok : Okt (t :: r)) (hk : t.kind ≠ 2) (ho : opOne t.text = none) (ht : t.text ≠ [40]) (hnm : isNm t = false) : Calls Tryz.prog 222 #[.pointer (some ⟨b, 0, none⟩)] w (PE b g w d (.error (t.pos, 1))) := by
  have hst := store_cx
  have hfK := fldK
  have hfT := fldT
  have hfN := fldN
  have HOK := Lib.hid hok
  have HRD := Lib.hid hrd
  have hbw : b < w.heap.size := hrd.lt
  have hgw : g < w.heap.size := hrd.1
  have hlo : 13 ≤ b := by obtain ⟨_, _, _, R⟩ := hrd; exact R.lo
  have hlow : 13 ≤ w.heap.size := hrd.lkk.sz
  have HN := Lib.hid (fun w' (hb : Below w.heap.size w w') => next_any b g t r d w' (hrd.on hb))
  have HT := Lib.hid (fun w' (hb : Below w.heap.size w w') hr => take_any b g t r d w' (hrd.on hb) hr)
  unfold tv at HN HT
  obtain ⟨TT, hTT⟩ : ∃ TT : ByteArray, (⟨t.text.toArray⟩ : ByteArray) = TT := ⟨_, rfl⟩
  rw [hTT] at HN HT
  have HTT := Lib.hid hTT
  clear hTT
  obtain ⟨n, hn⟩ : ∃ n, w.heap.size = n := ⟨_, rfl⟩
  have HWN := Lib.hid hn
  rw [hn] at hbw hgw hlow
  obtain ⟨w0, hw0⟩ : ∃ w0, w.alloc (.cells #[.string ⟨#[]⟩, .complex .f64 0 0, .string ⟨#[]⟩, .slice none 0 0] 159) = w0 := ⟨_, rfl⟩
  have HB0 : Hid (Below w.heap.size w w0) := Lib.hid (by rw [← hw0]; exact below_alloc _ _)
  have HNB0 : Hid (w0.heap[n]? = some (.cells zex 159 (0, 0))) := Lib.hid (by rw [← hw0]; exact alloc_at hn _)
  have hn0 : n < w0.heap.size := lt_of_row HNB0.out
  clear hrd hok
  have hk1 : ((t.kind : Int) == 2) = false := by simp; omega
  have HOP := Lib.hid (opOfOne_any t.text)
  have hos : op1S t.text = [] := by unfold op1S; rw [ho]
  rw [hos, HTT.out] at HOP
  have HTI := Lib.hid (fun w' (hb : Below w.heap.size w w') => takeIf_no b g t r d [40] w' (HRD.out.on hb) ht)
  clear hk hos ht ho
  go_enter Tryz.func222, Tryz.ntmps222
  go_wp2_with fail
  clear hw0 hn
  refine (HN.out _ HB0.out).mono ?_
  rintro en w1 ⟨rfl, hb1⟩
  have HB1 : Hid (Below w0.heap.size w0 w1) := Lib.hid hb1
  clear hb1
  go_wp2_with fail
  refine (HN.out _ (below_tr HB0.out HB1.out)).mono ?_
  rintro en w2 ⟨rfl, hb2⟩
  have HB2 : Hid (Below w0.heap.size w0 w2) := Lib.hid (below_tr HB1.out hb2)
  clear hb2
  go_wp2_with fail
  refine (HOP.out _).mono ?_
  rintro en w2' ⟨rfl, rfl⟩
  go_wp2_with fail
  refine (HTI.out _ (below_tr HB0.out HB2.out)).mono ?_
  rintro en w3 ⟨rfl, hb3⟩
  have HB3 : Hid (Below w0.heap.size w0 w3) := Lib.hid (below_tr HB2.out hb3)
  clear hb3
  go_wp2_with fail
  refine (mustName_no b g t r d _ (HRD.out.on (below_tr HB0.out HB3.out)) hnm).mono ?_
  unfold pan PE
  rintro en w4 ⟨rfl, hb4⟩
  have HB4 := Lib.hid hb4
  clear hb4 hnm
  go_wp2
  exact ⟨rfl, rfl, ((Kx.of HB0.out).bel HB3.out).bel HB4.out⟩

theorem one_any : ∀ f, ExOk 222 f (oneP f) := by
  intro f
  induction f with
  | zero =>
    intro b g ts d w hrd hok hf
    obtain ⟨t, r, rfl⟩ := hok.ne
    simp at hf
  | succ f ih =>
    have ihe : ExOk 198 f (exprP (oneP f)) := expr_any f _ (oneP_eats f) (sum_any f _ (oneP_eats f) (prod_any f _ (oneP_eats f) ih))
    intro b g ts d w hrd hok hf
    obtain ⟨t, r, rfl⟩ := hok.ne
    rw [oneP]
    by_cases hk : t.kind = 2
    · rw [if_pos hk]; exact one_num f b g t r d w hrd hok hk
    rw [if_neg hk]
    cases ho : opOne t.text with
    | some k =>
      simp only
      cases hx : oneP f r with
      | error er => exact one_op_er f b g t r d w hrd hok hk k ho hf ih _ _ hx
      | ok xr => exact one_op_ok f b g t r d w hrd hok hk k ho hf ih _ _ hx
    | none =>
      simp only
      by_cases ht : t.text = [40]
      · rw [if_pos ht]
        have hr := hok.tl (by rw [ht]; simp)
        cases hx : exprP (oneP f) r with
        | error er => exact one_par_er f b g t r d w hrd hok hk ht hf ihe _ _ hx
        | ok xr =>
          obtain ⟨x, r1⟩ := xr
          have hr1 := exprP_eats (oneP_eats f) _ _ _ hr.1 hx
          obtain ⟨u, r2, rfl⟩ := hr1.1.ne
          simp only [must]
          by_cases hu : u.text = [41]
          · rw [if_pos hu]; exact one_par_ok f b g t r d w hrd hok hk ht hf ihe x u r2 hx hu (hr1.1.tl (by rw [hu]; simp)).2.2
          · rw [if_neg hu]; exact one_par_no f b g t r d w hrd hok hk ht hf ihe x u r2 hx hu
      · rw [if_neg ht]
        cases hn : isNm t with
        | true => exact one_reg_ok f b g t r d w hrd hok hk ho ht hn
        | false => exact one_reg_no f b g t r d w hrd hok hk ho ht hn
theorem exprR_any (f : Nat) : ExOk 198 f (exprP (oneP f)) := expr_any f _ (oneP_eats f) (sum_any f _ (oneP_eats f) (prod_any f _ (oneP_eats f) (one_any f)))
end Go.Proofs.YtgiioflkclkioaaGreatDoor
