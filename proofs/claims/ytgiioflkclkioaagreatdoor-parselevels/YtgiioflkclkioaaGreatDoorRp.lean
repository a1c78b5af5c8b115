/- The reader's small functions: the next token, taking it, what must be, what goes wrong. -/
import Derived.Test.YtgiioflkclkioaaGreatDoorTn
import Derived.Test.YtgiioflkclkioaaGreatDoorPw
import Derived.Test.YtgiioflkclkioaaGreatDoorChecked
import Derived.Lib.Hide
import Derived.WalkLawsBesides
import Derived.Laws.StructEq
set_option linter.unusedSimpArgs false
set_option linter.unusedVariables false
namespace Go.Proofs.YtgiioflkclkioaaGreatDoor
open Go.RowKit Ieee

/-- A token's value. -/
def tv (t : Tk) : Value := .agg #[.int .i64 (t.kind : Int), .string ⟨t.text.toArray⟩, .complex .f64 (fl false (t.re : Int)) (fl false (t.im : Int)), .int .i64 (t.pos : Int)]
theorem store_cx (w : World) (a : Addr) (x y : Nat) (m : Mode) : (store a (.complex .f64 x y) m).run Tryz.prog w = stored Tryz.prog w a (.complex .f64 x y) m := run_store _ _ _ _ _ rfl
/-- What a reader panics with. -/
def pan (at_ why : Nat) : Ending := .panicked [{ v := .iface 75 (.agg #[.int .i64 (at_ : Int), .int .i64 (why : Int)]), recovered := false }]
theorem below_alloc (w : World) (o : Obj) : Below w.heap.size w (w.alloc o) := (Below.refl _ _).alloc (Nat.le_refl _) o
theorem below_new {w w1 : World} {o : Obj} (h : Below (w.alloc o).heap.size (w.alloc o) w1) : Below w.heap.size w w1 := (below_alloc w o).trans (h.mono (by simp))
theorem below_trans {a b c : World} (h : Below a.heap.size a b) (k : Below b.heap.size b c) : Below a.heap.size a c := h.trans (k.mono h.size)
theorem bcell {W w1 : World} (hb : Below W.heap.size W w1) : (∀ b o, b < W.heap.size → w1.cell? ⟨b, o, none⟩ = W.cell? ⟨b, o, none⟩) ∧ (∀ b o, b < W.heap.size → w1.frozen? ⟨b, o, none⟩ = W.frozen? ⟨b, o, none⟩) :=
  ⟨fun b o h => hb.cell (p := ⟨b, o, none⟩) h, fun b o h => hb.frozen (p := ⟨b, o, none⟩) h⟩
theorem nb_row {w w1 : World} {cs : Array Value} {T : TypeId} (hb : Below (w.alloc (.cells cs T)).heap.size (w.alloc (.cells cs T)) w1) : w1.heap[w.heap.size]? = some (.cells cs T (0, 0)) := by
  rw [hb.block _ (by simp)]; exact heap_alloc_new _ _
theorem nb_cell {w w1 : World} {cs : Array Value} {T : TypeId} (hb : Below (w.alloc (.cells cs T)).heap.size (w.alloc (.cells cs T)) w1) (i : Nat) : w1.cell? ⟨w.heap.size, i, none⟩ = cs[i]? := row_cell (nb_row hb)
theorem nb_frozen {w w1 : World} {cs : Array Value} {T : TypeId} (hb : Below (w.alloc (.cells cs T)).heap.size (w.alloc (.cells cs T)) w1) (i : Nat) : w1.frozen? ⟨w.heap.size, i, none⟩ = false := row_frozen (nb_row hb)

set_option maxRecDepth 100000 in
set_option maxHeartbeats 1600000 in
theorem next_any (b g : Nat) (t : Tk) (r : List Tk) (d : Nat) (w : World) (h : Rdr w b g (t :: r) d) : Calls Tryz.prog 68 #[.pointer (some ⟨b, 0, none⟩)] w fun e w' => e = .returned (tv t) ∧ Below w.heap.size w w' := by
  obtain ⟨hg, o, cap, R⟩ := h
  have c0 : w.cell? ⟨b, 0, none⟩ = some (.slice (some ⟨g, o, none⟩) (r.length + 1) cap) := row_cell R.blk
  have hb : b < w.heap.size := lt_of_row R.blk
  obtain ⟨⟨t0, t1, t2, t3⟩, _⟩ := R.toks
  have hst := store_cx
  clear R
  unfold tv
  generalize (⟨t.text.toArray⟩ : ByteArray) = T at *
  generalize fl false (t.re : Int) = X at *
  generalize fl false (t.im : Int) = Y at *
  go_enter Tryz.func68, Tryz.ntmps68
  go_wp2
  exact bodyPost_ret (v := .agg #[.int .i64 (t.kind : Int), .string T, .complex .f64 X Y, .int .i64 (t.pos : Int)]) (by simp [results, Tryz.results68, go_sem]) rfl ⟨rfl, below_alloc _ _⟩

set_option maxRecDepth 100000 in
set_option maxHeartbeats 1600000 in
theorem take_any (b g : Nat) (t : Tk) (r : List Tk) (d : Nat) (w : World) (h : Rdr w b g (t :: r) d) (hr : r ≠ []) : Calls Tryz.prog 107 #[.pointer (some ⟨b, 0, none⟩)] w fun e w' => e = .returned (tv t) ∧ Rdr w' b g r d ∧ Kx (· = b) w w' := by
  have HN := Lib.hid (fun (w' : World) (hb' : Below w.heap.size w w') => next_any b g t r d w' (h.on hb'))
  obtain ⟨hg, o, cap, R⟩ := h
  have hb : b < w.heap.size := lt_of_row R.blk
  have hst := store_cx
  have HR := Lib.hid R
  have hr1 : 1 ≤ r.length := by cases r with | nil => exact absurd rfl hr | cons _ _ => simp
  have hcap : ¬ cap = 1 := by have := R.le; simp at this; omega
  have hcap1 : (1 : Int) ≤ (cap : Int) := by have := R.le; simp at this; omega
  clear R
  unfold tv at HN ⊢
  generalize (⟨t.text.toArray⟩ : ByteArray) = T at *
  generalize fl false (t.re : Int) = X at *
  generalize fl false (t.im : Int) = Y at *
  go_enter Tryz.func107, Tryz.ntmps107
  go_wp2_with fail
  refine (HN.out _ (below_alloc _ _)).mono ?_
  rintro e w1 ⟨rfl, hb1⟩
  have r0 : w1.cell? ⟨w.heap.size, 0, none⟩ = some (.int .i64 0) := nb_cell hb1 0
  have r1 : w1.cell? ⟨w.heap.size, 1, none⟩ = some (.string ⟨#[]⟩) := nb_cell hb1 1
  have r2 : w1.cell? ⟨w.heap.size, 2, none⟩ = some (.complex .f64 0 0) := nb_cell hb1 2
  have r3 : w1.cell? ⟨w.heap.size, 3, none⟩ = some (.int .i64 0) := nb_cell hb1 3
  have q0 := nb_frozen hb1 0
  have q1 := nb_frozen hb1 1
  have q2 := nb_frozen hb1 2
  have q3 := nb_frozen hb1 3
  have HB1 : Hid (Below w.heap.size w w1) := Lib.hid (below_new hb1)
  have hb1' : b < w1.heap.size := Nat.lt_of_lt_of_le hb (below_new hb1).size
  have hz : w.heap.size < w1.heap.size := by have := hb1.size; simp at this; omega
  have hbw : ¬ w.heap.size = b := by omega
  have hbw' : ¬ b = w.heap.size := by omega
  have hbw1 : ¬ w1.heap.size = b := by omega
  have c0 : w1.cell? ⟨b, 0, none⟩ = some (.slice (some ⟨g, o, none⟩) (r.length + 1) cap) := (HB1.out.cell (p := ⟨b, 0, none⟩) hb).trans (row_cell HR.out.blk)
  have f0 : w1.frozen? ⟨b, 0, none⟩ = false := (HB1.out.frozen (p := ⟨b, 0, none⟩) hb).trans (row_frozen HR.out.blk)
  clear hb1
  go_wp2
  have KX : Kx (fun x => x = b) w (((((w1.setCell ⟨b, 0, none⟩ (.slice (some ⟨g, o + 4, none⟩) r.length (cap - 1))).setCell ⟨w.heap.size, 0, none⟩ (.int .i64 (t.kind : Int))).setCell ⟨w.heap.size, 1, none⟩ (.string T)).setCell ⟨w.heap.size, 2, none⟩ (.complex .f64 X Y)).setCell ⟨w.heap.size, 3, none⟩ (.int .i64 (t.pos : Int))) := by
    refine Kx.setCell (Kx.setCell (Kx.setCell (Kx.setCell (Kx.setCell (X := fun x => x = b) (p := ⟨b, 0, none⟩) (Kx.of HB1.out) (.inl rfl) _) (.inr ?_) _) (.inr ?_) _) (.inr ?_) _) (.inr ?_) _
    all_goals exact Nat.le_refl _
  refine bodyPost_ret (v := .agg #[.int .i64 (t.kind : Int), .string T, .complex .f64 X Y, .int .i64 (t.pos : Int)]) (by simp [results, Tryz.results107, go_sem, r0, r1, r2, r3, hz, hbw, hbw', hbw1, hb1']) rfl ⟨rfl, ?_, Kx.alloc KX _⟩
  · refine Rdr.on ?_ (below_alloc _ _)
    have hg1 : g < w1.heap.size := Nat.lt_of_lt_of_le hg HB1.out.size
    have hgw : g ≠ w.heap.size := by omega
    refine ⟨by simpa using hg1, o + 4, cap - 1, ?_, HR.out.gb, by have := HR.out.le; simp at this; omega, by have := HR.out.mx; omega, ?_, HR.out.lk.kx KX (fun i hi e => by have := HR.out.lo; omega), HR.out.lo⟩
    · rw [Below.heap_setCell _ _ _ _ hbw', Below.heap_setCell _ _ _ _ hbw', Below.heap_setCell _ _ _ _ hbw', Below.heap_setCell _ _ _ _ hbw']
      exact heap_setCell_same _ b 0 _ 77 _ ((HB1.out.block b hb).trans HR.out.blk)
    · refine HR.out.toks.2.on (fun o => ?_)
      have key : ∀ (W : World) (p : Addr) (u : Value), p.block ≠ g → (W.setCell p u).cell? ⟨g, o, none⟩ = W.cell? ⟨g, o, none⟩ := fun W p u h => World.cell?_of_block (w := W) (Below.heap_setCell _ _ _ _ (Ne.symm h))
      rw [key _ _ _ (Ne.symm hgw), key _ _ _ (Ne.symm hgw), key _ _ _ (Ne.symm hgw), key _ _ _ (Ne.symm hgw), key _ _ _ (Ne.symm HR.out.gb)]
      exact HB1.out.cell (p := ⟨g, o, none⟩) hg

theorem ba_eq {l m : List UInt8} (h : l = m) : ((⟨l.toArray⟩ : ByteArray).toList == (⟨m.toArray⟩ : ByteArray).toList) = true := by rw [h]; simp
theorem ba_list (l : List UInt8) : (⟨l.toArray⟩ : ByteArray).toList = l := by
  rw [ByteArray.toList_eq]
theorem fldK (a b c d : Value) (w : World) : (Instr.field 88 (.agg #[a, b, c, d]) 0).run Tryz.prog w = .ok a w := by
  simp [Instr.field, go_sem, asAgg, Tryz.underlying88, Tryz.isAgg86]
theorem fldT (a b c d : Value) (w : World) : (Instr.field 88 (.agg #[a, b, c, d]) 1).run Tryz.prog w = .ok b w := by
  simp [Instr.field, go_sem, asAgg, Tryz.underlying88, Tryz.isAgg9]
theorem fldN (a b c d : Value) (w : World) : (Instr.field 88 (.agg #[a, b, c, d]) 2).run Tryz.prog w = .ok c w := by
  simp [Instr.field, go_sem, asAgg, Tryz.underlying88, Tryz.isAgg58]
theorem fldP (a b c d : Value) (w : World) : (Instr.field 88 (.agg #[a, b, c, d]) 3).run Tryz.prog w = .ok d w := by
  simp [Instr.field, go_sem, asAgg, Tryz.underlying88, Tryz.isAgg3]
set_option maxRecDepth 100000 in
set_option maxHeartbeats 1600000 in
theorem takeIf_yes (b g : Nat) (t : Tk) (r : List Tk) (d : Nat) (s : List UInt8) (w : World) (h : Rdr w b g (t :: r) d) (hr : r ≠ []) (hs : t.text = s) : Calls Tryz.prog 142 #[.pointer (some ⟨b, 0, none⟩), .string ⟨s.toArray⟩] w fun e w' => e = .returned (.bool true) ∧ Rdr w' b g r d ∧ Kx (· = b) w w' := by
  subst hs
  have hfK := fldK
  have hfT := fldT
  have hfN := fldN
  have hfP := fldP
  have HN := Lib.hid (next_any b g t r d w h)
  have HT := Lib.hid (fun (w' : World) (hb' : Below w.heap.size w w') => take_any b g t r d w' (h.on hb') hr)
  unfold tv at HN HT
  generalize (⟨t.text.toArray⟩ : ByteArray) = T at *
  clear h
  go_enter Tryz.func142, Tryz.ntmps142
  go_wp2_with fail
  refine HN.out.mono ?_
  rintro e w1 ⟨rfl, hb1⟩
  have HB1 := Lib.hid hb1
  clear hb1
  go_wp2_with fail
  refine (HT.out _ HB1.out).mono ?_
  rintro e w2 ⟨rfl, hR, hk⟩
  have H2 := Lib.hid hR
  have H3 := Lib.hid hk
  clear hR hk
  go_wp2
  go_ret
  exact ⟨rfl, H2.out, (Kx.of HB1.out).tr H3.out⟩
set_option maxRecDepth 100000 in
set_option maxHeartbeats 1600000 in
theorem takeIf_no (b g : Nat) (t : Tk) (r : List Tk) (d : Nat) (s : List UInt8) (w : World) (h : Rdr w b g (t :: r) d) (hs : t.text ≠ s) : Calls Tryz.prog 142 #[.pointer (some ⟨b, 0, none⟩), .string ⟨s.toArray⟩] w fun e w' => e = .returned (.bool false) ∧ Below w.heap.size w w' := by
  have hfK := fldK
  have hfT := fldT
  have hfN := fldN
  have hfP := fldP
  have HN := Lib.hid (next_any b g t r d w h)
  have hne : ((⟨t.text.toArray⟩ : ByteArray).toList == (⟨s.toArray⟩ : ByteArray).toList) = false := by simpa [ba_list] using hs
  have hnn : ((⟨t.text.toArray⟩ : ByteArray).toList != (⟨s.toArray⟩ : ByteArray).toList) = true := by simpa [ba_list] using hs
  unfold tv at HN
  generalize (⟨t.text.toArray⟩ : ByteArray) = T at *
  generalize (⟨s.toArray⟩ : ByteArray) = S at *
  clear h
  go_enter Tryz.func142, Tryz.ntmps142
  go_wp2_with fail
  refine HN.out.mono ?_
  rintro e w1 ⟨rfl, hb1⟩
  have HB1 := Lib.hid hb1
  clear hb1
  go_wp2
  go_ret
  exact ⟨rfl, HB1.out⟩
set_option maxRecDepth 100000 in
set_option maxHeartbeats 1600000 in
theorem fail_any (b g : Nat) (t : Tk) (r : List Tk) (d why : Nat) (w : World) (h : Rdr w b g (t :: r) d) : Calls Tryz.prog 106 #[.pointer (some ⟨b, 0, none⟩), .int .i64 (why : Int)] w fun e w' => e = pan t.pos why ∧ Below w.heap.size w w' := by
  have hfK := fldK
  have hfT := fldT
  have hfN := fldN
  have hfP := fldP
  have HN := Lib.hid (next_any b g t r d w h)
  unfold tv at HN
  unfold pan
  clear h
  go_enter Tryz.func106, Tryz.ntmps106
  go_wp2_with fail
  refine HN.out.mono ?_
  rintro e w1 ⟨rfl, hb1⟩
  have HB1 := Lib.hid hb1
  clear hb1
  go_wp2
  exact ⟨rfl, rfl, HB1.out⟩
theorem must_yes (b g : Nat) (t : Tk) (r : List Tk) (d : Nat) (s : List UInt8) (w : World) (h : Rdr w b g (t :: r) d) (hr : r ≠ []) (hs : t.text = s) : Calls Tryz.prog 111 #[.pointer (some ⟨b, 0, none⟩), .string ⟨s.toArray⟩] w fun e w' => e = .returned (.tuple #[]) ∧ Rdr w' b g r d ∧ Kx (· = b) w w' := by
  have HT := Lib.hid (takeIf_yes b g t r d s w h hr hs)
  generalize (⟨s.toArray⟩ : ByteArray) = S at *
  clear h hs
  go_enter Tryz.func111, Tryz.ntmps111
  go_wp2_with fail
  refine HT.out.mono ?_
  rintro e w1 ⟨rfl, hR, hk⟩
  have H2 := Lib.hid hR
  have H3 := Lib.hid hk
  clear hR hk
  go_wp2
  first | go_end0 | refine bodyPost_ret (results_none rfl _ _ _) rfl ?_
  exact ⟨rfl, H2.out, H3.out⟩
theorem must_no (b g : Nat) (t : Tk) (r : List Tk) (d : Nat) (s : List UInt8) (w : World) (h : Rdr w b g (t :: r) d) (hs : t.text ≠ s) : Calls Tryz.prog 111 #[.pointer (some ⟨b, 0, none⟩), .string ⟨s.toArray⟩] w fun e w' => e = pan t.pos 1 ∧ Below w.heap.size w w' := by
  have HT := Lib.hid (takeIf_no b g t r d s w h hs)
  have HF := Lib.hid (fun (w' : World) (hb' : Below w.heap.size w w') => fail_any b g t r d 1 w' (h.on hb'))
  simp only [Int.cast_ofNat_Int] at HF
  unfold pan at HF ⊢
  generalize (⟨s.toArray⟩ : ByteArray) = S at *
  clear h hs
  go_enter Tryz.func111, Tryz.ntmps111
  go_wp2_with fail
  refine HT.out.mono ?_
  rintro e w1 ⟨rfl, hb1⟩
  have HB1 := Lib.hid hb1
  clear hb1
  go_wp2_with fail
  refine (HF.out _ HB1.out).mono ?_
  rintro e w2 ⟨rfl, hb2⟩
  have HB2 := Lib.hid hb2
  clear hb2
  go_wp2
  exact ⟨rfl, rfl, below_trans HB1.out HB2.out⟩
end Go.Proofs.YtgiioflkclkioaaGreatDoor
