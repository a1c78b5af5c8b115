/- parse.Parse: a text's program, or where it goes wrong, and why. -/
import Derived.Test.YtgiioflkclkioaaGreatDoorPa
import Derived.Test.YtgiioflkclkioaaGreatDoorTw
set_option linter.unusedSimpArgs false
set_option linter.unusedVariables false
namespace Go.Proofs.YtgiioflkclkioaaGreatDoor
open Go.RowKit Ieee

/-- What Parse does. -/
def PR (w : World) (R : Except Er (List Dp)) (e : Ending) (w' : World) : Prop :=
  match R with
  | .ok l => ∃ p c, e = .returned (.tuple #[.agg #[.slice p l.length c], .int .i64 0, .int .i64 0]) ∧ DpsV w' (Nw w.heap.size w') l p c ∧ Below w.heap.size w w'
  | .error (p, c) => e = .returned (.tuple #[.agg #[.slice none 0 0], .int .i64 (p : Int), .int .i64 (c : Int)]) ∧ Below w.heap.size w w'
theorem tl_of {w : World} {g : Nat} : ∀ (ts : List Tk) (o : Nat), (∀ i t, ts[i]? = some t → w.cell? ⟨g, o + i * 4, none⟩ = some (.int .i64 (t.kind : Int)) ∧ w.cell? ⟨g, o + i * 4 + 1, none⟩ = some (.string ⟨t.text.toArray⟩) ∧ w.cell? ⟨g, o + i * 4 + 2, none⟩ = some (.complex .f64 (fl false (t.re : Int)) (fl false (t.im : Int))) ∧ w.cell? ⟨g, o + i * 4 + 3, none⟩ = some (.int .i64 (t.pos : Int))) → Tl w g o ts := by
  intro ts
  induction ts with
  | nil => intro o _; trivial
  | cons t ts ih =>
    intro o h
    refine ⟨by simpa using h 0 t rfl, ih (o + 4) (fun i u hu => ?_)⟩
    have := h (i + 1) u (by simpa using hu)
    rw [show o + (i + 1) * 4 = o + 4 + i * 4 by omega] at this
    exact this
/-- The reader as Parse makes it. -/
theorem rdr_new {w w1 : World} {v : Value} {ts : List Tk} {B : Nat} (ho : w.ownsRow B 88 4 v ts.length (tcs ts)) (hts : ts ≠ []) (hl : Lk w) (hw : w.alloc (.cells #[v, .int .i64 0] 77) = w1) : ∃ g cap, v = .slice (some ⟨g, 0, none⟩) ts.length cap ∧ Rdr w1 w.heap.size g ts 0 := by
  have hp : 0 < ts.length := List.length_pos_iff.2 hts
  rcases ho.2 with ⟨h1, h0⟩ | ⟨g, cap, cur, rfl, h1, h2, h3, h4, h5, h6⟩
  · omega
  · refine ⟨g, cap, rfl, ?_⟩
    have hg : g < w.heap.size := lt_of_row h2
    have hT : Toks w g ts := toks_of (n := 0) ho
    subst hw
    refine ⟨by simp; omega, 0, cap, heap_alloc_new _ _, by omega, h3, h4, ?_, hl.on (below_alloc _ _), hl.sz⟩
    refine Tl.on (w := w) (fun o => (below_alloc w _).cell (p := ⟨g, o, none⟩) hg) (tl_of ts 0 (fun i t ht => ?_))
    rw [Nat.zero_add]
    exact hT i t ht

set_option maxRecDepth 100000 in
set_option maxHeartbeats 6400000 in
theorem parse_err (s : ByteArray) (hs : s.size ≤ 16384) (w : World) (hb : Lb w) (p c : Nat) (he : spl s.data.toList 0 = .error (p, c)) (hc : c ≠ 0) : Calls Tryz.prog 18 #[.string s] w (PR w (.error (p, c))) := by
  have hmf : ∀ (fn : Fn) (first cap : Array Value) (w : World), (Instr.makeFunc fn first cap).run Tryz.prog w = .ok (.func fn first cap) w := fun _ _ _ _ => rfl
  have hcn : ((c : Int) != 0) = true := by simp; omega
  have HS := Lib.hid (fun w' (h : Below w.heap.size w w') => split_any s hs w' (hb.on h))
  rw [he] at HS
  unfold SplR at HS
  simp only at HS
  clear hb he hc
  go_enter_defers Tryz.func18, Tryz.ntmps18
  go_wp2_with fail
  have hb3 : Below w.heap.size w (((w.alloc (.cells #[.slice none 0 0] 29)).alloc (.cells #[.int .i64 0] 3)).alloc (.cells #[.int .i64 0] 31)) := ((below_alloc _ _).alloc (by simp) _).alloc (by simp; omega) _
  obtain ⟨n, hn⟩ : ∃ n, w.heap.size = n := ⟨_, rfl⟩
  obtain ⟨w3, hw3⟩ : ∃ w3, ((w.alloc (.cells #[.slice none 0 0] 29)).alloc (.cells #[.int .i64 0] 3)).alloc (.cells #[.int .i64 0] 31) = w3 := ⟨_, rfl⟩
  have HB3 : Hid (Below w.heap.size w w3) := Lib.hid (by rw [← hw3]; exact hb3)
  have r0 : w3.heap[n]? = some (.cells #[.slice none 0 0] 29 (0, 0)) := by
    rw [← hw3, Below.heap_alloc _ _ _ (by simp; omega), Below.heap_alloc _ _ _ (by simp; omega)]; exact alloc_at hn _
  have r1 : w3.heap[n + 1]? = some (.cells #[.int .i64 0] 3 (0, 0)) := by
    rw [← hw3, Below.heap_alloc _ _ _ (by simp; omega)]; exact alloc_at (by simp; omega) _
  have r2 : w3.heap[n + 2]? = some (.cells #[.int .i64 0] 31 (0, 0)) := by
    rw [← hw3]; exact alloc_at (by simp; omega) _
  have HR0 := Lib.hid r0
  have HR1 := Lib.hid r1
  have HR2 := Lib.hid r2
  rw [hw3, hn]
  have HWN := Lib.hid hn
  clear hw3 hn hb3 r0 r1 r2
  simp only [Nat.add_assoc, Nat.reduceAdd]
  refine (HS.out _ HB3.out).mono ?_
  rintro en w4 ⟨rfl, hb4⟩
  have h0 : w4.heap[n]? = some (.cells #[.slice none 0 0] 29 (0, 0)) := (hb4.block n (lt_of_row HR0.out)).trans HR0.out
  have h1 : w4.heap[n + 1]? = some (.cells #[.int .i64 0] 3 (0, 0)) := (hb4.block (n + 1) (lt_of_row HR1.out)).trans HR1.out
  have h2 : w4.heap[n + 2]? = some (.cells #[.int .i64 0] 31 (0, 0)) := (hb4.block (n + 2) (lt_of_row HR2.out)).trans HR2.out
  have c0 : w4.cell? ⟨n, 0, none⟩ = some (.slice none 0 0) := row_cell h0
  have c1 : w4.cell? ⟨n + 1, 0, none⟩ = some (.int .i64 0) := row_cell h1
  have c2 : w4.cell? ⟨n + 2, 0, none⟩ = some (.int .i64 0) := row_cell h2
  have f0 : w4.frozen? ⟨n, 0, none⟩ = false := row_frozen h0
  have f1 : w4.frozen? ⟨n + 1, 0, none⟩ = false := row_frozen h1
  have f2 : w4.frozen? ⟨n + 2, 0, none⟩ = false := row_frozen h2
  have HB4 := Lib.hid (below_tr HB3.out hb4)
  clear h0 h1 h2 hb4
  have HFIN : Hid (∀ W en, W = ((w4.setCell ⟨n, 0, none⟩ (.slice none 0 0)).setCell ⟨n + 1, 0, none⟩ (.int .i64 (p : Int))).setCell ⟨n + 2, 0, none⟩ (.int .i64 (c : Int)) → en = .returned (.tuple #[.agg #[.slice none 0 0], .int .i64 (p : Int), .int .i64 (c : Int)]) → PR w (.error (p, c)) en W) := Lib.hid (by
    rintro W en rfl rfl
    have hw := HWN.out
    exact ⟨rfl, ((HB4.out.setCell (p := ⟨n, 0, none⟩) (by show w.heap.size ≤ n; omega) _).setCell (p := ⟨n + 1, 0, none⟩) (by show w.heap.size ≤ n + 1; omega) _).setCell (p := ⟨n + 2, 0, none⟩) (by show w.heap.size ≤ n + 2; omega) _⟩)
  go_wp2
  simp [bodyPostD, Leaves, settle, results, Tryz.results18, go_sem, c0, c1, c2]
  exact HFIN.out _ _ rfl rfl
set_option maxRecDepth 100000 in
set_option maxHeartbeats 6400000 in
theorem parse_ok (s : ByteArray) (hs : s.size ≤ 16384) (w : World) (hb : Lb w) (hlk : Lk w) (ts : List Tk) (he : spl s.data.toList 0 = .ok ts) (hok : Okt ts) (hlen : ts.length ≤ 16385) (l : List Dp) (hp : progP ts.length ts = .ok l) : Calls Tryz.prog 18 #[.string s] w (PR w (.ok l)) := by
  have hmf : ∀ (fn : Fn) (first cap : Array Value) (w : World), (Instr.makeFunc fn first cap).run Tryz.prog w = .ok (.func fn first cap) w := fun _ _ _ _ => rfl
  have hst := store_cx
  have hts : ts ≠ [] := by obtain ⟨t, r, h⟩ := hok.ne; rw [h]; simp
  have HS := Lib.hid (fun w' (h : Below w.heap.size w w') => split_any s hs w' (hb.on h))
  rw [he] at HS
  unfold SplR at HS
  simp only at HS
  clear hb he
  go_enter_defers Tryz.func18, Tryz.ntmps18
  go_wp2_with fail
  have hb3 : Below w.heap.size w (((w.alloc (.cells #[.slice none 0 0] 29)).alloc (.cells #[.int .i64 0] 3)).alloc (.cells #[.int .i64 0] 31)) := ((below_alloc _ _).alloc (by simp) _).alloc (by simp; omega) _
  obtain ⟨n, hn⟩ : ∃ n, w.heap.size = n := ⟨_, rfl⟩
  obtain ⟨w3, hw3⟩ : ∃ w3, ((w.alloc (.cells #[.slice none 0 0] 29)).alloc (.cells #[.int .i64 0] 3)).alloc (.cells #[.int .i64 0] 31) = w3 := ⟨_, rfl⟩
  have HB3 : Hid (Below w.heap.size w w3) := Lib.hid (by rw [← hw3]; exact hb3)
  have r0 : w3.heap[n]? = some (.cells #[.slice none 0 0] 29 (0, 0)) := by
    rw [← hw3, Below.heap_alloc _ _ _ (by simp; omega), Below.heap_alloc _ _ _ (by simp; omega)]; exact alloc_at hn _
  have r1 : w3.heap[n + 1]? = some (.cells #[.int .i64 0] 3 (0, 0)) := by
    rw [← hw3, Below.heap_alloc _ _ _ (by simp; omega)]; exact alloc_at (by simp; omega) _
  have r2 : w3.heap[n + 2]? = some (.cells #[.int .i64 0] 31 (0, 0)) := by
    rw [← hw3]; exact alloc_at (by simp; omega) _
  have HR0 := Lib.hid r0
  have HR1 := Lib.hid r1
  have HR2 := Lib.hid r2
  rw [hw3, hn]
  have HWN := Lib.hid hn
  clear hw3 hn hb3 r0 r1 r2
  simp only [Nat.add_assoc, Nat.reduceAdd]
  refine (HS.out _ HB3.out).mono ?_
  rintro en w4 ⟨v, rfl, hown, hb4⟩
  have h0 : w4.heap[n]? = some (.cells #[.slice none 0 0] 29 (0, 0)) := (hb4.block n (lt_of_row HR0.out)).trans HR0.out
  have h1 : w4.heap[n + 1]? = some (.cells #[.int .i64 0] 3 (0, 0)) := (hb4.block (n + 1) (lt_of_row HR1.out)).trans HR1.out
  have h2 : w4.heap[n + 2]? = some (.cells #[.int .i64 0] 31 (0, 0)) := (hb4.block (n + 2) (lt_of_row HR2.out)).trans HR2.out
  have HB4 := Lib.hid (below_tr HB3.out hb4)
  have hl4 : Lk w4 := hlk.on HB4.out
  have hn2 : n + 2 < w4.heap.size := lt_of_row h2
  obtain ⟨w5, hw5⟩ : ∃ w5, w4.alloc (.cells #[v, .int .i64 0] 77) = w5 := ⟨_, rfl⟩
  obtain ⟨g, cap, hv, hrd⟩ := rdr_new hown hts hl4 hw5
  subst hv
  obtain ⟨bb, hbb⟩ : ∃ bb, w4.heap.size = bb := ⟨_, rfl⟩
  rw [hbb] at hrd
  have HRD := Lib.hid hrd
  have hb5 : Below w4.heap.size w4 w5 := by rw [← hw5]; exact below_alloc _ _
  have HB5 := Lib.hid (below_tr HB4.out hb5)
  have k0 : w5.heap[n]? = some (.cells #[.slice none 0 0] 29 (0, 0)) := (hb5.block n (by omega)).trans h0
  have k1 : w5.heap[n + 1]? = some (.cells #[.int .i64 0] 3 (0, 0)) := (hb5.block (n + 1) (by omega)).trans h1
  have k2 : w5.heap[n + 2]? = some (.cells #[.int .i64 0] 31 (0, 0)) := (hb5.block (n + 2) (by omega)).trans h2
  have HK0 := Lib.hid k0
  have HK1 := Lib.hid k1
  have HK2 := Lib.hid k2
  have hbn : n + 2 < bb := by omega
  have hz5 : bb < w5.heap.size := hrd.lt
  have HPG := Lib.hid (program_any bb g ts w5 hrd hok (by omega))
  obtain ⟨tn, htn⟩ : ∃ tn, ts.length = tn := ⟨_, rfl⟩
  rw [htn] at hw5 ⊢
  have HTN := Lib.hid htn
  rw [HTN.out] at HPG
  have HW5 := Lib.hid hw5
  have HBB := Lib.hid hbb
  clear h0 h1 h2 hb4 hown hrd hb5 k0 k1 k2 htn hw5 hbb
  rw [← HTN.out] at HPG
  rw [hp] at HPG
  unfold PG at HPG
  simp only at HPG
  clear hp
  obtain ⟨ln, hln⟩ : ∃ ln, l.length = ln := ⟨_, rfl⟩
  rw [hln] at HPG
  have HLN := Lib.hid hln
  clear hln
  go_wp2_with fail
  rw [HW5.out, HBB.out]
  refine HPG.out.mono ?_
  rintro en w6 ⟨p, c, rfl, hdv, hk6⟩
  have h0 : w6.heap[n]? = some (.cells #[.slice none 0 0] 29 (0, 0)) := (hk6.block n (by omega) (by omega)).trans HK0.out
  have h1 : w6.heap[n + 1]? = some (.cells #[.int .i64 0] 3 (0, 0)) := (hk6.block (n + 1) (by omega) (by omega)).trans HK1.out
  have h2 : w6.heap[n + 2]? = some (.cells #[.int .i64 0] 31 (0, 0)) := (hk6.block (n + 2) (by omega) (by omega)).trans HK2.out
  have c0 : w6.cell? ⟨n, 0, none⟩ = some (.slice none 0 0) := row_cell h0
  have c1 : w6.cell? ⟨n + 1, 0, none⟩ = some (.int .i64 0) := row_cell h1
  have c2 : w6.cell? ⟨n + 2, 0, none⟩ = some (.int .i64 0) := row_cell h2
  have f0 : w6.frozen? ⟨n, 0, none⟩ = false := row_frozen h0
  have f1 : w6.frozen? ⟨n + 1, 0, none⟩ = false := row_frozen h1
  have f2 : w6.frozen? ⟨n + 2, 0, none⟩ = false := row_frozen h2
  have HK6 := Lib.hid hk6
  have HDV := Lib.hid hdv
  clear h0 h1 h2 hk6 hdv
  have HFIN : Hid (∀ W en, W = ((w6.setCell ⟨n, 0, none⟩ (.slice p ln c)).setCell ⟨n + 1, 0, none⟩ (.int .i64 0)).setCell ⟨n + 2, 0, none⟩ (.int .i64 0) → en = .returned (.tuple #[.agg #[.slice p ln c], .int .i64 0, .int .i64 0]) → PR w (.ok l) en W) := Lib.hid (by
    rintro W en rfl rfl
    have hw := HWN.out
    have kk : Kx (fun i => i = n ∨ i = n + 1 ∨ i = n + 2) w6 (((w6.setCell ⟨n, 0, none⟩ (.slice p ln c)).setCell ⟨n + 1, 0, none⟩ (.int .i64 0)).setCell ⟨n + 2, 0, none⟩ (.int .i64 0)) := (((Kx.refl (fun i => i = n ∨ i = n + 1 ∨ i = n + 2) _).setCell (p := ⟨n, 0, none⟩) (.inl (.inl rfl)) _).setCell (p := ⟨n + 1, 0, none⟩) (.inl (.inr (.inl rfl))) _).setCell (p := ⟨n + 2, 0, none⟩) (.inl (.inr (.inr rfl))) _
    refine ⟨p, c, by rw [HLN.out], ?_, ?_⟩
    · rcases HDV.out with h | ⟨q, h1, h2, h3, h4, h5, h6⟩
      · exact .inl h
      · exact .inr ⟨q, h1, ⟨by have := h2.1; omega, by have := h2.2; simpa using this⟩, h3, h4, h5, h6.on (Same.kx kk fun i hi => ⟨hi.2, by have := hi.1; omega⟩) (fun i hi => ⟨by have := hi.1; omega, by have := hi.2; simpa using this⟩) h2⟩
    · have q1 : Kx (fun _ => False) w w6 := (Kx.of HB5.out).trans HK6.out (fun i hi e => by omega)
      exact (q1.trans kk (fun i hi e => by omega)).below (Nat.le_refl _) (fun _ _ f => f))
  go_wp2
  refine leaves_cons (f := 36) (args := #[.pointer (some ⟨n, 0, none⟩), .pointer (some ⟨n + 1, 0, none⟩), .pointer (some ⟨n + 2, 0, none⟩)]) (by simp) (by simp [go_sem]) ?_
  refine (catch_idle n (n + 1) (n + 2) _).mono ?_
  rintro e u' w'' ⟨rfl, rfl, rfl⟩
  simp [Leaves, settle, results, Tryz.results18, go_sem, c0, c1, c2]
  exact HFIN.out _ _ rfl rfl
set_option maxRecDepth 100000 in
set_option maxHeartbeats 6400000 in
theorem parse_bad (s : ByteArray) (hs : s.size ≤ 16384) (w : World) (hb : Lb w) (hlk : Lk w) (ts : List Tk) (he : spl s.data.toList 0 = .ok ts) (hok : Okt ts) (hlen : ts.length ≤ 16385) (p c : Nat) (hp : progP ts.length ts = .error (p, c)) : Calls Tryz.prog 18 #[.string s] w (PR w (.error (p, c))) := by
  have hmf : ∀ (fn : Fn) (first cap : Array Value) (w : World), (Instr.makeFunc fn first cap).run Tryz.prog w = .ok (.func fn first cap) w := fun _ _ _ _ => rfl
  have hst := store_cx
  have hts : ts ≠ [] := by obtain ⟨t, r, h⟩ := hok.ne; rw [h]; simp
  have HS := Lib.hid (fun w' (h : Below w.heap.size w w') => split_any s hs w' (hb.on h))
  rw [he] at HS
  unfold SplR at HS
  simp only at HS
  clear hb he
  go_enter_defers Tryz.func18, Tryz.ntmps18
  go_wp2_with fail
  have hb3 : Below w.heap.size w (((w.alloc (.cells #[.slice none 0 0] 29)).alloc (.cells #[.int .i64 0] 3)).alloc (.cells #[.int .i64 0] 31)) := ((below_alloc _ _).alloc (by simp) _).alloc (by simp; omega) _
  obtain ⟨n, hn⟩ : ∃ n, w.heap.size = n := ⟨_, rfl⟩
  obtain ⟨w3, hw3⟩ : ∃ w3, ((w.alloc (.cells #[.slice none 0 0] 29)).alloc (.cells #[.int .i64 0] 3)).alloc (.cells #[.int .i64 0] 31) = w3 := ⟨_, rfl⟩
  have HB3 : Hid (Below w.heap.size w w3) := Lib.hid (by rw [← hw3]; exact hb3)
  have r0 : w3.heap[n]? = some (.cells #[.slice none 0 0] 29 (0, 0)) := by
    rw [← hw3, Below.heap_alloc _ _ _ (by simp; omega), Below.heap_alloc _ _ _ (by simp; omega)]; exact alloc_at hn _
  have r1 : w3.heap[n + 1]? = some (.cells #[.int .i64 0] 3 (0, 0)) := by
    rw [← hw3, Below.heap_alloc _ _ _ (by simp; omega)]; exact alloc_at (by simp; omega) _
  have r2 : w3.heap[n + 2]? = some (.cells #[.int .i64 0] 31 (0, 0)) := by
    rw [← hw3]; exact alloc_at (by simp; omega) _
  have HR0 := Lib.hid r0
  have HR1 := Lib.hid r1
  have HR2 := Lib.hid r2
  rw [hw3, hn]
  have HWN := Lib.hid hn
  clear hw3 hn hb3 r0 r1 r2
  simp only [Nat.add_assoc, Nat.reduceAdd]
  refine (HS.out _ HB3.out).mono ?_
  rintro en w4 ⟨v, rfl, hown, hb4⟩
  have h0 : w4.heap[n]? = some (.cells #[.slice none 0 0] 29 (0, 0)) := (hb4.block n (lt_of_row HR0.out)).trans HR0.out
  have h1 : w4.heap[n + 1]? = some (.cells #[.int .i64 0] 3 (0, 0)) := (hb4.block (n + 1) (lt_of_row HR1.out)).trans HR1.out
  have h2 : w4.heap[n + 2]? = some (.cells #[.int .i64 0] 31 (0, 0)) := (hb4.block (n + 2) (lt_of_row HR2.out)).trans HR2.out
  have HB4 := Lib.hid (below_tr HB3.out hb4)
  have hl4 : Lk w4 := hlk.on HB4.out
  have hn2 : n + 2 < w4.heap.size := lt_of_row h2
  obtain ⟨w5, hw5⟩ : ∃ w5, w4.alloc (.cells #[v, .int .i64 0] 77) = w5 := ⟨_, rfl⟩
  obtain ⟨g, cap, hv, hrd⟩ := rdr_new hown hts hl4 hw5
  subst hv
  obtain ⟨bb, hbb⟩ : ∃ bb, w4.heap.size = bb := ⟨_, rfl⟩
  rw [hbb] at hrd
  have HRD := Lib.hid hrd
  have hb5 : Below w4.heap.size w4 w5 := by rw [← hw5]; exact below_alloc _ _
  have HB5 := Lib.hid (below_tr HB4.out hb5)
  have k0 : w5.heap[n]? = some (.cells #[.slice none 0 0] 29 (0, 0)) := (hb5.block n (by omega)).trans h0
  have k1 : w5.heap[n + 1]? = some (.cells #[.int .i64 0] 3 (0, 0)) := (hb5.block (n + 1) (by omega)).trans h1
  have k2 : w5.heap[n + 2]? = some (.cells #[.int .i64 0] 31 (0, 0)) := (hb5.block (n + 2) (by omega)).trans h2
  have HK0 := Lib.hid k0
  have HK1 := Lib.hid k1
  have HK2 := Lib.hid k2
  have hbn : n + 2 < bb := by omega
  have hz5 : bb < w5.heap.size := hrd.lt
  have HPG := Lib.hid (program_any bb g ts w5 hrd hok (by omega))
  obtain ⟨tn, htn⟩ : ∃ tn, ts.length = tn := ⟨_, rfl⟩
  rw [htn] at hw5 ⊢
  have HTN := Lib.hid htn
  rw [HTN.out] at HPG
  have HW5 := Lib.hid hw5
  have HBB := Lib.hid hbb
  clear h0 h1 h2 hb4 hown hrd hb5 k0 k1 k2 htn hw5 hbb
  rw [← HTN.out] at HPG
  rw [hp] at HPG
  unfold PG at HPG
  simp only at HPG
  unfold pan at HPG
  clear hp
  go_wp2_with fail
  rw [HW5.out, HBB.out]
  refine HPG.out.mono ?_
  rintro en w6 ⟨rfl, hk6⟩
  have h0 : w6.heap[n]? = some (.cells #[.slice none 0 0] 29 (0, 0)) := (hk6.block n (by omega) (by omega)).trans HK0.out
  have h1 : w6.heap[n + 1]? = some (.cells #[.int .i64 0] 3 (0, 0)) := (hk6.block (n + 1) (by omega) (by omega)).trans HK1.out
  have h2 : w6.heap[n + 2]? = some (.cells #[.int .i64 0] 31 (0, 0)) := (hk6.block (n + 2) (by omega) (by omega)).trans HK2.out
  have HCA := Lib.hid (catch_panic n (n + 1) (n + 2) p c w6 _ _ _ (by omega) (by omega) (by omega) h0 h1 h2)
  have HK6 := Lib.hid hk6
  clear h0 h1 h2 hk6
  go_wp2
  refine leaves_cons (f := 36) (args := #[.pointer (some ⟨n, 0, none⟩), .pointer (some ⟨n + 1, 0, none⟩), .pointer (some ⟨n + 2, 0, none⟩)]) (by simp) (by simp [go_sem]) ?_
  refine HCA.out.mono ?_
  rintro e u' w7 ⟨rfl, rfl, c0, c1, c2, hk7⟩
  have HK7 := Lib.hid hk7
  clear hk7
  have HFIN : Hid (∀ en, en = .returned (.tuple #[.agg #[.slice none 0 0], .int .i64 (p : Int), .int .i64 (c : Int)]) → PR w (.error (p, c)) en w7) := Lib.hid (by
    rintro en rfl
    have hw := HWN.out
    have q1 : Kx (fun _ => False) w w6 := (Kx.of HB5.out).trans HK6.out (fun i hi e => by omega)
    exact ⟨rfl, (q1.trans HK7.out (fun i hi e => by omega)).below (Nat.le_refl _) (fun _ _ f => f)⟩)
  simp [Leaves, settle, results, Tryz.results18, go_sem, c0, c1, c2]
  exact HFIN.out _ rfl
theorem spl_code {l : List UInt8} {p c : Nat} (h : spl l 0 = .error (p, c)) : c ≠ 0 := by
  have := spl_places l l.length l 0 (Nat.le_refl _) (Nat.zero_le _) rfl
  rw [h] at this
  simp only at this
  omega
/-- Any text. -/
theorem parseP_any (s : ByteArray) (hs : s.size ≤ 16384) (w : World) (hb : Lb w) (hlk : Lk w) : Calls Tryz.prog 18 #[.string s] w (PR w (parse s.data.toList)) := by
  have hsz : s.data.toList.length ≤ 16384 := by rw [size_len]; exact hs
  unfold parse
  cases he : spl s.data.toList 0 with
  | error er => exact parse_err s hs w hb _ _ he (spl_code he)
  | ok ts =>
    simp only
    obtain ⟨hok, hlen⟩ := spl_okt _ _ 0 ts (Nat.le_refl _) (by omega) he
    cases hp : progP ts.length ts with
    | error er => exact parse_bad s hs w hb hlk ts he hok (by omega) _ _ hp
    | ok l => exact parse_ok s hs w hb hlk ts he hok (by omega) l hp
end Go.Proofs.YtgiioflkclkioaaGreatDoor
