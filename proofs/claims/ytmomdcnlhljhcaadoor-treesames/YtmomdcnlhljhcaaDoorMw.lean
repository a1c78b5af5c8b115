/- The law's program, being made: what lies where; the closure that adds a declaration. -/
import Derived.Test.YtmomdcnlhljhcaaDoorMu
import Derived.Test.YtmomdcnlhljhcaaDoorRt
set_option linter.unusedSimpArgs false
set_option linter.unusedVariables false
namespace Go.Proofs.YtmomdcnlhljhcaaDoor
open Go.RowKit Ieee

theorem d_info : (Tryd.prog.info? 43).map (fun i => (i.zero, i.size, i.bytes)) = some (some (.agg #[.int .i64 0, .string ⟨#[]⟩, .complex .f64 0 0, .slice none 0 0, .int .i64 0]), 5, 72) := by kernel_rfl
/-- A declaration with where its body lies. -/
structure Dr where
  d : Dc
  p : Option Addr
  c : Nat
def Dr.cs (z : Dr) : List Value := [.int .i64 (z.d.so : Int), .string ⟨z.d.nm.toArray⟩, .complex .f64 (fl false z.d.re) (fl false z.d.im), .slice z.p z.d.body.len z.c, .int .i64 0]
def drs (qs : List Dr) : List Value := qs.flatMap Dr.cs
theorem drs_app (a b : List Dr) : drs (a ++ b) = drs a ++ drs b := by simp [drs]
theorem done5 (z : Dr) : ∀ u ∈ z.cs, u.oneCell' = true := by
  intro u hu
  simp only [Dr.cs, List.mem_cons, List.not_mem_nil, or_false] at hu
  rcases hu with rfl | rfl | rfl | rfl | rfl <;> rfl
structure Do (wx : World) (n : Nat) (qs : List Dr) (v : Value) : Prop where
  own : wx.ownsRow n 43 5 v qs.length (drs qs)
  sq : ∀ z ∈ qs, StsV wx (fun g => n ≤ g ∧ g < wx.heap.size ∧ v.ownBlock ≠ some g) z.d.body z.p z.c
theorem Do.nil (wx : World) (n : Nat) : Do wx n [] (.slice none 0 0) := ⟨World.ownsRow_nil _ _ _ _, by simp⟩
theorem Do.keep {wx w2 : World} {n : Nat} {qs : List Dr} {v : Value} (h : Do wx n qs v) (hb : Below wx.heap.size wx w2) : Do w2 n qs v :=
  ⟨own_below h.own hb, fun z hz => (h.sq z hz).on (Same.below hb (fun g hg => hg.2.1)) (fun g hg => ⟨hg.1, Nat.lt_of_lt_of_le hg.2.1 hb.size, hg.2.2⟩)⟩
theorem Do.set {wx : World} {n y i : Nat} {u : Value} {qs : List Dr} {v : Value} (h : Do wx n qs v) (hy : y < n) : Do (wx.setCell ⟨y, i, none⟩ u) n qs v := by
  have hb : ∀ j, j ≠ y → (wx.setCell ⟨y, i, none⟩ u).heap[j]? = wx.heap[j]? := fun j hj => Below.heap_setCell _ _ _ _ (fun e => hj e)
  have hz : (wx.setCell ⟨y, i, none⟩ u).heap.size = wx.heap.size := by simp
  refine ⟨own_of_block h.own ?_, fun z hzz => (h.sq z hzz).on ?_ ?_⟩
  · rintro g hg o ho _
    have := (h.own.lt g hg).1
    exact (hb g (by omega)).trans ho
  · intro g o hg
    exact World.cell?_of_block (a := ⟨g, o, none⟩) (hb g (by have := hg.1; omega))
  · intro g hg
    rw [hz]
    exact hg
theorem Do.app {wx w2 w3 : World} {n g cap : Nat} {o : Obj} {qs : List Dr} {z : Dr} {v : Value} (h : Do wx n qs v) (hn : n ≤ wx.heap.size) (hb : Below wx.heap.size wx w2)
    (hp : StsV w2 (fun g => n ≤ g ∧ g < w2.heap.size ∧ v.ownBlock ≠ some g) z.d.body z.p z.c) (hg : (w2.alloc o).grownBy w3 v.ownBlock) (hat : v.ownBlock = some g ∨ g = w2.heap.size + 1)
    (ho : w3.ownsRow n 43 5 (.slice (some ⟨g, 0, none⟩) (qs.length + 1) cap) (qs.length + 1) (drs qs ++ z.cs)) : Do w3 n (qs ++ [z]) (.slice (some ⟨g, 0, none⟩) (qs.length + 1) cap) := by
  have hz2 := hb.size
  have hz3 := hg.size
  simp at hz3
  have hk : ∀ j, j < w2.heap.size → v.ownBlock ≠ some j → w3.heap[j]? = w2.heap[j]? := fun j hj hne => by
    rw [hg.block j (by simp; omega) (fun e => hne e.symm), Below.heap_alloc _ _ _ hj]
  have fin : ∀ (S : Nat → Prop) (y : Dr), (∀ g, S g → n ≤ g ∧ g < w2.heap.size ∧ v.ownBlock ≠ some g) → StsV w2 S y.d.body y.p y.c → StsV w3 (fun b => n ≤ b ∧ b < w3.heap.size ∧ (Value.slice (some ⟨g, 0, none⟩) (qs.length + 1) cap).ownBlock ≠ some b) y.d.body y.p y.c := by
    intro S y hS hy
    refine hy.on (fun b o' hb' => World.cell?_of_block (a := ⟨b, o', none⟩) (hk b (hS b hb').2.1 (hS b hb').2.2)) (fun b hb' => ⟨(hS b hb').1, by have := (hS b hb').2.1; omega, ?_⟩)
    simp only [Value.ownBlock]
    intro he
    injection he with he
    rcases hat with hat | hat
    · exact (hS b hb').2.2 (by rw [hat, he])
    · have := (hS b hb').2.1; omega
  refine ⟨by rw [List.length_append, drs_app]; simpa [drs] using ho, ?_⟩
  intro y hy
  rcases List.mem_append.1 hy with hy | hy
  · exact fin _ y (fun g hg => ⟨hg.1, Nat.lt_of_lt_of_le hg.2.1 hb.size, hg.2.2⟩) ((h.sq y hy).on (S' := fun g => n ≤ g ∧ g < wx.heap.size ∧ v.ownBlock ≠ some g) (Same.below hb (fun g hg => hg.2.1)) (fun g hg => hg))
  · rw [List.mem_singleton] at hy
    subst hy
    exact fin _ y (fun g hg => hg) hp
theorem drs_at (qs : List Dr) : ∀ (i j : Nat) (y : Dr), qs[i]? = some y → j < 5 → (drs qs)[i * 5 + j]? = y.cs[j]? := by
  induction qs with
  | nil => intro i j y h; simp at h
  | cons u us ih =>
    intro i j y h hj
    have e : drs (u :: us) = u.cs ++ drs us := rfl
    have hl : u.cs.length = 5 := rfl
    rw [e]
    cases i with
    | zero =>
      simp only [List.getElem?_cons_zero, Option.some.injEq] at h
      subst h
      rw [List.getElem?_append_left (by omega)]
      simp
    | succ i =>
      rw [List.getElem?_cons_succ] at h
      rw [List.getElem?_append_right (by omega), show (i + 1) * 5 + j - u.cs.length = i * 5 + j by omega]
      exact ih i j y h hj
/-- As programs are read. -/
theorem Do.read {wx : World} {n : Nat} {qs : List Dr} {v : Value} (h : Do wx n qs v) (hq : qs ≠ []) : ∃ g cx, v = .slice (some ⟨g, 0, none⟩) (qs.map Dr.d).length cx ∧ n ≤ g ∧ g < wx.heap.size ∧ DcsAt wx (fun g => n ≤ g ∧ g < wx.heap.size) (qs.map Dr.d) g := by
  rcases h.own.2 with ⟨rfl, h0⟩ | ⟨g, cap, cur, rfl, h1, h2, h3, h4, h5, h6⟩
  · exact absurd (List.length_eq_zero_iff.1 h0) hq
  · refine ⟨g, cap, by simp, h1, (h.own.lt g rfl).2, fun i d hd => ?_⟩
    rw [List.getElem?_map] at hd
    cases hz : qs[i]? with
    | none => rw [hz] at hd; cases hd
    | some y =>
      rw [hz] at hd
      injection hd with hd
      subst hd
      have hi : i < qs.length := (List.getElem?_eq_some_iff.1 hz).1
      have key : ∀ j, j < 5 → wx.cell? ⟨g, i * 5 + j, none⟩ = y.cs[j]? := fun j hj => by
        rw [h.own.cellAt (i * 5 + j) (by omega)]
        exact drs_at qs i j y hz hj
      exact ⟨y.p, y.c, 0, by omega, by omega, ⟨key 0 (by omega), key 1 (by omega), key 2 (by omega), key 3 (by omega), key 4 (by omega)⟩, (h.sq y (List.mem_of_getElem? hz)).on (fun g o _ => rfl) (fun b hb => ⟨hb.1, hb.2.1⟩)⟩
/-- As programs are read that are still to be written: bodies lie elsewhere, no cell is frozen. -/
theorem Do.readq {wx : World} {n : Nat} {qs : List Dr} {v : Value} (h : Do wx n qs v) (hq : qs ≠ []) : ∃ g cx, v = .slice (some ⟨g, 0, none⟩) (qs.map Dr.d).length cx ∧ n ≤ g ∧ g < wx.heap.size ∧ (∀ i d, (qs.map Dr.d)[i]? = some d → ∃ p c, Cd wx g (i * 5) d p c 0 ∧ StsV wx (fun b => n ≤ b ∧ b < wx.heap.size ∧ b ≠ g) d.body p c) ∧ ∀ o, wx.frozen? ⟨g, o, none⟩ = false := by
  have hown := h.own
  rcases h.own.2 with ⟨rfl, h0⟩ | ⟨g, cap, cur, rfl, h1, h2, h3, h4, h5, h6⟩
  · exact absurd (List.length_eq_zero_iff.1 h0) hq
  · refine ⟨g, cap, by simp, h1, (h.own.lt g rfl).2, fun i d hd => ?_, fun o => hown.frozenAt o⟩
    rw [List.getElem?_map] at hd
    cases hz : qs[i]? with
    | none => rw [hz] at hd; cases hd
    | some y =>
      rw [hz] at hd
      injection hd with hd
      subst hd
      have hi : i < qs.length := (List.getElem?_eq_some_iff.1 hz).1
      have key : ∀ j, j < 5 → wx.cell? ⟨g, i * 5 + j, none⟩ = y.cs[j]? := fun j hj => by
        rw [h.own.cellAt (i * 5 + j) (by omega)]
        exact drs_at qs i j y hz hj
      exact ⟨y.p, y.c, ⟨key 0 (by omega), key 1 (by omega), key 2 (by omega), key 3 (by omega), key 4 (by omega)⟩, (h.sq y (List.mem_of_getElem? hz)).on (fun g o _ => rfl) (fun b hb => ⟨hb.1, hb.2.1, fun e => hb.2.2 (by rw [e]; rfl)⟩)⟩
/-- While the program is made. -/
structure Pm (w wx : World) (n : Nat) (x : Sml) (p : Option Addr) (c : Nat) (qs : List Dr) (v : Value) : Prop where
  bel : Below n w wx
  bx : wx.heap[n]? = some (xbox x p c)
  br : wx.heap[n + 1]? = some (.cells #[.slice none 0 0] 37)
  bp : wx.heap[n + 2]? = some (.cells #[v] 37)
  do_ : Do wx (n + 3) qs v
  size : n + 3 ≤ wx.heap.size
section
variable {w wx w2 w3 : World} {n : Nat} {x : Sml} {p : Option Addr} {c : Nat} {qs : List Dr} {v : Value}
theorem Pm.xC (h : Pm w wx n x p c qs v) (i : Nat) : wx.cell? ⟨n, i, none⟩ = (#[Value.int .u8 (x.ce : Int), .int .u8 (x.ar : Int), .int .u8 (x.mu : Int), .int .u8 (x.se : Int), .int .u8 (x.bu : Int), .int .i8 x.n, .slice p x.th.length c])[i]? := by rw [cell_of_row wx _ i _ 33 (0, 0) h.bx]
theorem Pm.pC (h : Pm w wx n x p c qs v) : wx.cell? ⟨n + 2, 0, none⟩ = some v := by rw [cell_of_row wx _ 0 _ 37 (0, 0) h.bp]; rfl
theorem Pm.pF (h : Pm w wx n x p c qs v) : wx.frozen? ⟨n + 2, 0, none⟩ = false := frozen_of_row wx _ 0 _ 37 h.bp
theorem Pm.rC (h : Pm w wx n x p c qs v) : wx.cell? ⟨n + 1, 0, none⟩ = some (.slice none 0 0) := by rw [cell_of_row wx _ 0 _ 37 (0, 0) h.br]; rfl
theorem Pm.rF (h : Pm w wx n x p c qs v) : wx.frozen? ⟨n + 1, 0, none⟩ = false := frozen_of_row wx _ 0 _ 37 h.br
theorem Pm.keep (h : Pm w wx n x p c qs v) (hb : Below wx.heap.size wx w2) : Pm w w2 n x p c qs v := by
  have hs := h.size
  exact ⟨h.bel.trans (hb.mono (by omega)), (hb.block n (by omega)).trans h.bx, (hb.block (n + 1) (by omega)).trans h.br, (hb.block (n + 2) (by omega)).trans h.bp, h.do_.keep hb, Nat.le_trans hs hb.size⟩
theorem Pm.drew (h : Pm w wx n x p c qs v) : Pm w wx.drew n x p c qs v := h.keep ⟨rfl, rfl, rfl, Nat.le_refl _, fun _ _ => rfl⟩
/-- A declaration more. -/
theorem Pm.app {g cap : Nat} {o : Obj} {z : Dr} (h : Pm w wx n x p c qs v) (hb : Below wx.heap.size wx w2)
    (hp : StsV w2 (fun g => n + 3 ≤ g ∧ g < w2.heap.size ∧ v.ownBlock ≠ some g) z.d.body z.p z.c) (hg : (w2.alloc o).grownBy w3 v.ownBlock) (hat : v.ownBlock = some g ∨ g = w2.heap.size + 1)
    (ho : w3.ownsRow (n + 3) 43 5 (.slice (some ⟨g, 0, none⟩) (qs.length + 1) cap) (qs.length + 1) (drs qs ++ z.cs)) :
    Pm w (w3.setCell ⟨n + 2, 0, none⟩ (.slice (some ⟨g, 0, none⟩) (qs.length + 1) cap)) n x p c (qs ++ [z]) (.slice (some ⟨g, 0, none⟩) (qs.length + 1) cap) := by
  have hs := h.size
  have hsz := hb.size
  have hgs := hg.size
  simp at hgs
  have hb3 : Below (n + 3) w2 w3 := ((Below.refl (n + 3) w2).alloc (by omega) o).grown hg (by simp; omega) (fun q hq => (h.do_.own.lt q hq).1)
  have hbl : ∀ j, j < n + 3 → w3.heap[j]? = wx.heap[j]? := fun j hj => (hb3.block j hj).trans (hb.block j (by omega))
  have hst : ∀ j, j ≠ n + 2 → (w3.setCell ⟨n + 2, 0, none⟩ (.slice (some ⟨g, 0, none⟩) (qs.length + 1) cap)).heap[j]? = w3.heap[j]? := fun j hj => Below.heap_setCell _ _ _ _ (fun e => hj e)
  refine ⟨?_, (hst n (by omega)).trans ((hbl n (by omega)).trans h.bx), (hst (n + 1) (by omega)).trans ((hbl (n + 1) (by omega)).trans h.br), ?_, (h.do_.app hs hb hp hg hat ho).set (by omega), by simp; omega⟩
  · exact ((h.bel.trans (hb.mono (by omega))).trans (hb3.mono (by omega))).setCell (by show n ≤ n + 2; omega) _
  · rw [heap_setCell_same _ _ _ _ _ _ ((hbl (n + 2) (by omega)).trans h.bp)]; rfl
end
set_option maxRecDepth 100000 in
theorem add_any (w wr : World) (n : Nat) (x : Sml) (p : Option Addr) (c : Nat) (qs : List Dr) (v : Value) (h : Pm w wr n x p c qs v) (hq : qs.length ≤ 20) (so : Nat) (nm : List UInt8) (re im : Int) (A B : Nat) (hA : fl false re = A) (hB : fl false im = B) :
    Calls Tryd.prog 24 #[.int .i64 (so : Int), .string ⟨nm.toArray⟩, .complex .f64 A B, .pointer (some ⟨n + 2, 0, none⟩)] wr fun e w' => e = .returned (.tuple #[]) ∧ ∃ v', Pm w w' n x p c (qs ++ [⟨⟨so, nm, re, im, .nil⟩, none, 0⟩]) v' := by
  have hst := store_cx
  obtain ⟨i0, hi, hz0, hz1, hz2⟩ := info_parts d_info
  have HI := Lib.hid hi
  have HZ0 := Lib.hid hz0
  have HZ1 := Lib.hid hz1
  have HZ2 := Lib.hid hz2
  have HP := Lib.hid h
  have c0 := h.pC
  have c1 := h.pF
  have hs := h.size
  have hz : n + 2 < wr.heap.size := by omega
  obtain ⟨qn, hqn⟩ : ∃ qn, qs.length = qn := ⟨_, rfl⟩
  have HQN := Lib.hid hqn
  have hown := h.do_.own
  rw [hqn] at hown hq
  clear h hi hz0 hz1 hz2 hqn
  have hcs : (⟨⟨so, nm, re, im, .nil⟩, none, 0⟩ : Dr).cs = [.int .i64 (so : Int), .string ⟨nm.toArray⟩, .complex .f64 A B, .slice none 0 0, .int .i64 0] := by rw [← hA, ← hB]; rfl
  have HCS := Lib.hid hcs
  clear hcs hA hB
  go_enter Tryd.func24, Tryd.ntmps24
  go_wp2_with (at_builtin; refine Hid.out ?_)
  refine Lib.hid ?_
  refine wpList_append_lies _ rfl (.tmp 8) (.tmp 13) 35 rfl (n + 3) 43 i0 _ 5 72 Tryd.underlying35 HI.out HZ0.out HZ1.out HZ2.out rfl (by decide) v qn (drs qs) rfl (hown.alloc _) ⟨wr.heap.size, 0, none⟩ 1 1 [.int .i64 (so : Int), .string ⟨nm.toArray⟩, .complex .f64 A B, .slice none 0 0, .int .i64 0] rfl rfl
    (new_cells wr [.int .i64 (so : Int), .string ⟨nm.toArray⟩, .complex .f64 A B, .slice none 0 0, .int .i64 0] 43) (by rw [← HCS.out]; exact done5 _) (by decide) (by unfold maxLen; omega) (by omega) (by simp; omega) (wr.heap.size + 1) (by simp) ?_
  intro g3 cap3 w3 hown3 hgrow3 hat3 hlt3
  have hvb : some (n + 2) ≠ v.ownBlock := by intro e; have := (HP.out.do_.own.lt _ e.symm).1; omega
  have d0 : w3.cell? ⟨n + 2, 0, none⟩ = some v := far_cell (Below.refl _ wr) hgrow3 c0 hvb
  have d1 : w3.frozen? ⟨n + 2, 0, none⟩ = false := far_frozen (Below.refl _ wr) hgrow3 hz c1 hvb
  clear c0 c1
  go_wp2
  have hfin := HP.out.app (z := ⟨⟨so, nm, re, im, .nil⟩, none, 0⟩) (Below.refl _ wr) (.inl ⟨rfl, rfl, rfl⟩) hgrow3 hat3 (cap := cap3) (by rw [HQN.out, HCS.out]; exact hown3)
  rw [HQN.out] at hfin
  go_end0
  exact ⟨rfl, _, hfin⟩
end Go.Proofs.YtmomdcnlhljhcaaDoor
