/- tree.pushParts: the pieces of an expression with parts, the last one first. -/
import Derived.Test.YtmomdcnlhljhcaaDoorKw
import Derived.Lib.OthersKept
import Derived.Lib.OwnKind
import Derived.Lib.BufferKept
set_option linter.unusedSimpArgs false
set_option linter.unusedVariables false
namespace Go.Proofs.YtmomdcnlhljhcaaDoor
open Go.RowKit Ieee

/-- A piece's cells: an expression's place, or a text. -/
def pcE (g o : Nat) : List Value := [.pointer (some ⟨g, o, none⟩), .string ⟨#[]⟩]
def pcT (s : List UInt8) : List Value := [.pointer none, .string ⟨s.toArray⟩]
/-- What is pushed, down to place j. -/
def pps (g : Nat) (op : List UInt8) : Nat → Nat → List Value
  | 1, 0 => pcE g 0
  | 2, 1 => pcE g 4 ++ pcT ([32] ++ op ++ [32])
  | 2, 0 => pcE g 4 ++ pcT ([32] ++ op ++ [32]) ++ pcE g 0
  | _, _ => []
def pcn : Nat → Nat → Nat
  | 1, 0 => 1
  | 2, 1 => 2
  | 2, 0 => 3
  | _, _ => 0
theorem pc_info : (Tryd.prog.info? 74).map (fun i => (i.zero, i.size, i.bytes)) = some (some (.agg #[.pointer none, .string ⟨#[]⟩]), 2, 24) := by kernel_rfl
theorem pcE_one (g o : Nat) : ∀ u ∈ pcE g o, u.oneCell' = true := by
  intro u hu
  simp only [pcE, List.mem_cons, List.not_mem_nil, or_false] at hu
  rcases hu with rfl | rfl <;> rfl
theorem pcT_one (s : List UInt8) : ∀ u ∈ pcT s, u.oneCell' = true := by
  intro u hu
  simp only [pcT, List.mem_cons, List.not_mem_nil, or_false] at hu
  rcases hu with rfl | rfl <;> rfl
theorem new_cells (X : World) (cs : List Value) (t : TypeId) : ∀ j u, cs[j]? = some u → (X.alloc (.cells cs.toArray t)).cell? ((⟨X.heap.size, 0, Option.none⟩ : Addr).add j) = some u := by
  intro j u hu
  have hadd : (⟨X.heap.size, 0, Option.none⟩ : Addr).add j = ⟨X.heap.size, j, Option.none⟩ := by unfold Addr.add; split <;> simp_all
  rw [hadd, cell_of_row (X.alloc (.cells cs.toArray t)) X.heap.size j cs.toArray t (0, 0) (heap_alloc_new _ _)]
  simpa using hu
/-- What is there behind an append to a row of one's own. -/
structure Rw (B : Nat) (t size : Nat) (w0 w : World) (v : Value) (n : Nat) (xs : List Value) : Prop where
  own : w.ownsRow B t size v n xs
  bel : Below B w0 w
  kept : Lib.OthersKept t none w0 w
theorem Rw.app {B t size : Nat} {w0 w w' : World} {v v' : Value} {n m : Nat} {xs ys : List Value} (h : Rw B t size w0 w v n xs) (o : Obj) (hB : B ≤ w.heap.size) (ho : w'.ownsRow B t size v' m ys) (hg : (w.alloc o).grownBy w' v.ownBlock) :
    Rw B t size w0 w' v' m ys ∧ B ≤ w'.heap.size := by
  refine ⟨⟨ho, (h.bel.alloc hB o).grown hg (by simp; omega) (fun q hq => (h.own.lt q hq).1), (h.kept.alloc o).grown hg ?_⟩, ?_⟩
  · intro g hgq
    obtain ⟨c, fz, hc⟩ := Lib.ownsRow_kind h.own g hgq
    exact ⟨c, fz, (Below.heap_alloc w o g (h.own.lt g hgq).2).trans hc⟩
  · have := hg.size; simp at this; omega

/-- What pushParts answers. -/
def PushR (B : Nat) (w : World) (n : Nat) (xs : List Value) (e : Ending) (w' : World) : Prop := ∃ v, e = .returned v ∧ Rw B 74 2 w w' v n xs ∧ B ≤ w'.heap.size

theorem cat3 (op : List UInt8) (h : op.length ≤ 10) (w : World) : (Op.stringOp .add ⟨([32] ++ op).toArray⟩ ⟨#[32]⟩).run Tryd.prog w = .ok (.string ⟨([32] ++ op ++ [32]).toArray⟩) w :=
  cat_run ([32] ++ op) [32] (by simp; omega) (by simp) w
theorem cat2 (op : List UInt8) (h : op.length ≤ 10) (w : World) : (Op.stringOp .add ⟨#[32]⟩ ⟨op.toArray⟩).run Tryd.prog w = .ok (.string ⟨([32] ++ op).toArray⟩) w :=
  cat_run [32] op (by simp) (by omega) w

set_option maxRecDepth 100000 in
set_option maxHeartbeats 3200000 in
theorem push_one (B n : Nat) (v : Value) (xs : List Value) (w : World) (hown : w.ownsRow B 74 2 v n xs) (hn : n ≤ 1000000) (ge oe g : Nat) (op : List UInt8) (hop : op.length ≤ 10)
    (c0 : w.cell? ⟨ge, oe, none⟩ = some (.string ⟨op.toArray⟩)) (c3 : w.cell? ⟨ge, oe + 3, none⟩ = some (.slice (some ⟨g, 0, none⟩) 1 1)) (hge : ge < B) (hB : B ≤ w.heap.size) :
    Calls Tryd.prog 37 #[v, .pointer (some ⟨ge, oe, none⟩)] w (PushR B w (n + 1 + pcn 1 0) (xs ++ pcT [41] ++ pps g op 1 0)) := by
  obtain ⟨i0, hi, hz0, hz1, hz2⟩ := info_parts pc_info
  have HI := Lib.hid hi
  have HZ0 := Lib.hid hz0
  have HZ1 := Lib.hid hz1
  have HZ2 := Lib.hid hz2
  have HC0 := Lib.hid c0
  have HC3 := Lib.hid c3
  have h2 := cat2 op hop
  have h3 := cat3 op hop
  have HR : Hid (Rw B 74 2 w w v n xs) := Lib.hid ⟨hown, Below.refl _ _, Lib.OthersKept.refl _ _ _⟩
  clear hi hz0 hz1 hz2 hown
  go_enter Tryd.func37, Tryd.ntmps37
  go_wp2_with (at_builtin; refine Hid.out ?_)
  refine Lib.hid ?_
  refine wpList_append_own_at _ rfl (.tmp 6) (.tmp 8) 75 rfl B 74 i0 _ 2 24 Tryd.underlying75 HI.out HZ0.out HZ1.out HZ2.out rfl (by decide) v n xs rfl (HR.out.own.alloc _) ⟨w.heap.size, 0, Option.none⟩ 1 1 (pcT [41]) rfl rfl
    (new_cells w (pcT [41]) 74) (pcT_one _) (by unfold maxLen; omega) (by omega) (by simp; omega) ?_
  intro v1 w1 hown1 hgr1 _ _
  obtain ⟨hR1, hB1⟩ := HR.out.app _ hB hown1 hgr1
  have HR1 := Lib.hid hR1
  have q3 : w1.cell? ⟨ge, oe + 3, none⟩ = some (.slice (some ⟨g, 0, none⟩) 1 1) := (hR1.bel.cell (p := ⟨ge, oe + 3, none⟩) hge).trans HC3.out
  have q0 : w1.cell? ⟨ge, oe, none⟩ = some (.string ⟨op.toArray⟩) := (hR1.bel.cell (p := ⟨ge, oe, none⟩) hge).trans HC0.out
  clear hown1 hgr1 hR1
  clear c0 c3
  go_wp2
  clear q0 q3
  go_loopw [0, 5] (fun r i wr => ∃ j : Nat, j ≤ 1 ∧ i = .int .i64 ((j : Int) - 1) ∧ Rw B 74 2 w wr r (n + 1 + pcn 1 j) (xs ++ pcT [41] ++ pps g op 1 j) ∧ B ≤ wr.heap.size) (fun _ i _ => (intOf i + 1).toNat)
  case atStart => exact ⟨1, Nat.le_refl _, rfl, by simpa [pps, pcn] using HR1.out, hB1⟩
  case round =>
    obtain ⟨j, hj, rfl, hR2, hB2⟩ := hrel
    have HR2 := Lib.hid hR2
    have q3 : wr.cell? ⟨ge, oe + 3, none⟩ = some (.slice (some ⟨g, 0, none⟩) 1 1) := (hR2.bel.cell (p := ⟨ge, oe + 3, none⟩) hge).trans HC3.out
    have q0 : wr.cell? ⟨ge, oe, none⟩ = some (.string ⟨op.toArray⟩) := (hR2.bel.cell (p := ⟨ge, oe, none⟩) hge).trans HC0.out
    clear hR2
    obtain rfl | rfl : j = 0 ∨ j = 1 := by omega
    · simp only [show ((0 : Nat) : Int) - 1 = -1 by omega] at *
      go_wp2
      go_ret
      exact ⟨_, rfl, HR2.out, hB2⟩
    · simp only [show ((1 : Nat) : Int) - 1 = 0 by omega] at *
      simp only [pcn] at HR2
      go_wp2_with (at_builtin; refine Hid.out ?_)
      refine Lib.hid ?_
      refine wpList_append_own_at _ rfl (.tmp 20) (.tmp 28) 75 rfl B 74 i0 _ 2 24 Tryd.underlying75 HI.out HZ0.out HZ1.out HZ2.out rfl (by decide) u0 (n + 1 + 0) (xs ++ pcT [41] ++ pps g op 1 1) rfl (HR2.out.own.alloc _) ⟨wr.heap.size, 0, Option.none⟩ 1 1 (pcE g 0) rfl rfl
        (new_cells wr (pcE g 0) 74) (pcE_one _ _) (by unfold maxLen; omega) (by omega) (by simp; omega) ?_
      intro v3 w3 hown1 hgr1 _ _
      obtain ⟨hR1, hB3⟩ := HR2.out.app _ hB2 hown1 hgr1
      have HR3 := Lib.hid hR1
      have q3 : w3.cell? ⟨ge, oe + 3, none⟩ = some (.slice (some ⟨g, 0, none⟩) 1 1) := (hR1.bel.cell (p := ⟨ge, oe + 3, none⟩) hge).trans HC3.out
      have q0 : w3.cell? ⟨ge, oe, none⟩ = some (.string ⟨op.toArray⟩) := (hR1.bel.cell (p := ⟨ge, oe, none⟩) hge).trans HC0.out
      clear hown1 hgr1 hR1
      go_wp2
      go_roundw
      case rel => exact ⟨0, by omega, rfl, by simpa [pps, pcn, Nat.add_assoc, List.append_assoc] using HR3.out, hB3⟩
      case measure => simp [intOf]
set_option maxRecDepth 100000 in
set_option maxHeartbeats 3200000 in
theorem push_two (B n : Nat) (v : Value) (xs : List Value) (w : World) (hown : w.ownsRow B 74 2 v n xs) (hn : n ≤ 1000000) (ge oe g : Nat) (op : List UInt8) (hop : op.length ≤ 10)
    (c0 : w.cell? ⟨ge, oe, none⟩ = some (.string ⟨op.toArray⟩)) (c3 : w.cell? ⟨ge, oe + 3, none⟩ = some (.slice (some ⟨g, 0, none⟩) 2 2)) (hge : ge < B) (hB : B ≤ w.heap.size) :
    Calls Tryd.prog 37 #[v, .pointer (some ⟨ge, oe, none⟩)] w (PushR B w (n + 1 + pcn 2 0) (xs ++ pcT [41] ++ pps g op 2 0)) := by
  obtain ⟨i0, hi, hz0, hz1, hz2⟩ := info_parts pc_info
  have HI := Lib.hid hi
  have HZ0 := Lib.hid hz0
  have HZ1 := Lib.hid hz1
  have HZ2 := Lib.hid hz2
  have HC0 := Lib.hid c0
  have HC3 := Lib.hid c3
  have h2 := cat2 op hop
  have h3 := cat3 op hop
  have HR : Hid (Rw B 74 2 w w v n xs) := Lib.hid ⟨hown, Below.refl _ _, Lib.OthersKept.refl _ _ _⟩
  clear hi hz0 hz1 hz2 hown
  go_enter Tryd.func37, Tryd.ntmps37
  go_wp2_with (at_builtin; refine Hid.out ?_)
  refine Lib.hid ?_
  refine wpList_append_own_at _ rfl (.tmp 6) (.tmp 8) 75 rfl B 74 i0 _ 2 24 Tryd.underlying75 HI.out HZ0.out HZ1.out HZ2.out rfl (by decide) v n xs rfl (HR.out.own.alloc _) ⟨w.heap.size, 0, Option.none⟩ 1 1 (pcT [41]) rfl rfl
    (new_cells w (pcT [41]) 74) (pcT_one _) (by unfold maxLen; omega) (by omega) (by simp; omega) ?_
  intro v1 w1 hown1 hgr1 _ _
  obtain ⟨hR1, hB1⟩ := HR.out.app _ hB hown1 hgr1
  have HR1 := Lib.hid hR1
  have q3 : w1.cell? ⟨ge, oe + 3, none⟩ = some (.slice (some ⟨g, 0, none⟩) 2 2) := (hR1.bel.cell (p := ⟨ge, oe + 3, none⟩) hge).trans HC3.out
  have q0 : w1.cell? ⟨ge, oe, none⟩ = some (.string ⟨op.toArray⟩) := (hR1.bel.cell (p := ⟨ge, oe, none⟩) hge).trans HC0.out
  clear hown1 hgr1 hR1
  clear c0 c3
  go_wp2
  clear q0 q3
  go_loopw [0, 5] (fun r i wr => ∃ j : Nat, j ≤ 2 ∧ i = .int .i64 ((j : Int) - 1) ∧ Rw B 74 2 w wr r (n + 1 + pcn 2 j) (xs ++ pcT [41] ++ pps g op 2 j) ∧ B ≤ wr.heap.size) (fun _ i _ => (intOf i + 1).toNat)
  case atStart => exact ⟨2, Nat.le_refl _, rfl, by simpa [pps, pcn] using HR1.out, hB1⟩
  case round =>
    obtain ⟨j, hj, rfl, hR2, hB2⟩ := hrel
    have HR2 := Lib.hid hR2
    have q3 : wr.cell? ⟨ge, oe + 3, none⟩ = some (.slice (some ⟨g, 0, none⟩) 2 2) := (hR2.bel.cell (p := ⟨ge, oe + 3, none⟩) hge).trans HC3.out
    have q0 : wr.cell? ⟨ge, oe, none⟩ = some (.string ⟨op.toArray⟩) := (hR2.bel.cell (p := ⟨ge, oe, none⟩) hge).trans HC0.out
    clear hR2
    obtain rfl | rfl | rfl : j = 0 ∨ j = 1 ∨ j = 2 := by omega
    · simp only [show ((0 : Nat) : Int) - 1 = -1 by omega] at *
      go_wp2
      go_ret
      exact ⟨_, rfl, HR2.out, hB2⟩
    · simp only [show ((1 : Nat) : Int) - 1 = 0 by omega] at *
      simp only [pcn] at HR2
      go_wp2_with (at_builtin; refine Hid.out ?_)
      refine Lib.hid ?_
      refine wpList_append_own_at _ rfl (.tmp 20) (.tmp 28) 75 rfl B 74 i0 _ 2 24 Tryd.underlying75 HI.out HZ0.out HZ1.out HZ2.out rfl (by decide) u0 (n + 1 + 2) (xs ++ pcT [41] ++ pps g op 2 1) rfl (HR2.out.own.alloc _) ⟨wr.heap.size, 0, Option.none⟩ 1 1 (pcE g 0) rfl rfl
        (new_cells wr (pcE g 0) 74) (pcE_one _ _) (by unfold maxLen; omega) (by omega) (by simp; omega) ?_
      intro v3 w3 hown1 hgr1 _ _
      obtain ⟨hR1, hB3⟩ := HR2.out.app _ hB2 hown1 hgr1
      have HR3 := Lib.hid hR1
      have q3 : w3.cell? ⟨ge, oe + 3, none⟩ = some (.slice (some ⟨g, 0, none⟩) 2 2) := (hR1.bel.cell (p := ⟨ge, oe + 3, none⟩) hge).trans HC3.out
      have q0 : w3.cell? ⟨ge, oe, none⟩ = some (.string ⟨op.toArray⟩) := (hR1.bel.cell (p := ⟨ge, oe, none⟩) hge).trans HC0.out
      clear hown1 hgr1 hR1
      go_wp2
      go_roundw
      case rel => exact ⟨0, by omega, rfl, by simpa [pps, pcn, Nat.add_assoc, List.append_assoc] using HR3.out, hB3⟩
      case measure => simp [intOf]
    · simp only [show ((2 : Nat) : Int) - 1 = 1 by omega] at *
      simp only [pcn] at HR2
      go_wp2_with (at_builtin; refine Hid.out ?_)
      refine Lib.hid ?_
      refine wpList_append_own_at _ rfl (.tmp 20) (.tmp 28) 75 rfl B 74 i0 _ 2 24 Tryd.underlying75 HI.out HZ0.out HZ1.out HZ2.out rfl (by decide) u0 (n + 1 + 0) (xs ++ pcT [41] ++ pps g op 2 2) rfl (HR2.out.own.alloc _) ⟨wr.heap.size, 0, Option.none⟩ 1 1 (pcE g 4) rfl rfl
        (new_cells wr (pcE g 4) 74) (pcE_one _ _) (by unfold maxLen; omega) (by omega) (by simp; omega) ?_
      intro v3 w3 hown1 hgr1 _ _
      obtain ⟨hR1, hB3⟩ := HR2.out.app _ hB2 hown1 hgr1
      have HR3 := Lib.hid hR1
      have q3 : w3.cell? ⟨ge, oe + 3, none⟩ = some (.slice (some ⟨g, 0, none⟩) 2 2) := (hR1.bel.cell (p := ⟨ge, oe + 3, none⟩) hge).trans HC3.out
      have q0 : w3.cell? ⟨ge, oe, none⟩ = some (.string ⟨op.toArray⟩) := (hR1.bel.cell (p := ⟨ge, oe, none⟩) hge).trans HC0.out
      clear hown1 hgr1 hR1
      clear q0 q3
      have q3 : w3.cell? ⟨ge, oe + 3, none⟩ = some (.slice (some ⟨g, 0, none⟩) 2 2) := (HR3.out.bel.cell (p := ⟨ge, oe + 3, none⟩) hge).trans HC3.out
      have q0 : w3.cell? ⟨ge, oe, none⟩ = some (.string ⟨op.toArray⟩) := (HR3.out.bel.cell (p := ⟨ge, oe, none⟩) hge).trans HC0.out
      go_wp2_with (at_builtin; refine Hid.out ?_)
      refine Lib.hid ?_
      refine wpList_append_own_at _ rfl (.tmp 32) (.tmp 40) 75 rfl B 74 i0 _ 2 24 Tryd.underlying75 HI.out HZ0.out HZ1.out HZ2.out rfl (by decide) v3 (n + 1 + 0 + 1) (xs ++ pcT [41] ++ pps g op 2 2 ++ pcE g 4) rfl (HR3.out.own.alloc _) ⟨w3.heap.size, 0, Option.none⟩ 1 1 (pcT ([32] ++ op ++ [32])) rfl rfl
        (new_cells w3 (pcT ([32] ++ op ++ [32])) 74) (pcT_one _) (by unfold maxLen; omega) (by omega) (by simp; omega) ?_
      intro v4 w4 hown1 hgr1 _ _
      obtain ⟨hR1, hB4⟩ := HR3.out.app _ hB3 hown1 hgr1
      have HR4 := Lib.hid hR1
      have q3 : w4.cell? ⟨ge, oe + 3, none⟩ = some (.slice (some ⟨g, 0, none⟩) 2 2) := (hR1.bel.cell (p := ⟨ge, oe + 3, none⟩) hge).trans HC3.out
      have q0 : w4.cell? ⟨ge, oe, none⟩ = some (.string ⟨op.toArray⟩) := (hR1.bel.cell (p := ⟨ge, oe, none⟩) hge).trans HC0.out
      clear hown1 hgr1 hR1
      go_wp2
      go_roundw
      case rel => exact ⟨1, by omega, rfl, by simpa [pps, pcn, Nat.add_assoc, List.append_assoc] using HR4.out, hB4⟩
      case measure => simp [intOf]
end Go.Proofs.YtmomdcnlhljhcaaDoor
