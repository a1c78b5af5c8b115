/- tree.appendParts: the places of an expression's parts, behind a list's. -/
import Derived.Test.YtmomdcnlhljhcaaDoorEt
set_option linter.unusedSimpArgs false
set_option linter.unusedVariables false
namespace Go.Proofs.YtmomdcnlhljhcaaDoor
open Go.RowKit Ieee

/-- A list of one's own that has grown: what it was alone has changed, or nothing. -/
structure Rg (B t size : Nat) (w0 w : World) (v0 v : Value) (n : Nat) (xs : List Value) : Prop where
  own : w.ownsRow B t size v n xs
  grown : w0.grownBy w v0.ownBlock
  at_ : v.ownBlock = v0.ownBlock ∨ ∃ k, v.ownBlock = some k ∧ w0.heap.size ≤ k
theorem Rg.refl {B t size : Nat} {w : World} {v : Value} {n : Nat} {xs : List Value} (h : w.ownsRow B t size v n xs) : Rg B t size w w v v n xs := ⟨h, World.grownBy.refl _ _, .inl rfl⟩
theorem Rg.app {B t size : Nat} {w0 w w' : World} {v0 v v' : Value} {n m : Nat} {xs ys : List Value} (h : Rg B t size w0 w v0 v n xs) (o : Obj) (ho : w'.ownsRow B t size v' m ys) (hg : (w.alloc o).grownBy w' v.ownBlock)
    (ha : v'.ownBlock = v.ownBlock ∨ v'.ownBlock = some (w.alloc o).heap.size) : Rg B t size w0 w' v0 v' m ys := by
  have hs := h.grown.size
  refine ⟨ho, ⟨hg.os.trans h.grown.os, hg.tape.trans h.grown.tape, hg.output.trans h.grown.output, ?_, ?_⟩, ?_⟩
  · have := hg.size; simp at this; omega
  · intro k hk hne
    have hne2 : some k ≠ v.ownBlock := by
      rcases h.at_ with h' | ⟨k', h', h''⟩
      · rw [h']; exact hne
      · rw [h']; intro he; injection he with he; omega
    rw [hg.block k (by simp; omega) hne2, Below.heap_alloc _ _ _ (by omega)]
    exact h.grown.block k hk hne
  · rcases ha with ha | ha
    · rw [ha]; exact h.at_
    · exact .inr ⟨_, ha, by simp; omega⟩
theorem Rg.trans {B t size : Nat} {w0 w w' : World} {v0 v v' : Value} {n m : Nat} {xs ys : List Value} (h : Rg B t size w0 w v0 v n xs) (k : Rg B t size w w' v v' m ys) : Rg B t size w0 w' v0 v' m ys := by
  have hs := h.grown.size
  refine ⟨k.own, ⟨k.grown.os.trans h.grown.os, k.grown.tape.trans h.grown.tape, k.grown.output.trans h.grown.output, Nat.le_trans hs k.grown.size, ?_⟩, ?_⟩
  · intro j hj hne
    have hne2 : some j ≠ v.ownBlock := by
      rcases h.at_ with h' | ⟨k', h', h''⟩
      · rw [h']; exact hne
      · rw [h']; intro he; injection he with he; omega
    exact (k.grown.block j (by omega) hne2).trans (h.grown.block j hj hne)
  · rcases k.at_ with h' | ⟨k', h', h''⟩
    · rw [h']; exact h.at_
    · exact .inr ⟨k', h', by omega⟩
theorem Rg.below {B t size : Nat} {w0 w : World} {v0 v : Value} {n n0 : Nat} {xs ys : List Value} (h : Rg B t size w0 w v0 v n xs) (h0 : w0.ownsRow B t size v0 n0 ys) (hB : B ≤ w0.heap.size) : Below B w0 w := by
  refine ⟨h.grown.os, h.grown.tape, h.grown.output, h.grown.size, fun k hk => h.grown.block k (by omega) ?_⟩
  intro he
  have := (h0.lt k he.symm).1
  omega
/-- The places of parts. -/
def prs (g : Nat) : Nat → List Value
  | 1 => [.pointer (some ⟨g, 0, none⟩)]
  | 2 => [.pointer (some ⟨g, 0, none⟩), .pointer (some ⟨g, 4, none⟩)]
  | _ => []
def PartsR (B : Nat) (w : World) (v0 : Value) (n : Nat) (xs : List Value) (e : Ending) (w' : World) : Prop := ∃ v, e = .returned v ∧ Rg B 70 1 w w' v0 v n xs
theorem pt_info : (Tryd.prog.info? 70).map (fun i => (i.zero, i.size, i.bytes)) = some (some (.pointer none), 1, 8) := by kernel_rfl
theorem pt_one (a : Option Addr) : ∀ u ∈ [Value.pointer a], u.oneCell' = true := by
  intro u hu
  simp only [List.mem_cons, List.not_mem_nil, or_false] at hu
  subst hu; rfl
set_option maxRecDepth 100000 in
theorem aparts_0 (B n : Nat) (v : Value) (xs : List Value) (w : World) (hown : w.ownsRow B 70 1 v n xs) (ge oe : Nat) (c3 : w.cell? ⟨ge, oe + 3, none⟩ = some (.slice none 0 0)) :
    Calls Tryd.prog 33 #[v, .pointer (some ⟨ge, oe, none⟩)] w (PartsR B w v n xs) := by
  have HR := Lib.hid (Rg.refl hown)
  clear hown
  go_enter Tryd.func33, Tryd.ntmps33
  go_wp2
  go_loopw [0, 11] (fun r i wr => r = v ∧ i = .int .i64 0 ∧ wr = w) (fun _ _ _ => 0)
  case atStart => exact ⟨rfl, rfl, rfl⟩
  case round =>
    obtain ⟨rfl, rfl, rfl⟩ := hrel
    go_wp2
    go_ret
    exact ⟨_, rfl, HR.out⟩
set_option maxRecDepth 100000 in
set_option maxHeartbeats 3200000 in
theorem aparts_1 (B n : Nat) (v : Value) (xs : List Value) (w : World) (hown : w.ownsRow B 70 1 v n xs) (hn : n ≤ 1000000) (ge oe g : Nat) (c3 : w.cell? ⟨ge, oe + 3, none⟩ = some (.slice (some ⟨g, 0, none⟩) 1 1)) (hge : ge < B) (hB : B ≤ w.heap.size) :
    Calls Tryd.prog 33 #[v, .pointer (some ⟨ge, oe, none⟩)] w (PartsR B w v (n + 1) (xs ++ prs g 1)) := by
  obtain ⟨i0, hi, hz0, hz1, hz2⟩ := info_parts pt_info
  have HI := Lib.hid hi
  have HZ0 := Lib.hid hz0
  have HZ1 := Lib.hid hz1
  have HZ2 := Lib.hid hz2
  have HC3 := Lib.hid c3
  have HO := Lib.hid hown
  have HR := Lib.hid (Rg.refl hown)
  clear hi hz0 hz1 hz2 hown
  go_enter Tryd.func33, Tryd.ntmps33
  go_wp2
  clear c3
  go_loopw [0, 11] (fun r i wr => ∃ j : Nat, j ≤ 1 ∧ i = .int .i64 (j : Int) ∧ Rg B 70 1 w wr v r (n + j) (xs ++ (prs g 1).take j)) (fun _ i _ => (1 - intOf i).toNat)
  case atStart => exact ⟨0, Nat.zero_le _, rfl, by simpa using HR.out⟩
  case round =>
    obtain ⟨j, hj, rfl, hR2⟩ := hrel
    have HR2 := Lib.hid hR2
    have hB2 : B ≤ wr.heap.size := Nat.le_trans hB hR2.grown.size
    have q3 : wr.cell? ⟨ge, oe + 3, none⟩ = some (.slice (some ⟨g, 0, none⟩) 1 1) := ((hR2.below HO.out hB).cell (p := ⟨ge, oe + 3, none⟩) hge).trans HC3.out
    clear hR2
    obtain rfl | rfl : j = 0 ∨ j = 1 := by omega
    · simp only [show ((0 : Nat) : Int) = 0 from rfl] at *
      go_wp2_with (at_builtin; refine Hid.out ?_)
      refine Lib.hid ?_
      refine wpList_append_own_at _ rfl (.tmp 14) (.tmp 21) 71 rfl B 70 i0 _ 1 8 Tryd.underlying71 HI.out HZ0.out HZ1.out HZ2.out rfl (by decide) u0 (n + 0) (xs ++ (prs g 1).take 0) rfl (HR2.out.own.alloc _) ⟨wr.heap.size, 0, Option.none⟩ 1 1 [.pointer (some ⟨g, 0, none⟩)] rfl rfl
        (new_cells wr [.pointer (some ⟨g, 0, none⟩)] 70) (pt_one _) (by unfold maxLen; omega) (by omega) (by simp; omega) ?_
      intro v3 w3 hown1 hgr1 _ hat1
      have HR3 := Lib.hid (HR2.out.app _ hown1 hgr1 hat1)
      clear hown1 hgr1 hat1
      go_wp2
      go_roundw
      case rel => exact ⟨1, by omega, rfl, by simpa [prs, List.append_assoc, Nat.add_assoc] using HR3.out⟩
      case measure => simp [intOf]
    · simp only [show ((1 : Nat) : Int) = 1 from rfl] at *
      go_wp2
      go_ret
      exact ⟨_, rfl, by simpa [prs] using HR2.out⟩
set_option maxRecDepth 100000 in
set_option maxHeartbeats 3200000 in
theorem aparts_2 (B n : Nat) (v : Value) (xs : List Value) (w : World) (hown : w.ownsRow B 70 1 v n xs) (hn : n ≤ 1000000) (ge oe g : Nat) (c3 : w.cell? ⟨ge, oe + 3, none⟩ = some (.slice (some ⟨g, 0, none⟩) 2 2)) (hge : ge < B) (hB : B ≤ w.heap.size) :
    Calls Tryd.prog 33 #[v, .pointer (some ⟨ge, oe, none⟩)] w (PartsR B w v (n + 2) (xs ++ prs g 2)) := by
  obtain ⟨i0, hi, hz0, hz1, hz2⟩ := info_parts pt_info
  have HI := Lib.hid hi
  have HZ0 := Lib.hid hz0
  have HZ1 := Lib.hid hz1
  have HZ2 := Lib.hid hz2
  have HC3 := Lib.hid c3
  have HO := Lib.hid hown
  have HR := Lib.hid (Rg.refl hown)
  clear hi hz0 hz1 hz2 hown
  go_enter Tryd.func33, Tryd.ntmps33
  go_wp2
  clear c3
  go_loopw [0, 11] (fun r i wr => ∃ j : Nat, j ≤ 2 ∧ i = .int .i64 (j : Int) ∧ Rg B 70 1 w wr v r (n + j) (xs ++ (prs g 2).take j)) (fun _ i _ => (2 - intOf i).toNat)
  case atStart => exact ⟨0, Nat.zero_le _, rfl, by simpa using HR.out⟩
  case round =>
    obtain ⟨j, hj, rfl, hR2⟩ := hrel
    have HR2 := Lib.hid hR2
    have hB2 : B ≤ wr.heap.size := Nat.le_trans hB hR2.grown.size
    have q3 : wr.cell? ⟨ge, oe + 3, none⟩ = some (.slice (some ⟨g, 0, none⟩) 2 2) := ((hR2.below HO.out hB).cell (p := ⟨ge, oe + 3, none⟩) hge).trans HC3.out
    clear hR2
    obtain rfl | rfl | rfl : j = 0 ∨ j = 1 ∨ j = 2 := by omega
    · simp only [show ((0 : Nat) : Int) = 0 from rfl] at *
      go_wp2_with (at_builtin; refine Hid.out ?_)
      refine Lib.hid ?_
      refine wpList_append_own_at _ rfl (.tmp 14) (.tmp 21) 71 rfl B 70 i0 _ 1 8 Tryd.underlying71 HI.out HZ0.out HZ1.out HZ2.out rfl (by decide) u0 (n + 0) (xs ++ (prs g 2).take 0) rfl (HR2.out.own.alloc _) ⟨wr.heap.size, 0, Option.none⟩ 1 1 [.pointer (some ⟨g, 0, none⟩)] rfl rfl
        (new_cells wr [.pointer (some ⟨g, 0, none⟩)] 70) (pt_one _) (by unfold maxLen; omega) (by omega) (by simp; omega) ?_
      intro v3 w3 hown1 hgr1 _ hat1
      have HR3 := Lib.hid (HR2.out.app _ hown1 hgr1 hat1)
      clear hown1 hgr1 hat1
      go_wp2
      go_roundw
      case rel => exact ⟨1, by omega, rfl, by simpa [prs, List.append_assoc, Nat.add_assoc] using HR3.out⟩
      case measure => simp [intOf]
    · simp only [show ((1 : Nat) : Int) = 1 from rfl] at *
      go_wp2_with (at_builtin; refine Hid.out ?_)
      refine Lib.hid ?_
      refine wpList_append_own_at _ rfl (.tmp 14) (.tmp 21) 71 rfl B 70 i0 _ 1 8 Tryd.underlying71 HI.out HZ0.out HZ1.out HZ2.out rfl (by decide) u0 (n + 1) (xs ++ (prs g 2).take 1) rfl (HR2.out.own.alloc _) ⟨wr.heap.size, 0, Option.none⟩ 1 1 [.pointer (some ⟨g, 4, none⟩)] rfl rfl
        (new_cells wr [.pointer (some ⟨g, 4, none⟩)] 70) (pt_one _) (by unfold maxLen; omega) (by omega) (by simp; omega) ?_
      intro v3 w3 hown1 hgr1 _ hat1
      have HR3 := Lib.hid (HR2.out.app _ hown1 hgr1 hat1)
      clear hown1 hgr1 hat1
      go_wp2
      go_roundw
      case rel => exact ⟨2, by omega, rfl, by simpa [prs, List.append_assoc, Nat.add_assoc] using HR3.out⟩
      case measure => simp [intOf]
    · simp only [show ((2 : Nat) : Int) = 2 from rfl] at *
      go_wp2
      go_ret
      exact ⟨_, rfl, by simpa [prs] using HR2.out⟩
end Go.Proofs.YtmomdcnlhljhcaaDoor
