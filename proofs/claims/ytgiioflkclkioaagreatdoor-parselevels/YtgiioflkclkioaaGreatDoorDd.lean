/- tree.Expr.Depth: an expression's depth, level by level. -/
import Derived.Test.YtgiioflkclkioaaGreatDoorRo
set_option linter.unusedSimpArgs false
set_option linter.unusedVariables false
namespace Go.Proofs.YtgiioflkclkioaaGreatDoor
open Go.RowKit Ieee

/-- A list of one's own that has grown: what it was alone has changed, or nothing. -/
structure Rg (B t size : Nat) (w0 w : World) (v0 v : Value) (n : Nat) (xs : List Value) : Prop where
  own : w.ownsRow B t size v n xs
  grown : w0.grownBy w v0.ownBlock
  at_ : v.ownBlock = v0.ownBlock ∨ ∃ k, v.ownBlock = some k ∧ w0.heap.size ≤ k
theorem Rg.refl {B t size : Nat} {w : World} {v : Value} {n : Nat} {xs : List Value} (h : w.ownsRow B t size v n xs) : Rg B t size w w v v n xs := ⟨h, World.grownBy.refl _ _, .inl rfl⟩
theorem Rg.app {B t size : Nat} {w0 w w' : World} {v0 v v' : Value} {n m : Nat} {xs ys : List Value} (h : Rg B t size w0 w v0 v n xs) (o : Obj) (ho : w'.ownsRow B t size v' m ys) (hg : (w.alloc o).grownBy w' v.ownBlock)
    (ha : v'.ownBlock = v.ownBlock ∨ v'.ownBlock = some (w.alloc o).heap.size) : Rg B t size w0 w' v0 v' m ys := by
  have hs := h.grown.size
  refine ⟨ho, ⟨hg.os.trans h.grown.os, hg.tape.trans h.grown.tape, hg.output.trans h.grown.output, ?_, ?_⟩, ?_⟩
  · have := hg.size; simp at this; omega
  · intro k hk hne
    have hne2 : some k ≠ v.ownBlock := by
      rcases h.at_ with h' | ⟨k', h', h''⟩
      · rw [h']; exact hne
      · rw [h']; intro he; injection he with he; omega
    rw [hg.block k (by simp; omega) hne2, Below.heap_alloc _ _ _ (by omega)]
    exact h.grown.block k hk hne
  · rcases ha with ha | ha
    · rw [ha]; exact h.at_
    · exact .inr ⟨_, ha, by simp; omega⟩
theorem Rg.trans {B t size : Nat} {w0 w w' : World} {v0 v v' : Value} {n m : Nat} {xs ys : List Value} (h : Rg B t size w0 w v0 v n xs) (k : Rg B t size w w' v v' m ys) : Rg B t size w0 w' v0 v' m ys := by
  have hs := h.grown.size
  refine ⟨k.own, ⟨k.grown.os.trans h.grown.os, k.grown.tape.trans h.grown.tape, k.grown.output.trans h.grown.output, Nat.le_trans hs k.grown.size, ?_⟩, ?_⟩
  · intro j hj hne
    have hne2 : some j ≠ v.ownBlock := by
      rcases h.at_ with h' | ⟨k', h', h''⟩
      · rw [h']; exact hne
      · rw [h']; intro he; injection he with he; omega
    exact (k.grown.block j (by omega) hne2).trans (h.grown.block j hj hne)
  · rcases k.at_ with h' | ⟨k', h', h''⟩
    · rw [h']; exact h.at_
    · exact .inr ⟨k', h', by omega⟩
theorem Rg.below {B t size : Nat} {w0 w : World} {v0 v : Value} {n n0 : Nat} {xs ys : List Value} (h : Rg B t size w0 w v0 v n xs) (h0 : w0.ownsRow B t size v0 n0 ys) (hB : B ≤ w0.heap.size) : Below B w0 w := by
  refine ⟨h.grown.os, h.grown.tape, h.grown.output, h.grown.size, fun k hk => h.grown.block k (by omega) ?_⟩
  intro he
  have := (h0.lt k he.symm).1
  omega
theorem new_cells (X : World) (cs : List Value) (t : TypeId) : ∀ j u, cs[j]? = some u → (X.alloc (.cells cs.toArray t)).cell? ((⟨X.heap.size, 0, Option.none⟩ : Addr).add j) = some u := by
  intro j u hu
  have hadd : (⟨X.heap.size, 0, Option.none⟩ : Addr).add j = ⟨X.heap.size, j, Option.none⟩ := by unfold Addr.add; split <;> simp_all
  rw [hadd, row_cell (heap_alloc_new _ _)]
  simpa using hu
def ebox (e : Ex) (p : Option Addr) : Obj := .cells #[.string (opB e), .complex .f64 (nxB e) (nyB e), .string (nmB e), .slice p (npB e) (npB e)] 159
theorem cx_box (e : Ex) (p : Option Addr) (w : World) : Cx (w.alloc (ebox e p)) w.heap.size 0 e p :=
  ⟨row_cell (heap_alloc_new _ _), row_cell (heap_alloc_new _ _), row_cell (heap_alloc_new _ _), row_cell (heap_alloc_new _ _)⟩
/-- The places of parts. -/
def prs (g : Nat) : Nat → List Value
  | 1 => [.pointer (some ⟨g, 0, none⟩)]
  | 2 => [.pointer (some ⟨g, 0, none⟩), .pointer (some ⟨g, 4, none⟩)]
  | _ => []
def PartsR (B : Nat) (w : World) (v0 : Value) (n : Nat) (xs : List Value) (e : Ending) (w' : World) : Prop := ∃ v, e = .returned v ∧ Rg B 266 1 w w' v0 v n xs
theorem pt_info : (Tryz.prog.info? 266).map (fun i => (i.zero, i.size, i.bytes)) = some (some (.pointer none), 1, 8) := by kernel_rfl
theorem pt_one (a : Option Addr) : ∀ u ∈ [Value.pointer a], u.oneCell' = true := by
  intro u hu
  simp only [List.mem_cons, List.not_mem_nil, or_false] at hu
  subst hu; rfl
set_option maxRecDepth 100000 in
theorem aparts_0 (B n : Nat) (v : Value) (xs : List Value) (w : World) (hown : w.ownsRow B 266 1 v n xs) (ge oe : Nat) (c3 : w.cell? ⟨ge, oe + 3, none⟩ = some (.slice none 0 0)) :
    Calls Tryz.prog 216 #[v, .pointer (some ⟨ge, oe, none⟩)] w (PartsR B w v n xs) := by
  have HR := Lib.hid (Rg.refl hown)
  clear hown
  go_enter Tryz.func216, Tryz.ntmps216
  go_wp2
  go_loopw [0, 11] (fun r i wr => r = v ∧ i = .int .i64 0 ∧ wr = w) (fun _ _ _ => 0)
  case atStart => exact ⟨rfl, rfl, rfl⟩
  case round =>
    obtain ⟨rfl, rfl, rfl⟩ := hrel
    go_wp2
    go_ret
    exact ⟨_, rfl, HR.out⟩
set_option maxRecDepth 100000 in
set_option maxHeartbeats 3200000 in
theorem aparts_1 (B n : Nat) (v : Value) (xs : List Value) (w : World) (hown : w.ownsRow B 266 1 v n xs) (hn : n ≤ 1000000) (ge oe g : Nat) (c3 : w.cell? ⟨ge, oe + 3, none⟩ = some (.slice (some ⟨g, 0, none⟩) 1 1)) (hge : ge < B) (hB : B ≤ w.heap.size) :
    Calls Tryz.prog 216 #[v, .pointer (some ⟨ge, oe, none⟩)] w (PartsR B w v (n + 1) (xs ++ prs g 1)) := by
  obtain ⟨i0, hi, hz0, hz1, hz2⟩ := info_parts pt_info
  have HI := Lib.hid hi
  have HZ0 := Lib.hid hz0
  have HZ1 := Lib.hid hz1
  have HZ2 := Lib.hid hz2
  have HC3 := Lib.hid c3
  have HO := Lib.hid hown
  have HR := Lib.hid (Rg.refl hown)
  clear hi hz0 hz1 hz2 hown
  go_enter Tryz.func216, Tryz.ntmps216
  go_wp2
  clear c3
  go_loopw [0, 11] (fun r i wr => ∃ j : Nat, j ≤ 1 ∧ i = .int .i64 (j : Int) ∧ Rg B 266 1 w wr v r (n + j) (xs ++ (prs g 1).take j)) (fun _ i _ => (1 - intOf i).toNat)
  case atStart => exact ⟨0, Nat.zero_le _, rfl, by simpa using HR.out⟩
  case round =>
    obtain ⟨j, hj, rfl, hR2⟩ := hrel
    have HR2 := Lib.hid hR2
    have hB2 : B ≤ wr.heap.size := Nat.le_trans hB hR2.grown.size
    have q3 : wr.cell? ⟨ge, oe + 3, none⟩ = some (.slice (some ⟨g, 0, none⟩) 1 1) := ((hR2.below HO.out hB).cell (p := ⟨ge, oe + 3, none⟩) hge).trans HC3.out
    clear hR2
    obtain rfl | rfl : j = 0 ∨ j = 1 := by omega
    · simp only [show ((0 : Nat) : Int) = 0 from rfl] at *
      go_wp2_with (at_builtin; refine Hid.out ?_)
      refine Lib.hid ?_
      refine wpList_append_own_at _ rfl (.tmp 14) (.tmp 21) 267 rfl B 266 i0 _ 1 8 Tryz.underlying267 HI.out HZ0.out HZ1.out HZ2.out rfl (by decide) u0 (n + 0) (xs ++ (prs g 1).take 0) rfl (HR2.out.own.alloc _) ⟨wr.heap.size, 0, Option.none⟩ 1 1 [.pointer (some ⟨g, 0, none⟩)] rfl rfl
        (new_cells wr [.pointer (some ⟨g, 0, none⟩)] 266) (pt_one _) (by unfold maxLen; omega) (by omega) (by simp; omega) ?_
      intro v3 w3 hown1 hgr1 _ hat1
      have HR3 := Lib.hid (HR2.out.app _ hown1 hgr1 hat1)
      clear hown1 hgr1 hat1
      go_wp2
      go_roundw
      case rel => exact ⟨1, by omega, rfl, by simpa [prs, List.append_assoc, Nat.add_assoc] using HR3.out⟩
      case measure => simp [intOf]
    · simp only [show ((1 : Nat) : Int) = 1 from rfl] at *
      go_wp2
      go_ret
      exact ⟨_, rfl, by simpa [prs] using HR2.out⟩
set_option maxRecDepth 100000 in
set_option maxHeartbeats 3200000 in
theorem aparts_2 (B n : Nat) (v : Value) (xs : List Value) (w : World) (hown : w.ownsRow B 266 1 v n xs) (hn : n ≤ 1000000) (ge oe g : Nat) (c3 : w.cell? ⟨ge, oe + 3, none⟩ = some (.slice (some ⟨g, 0, none⟩) 2 2)) (hge : ge < B) (hB : B ≤ w.heap.size) :
    Calls Tryz.prog 216 #[v, .pointer (some ⟨ge, oe, none⟩)] w (PartsR B w v (n + 2) (xs ++ prs g 2)) := by
  obtain ⟨i0, hi, hz0, hz1, hz2⟩ := info_parts pt_info
  have HI := Lib.hid hi
  have HZ0 := Lib.hid hz0
  have HZ1 := Lib.hid hz1
  have HZ2 := Lib.hid hz2
  have HC3 := Lib.hid c3
  have HO := Lib.hid hown
  have HR := Lib.hid (Rg.refl hown)
  clear hi hz0 hz1 hz2 hown
  go_enter Tryz.func216, Tryz.ntmps216
  go_wp2
  clear c3
  go_loopw [0, 11] (fun r i wr => ∃ j : Nat, j ≤ 2 ∧ i = .int .i64 (j : Int) ∧ Rg B 266 1 w wr v r (n + j) (xs ++ (prs g 2).take j)) (fun _ i _ => (2 - intOf i).toNat)
  case atStart => exact ⟨0, Nat.zero_le _, rfl, by simpa using HR.out⟩
  case round =>
    obtain ⟨j, hj, rfl, hR2⟩ := hrel
    have HR2 := Lib.hid hR2
    have hB2 : B ≤ wr.heap.size := Nat.le_trans hB hR2.grown.size
    have q3 : wr.cell? ⟨ge, oe + 3, none⟩ = some (.slice (some ⟨g, 0, none⟩) 2 2) := ((hR2.below HO.out hB).cell (p := ⟨ge, oe + 3, none⟩) hge).trans HC3.out
    clear hR2
    obtain rfl | rfl | rfl : j = 0 ∨ j = 1 ∨ j = 2 := by omega
    · simp only [show ((0 : Nat) : Int) = 0 from rfl] at *
      go_wp2_with (at_builtin; refine Hid.out ?_)
      refine Lib.hid ?_
      refine wpList_append_own_at _ rfl (.tmp 14) (.tmp 21) 267 rfl B 266 i0 _ 1 8 Tryz.underlying267 HI.out HZ0.out HZ1.out HZ2.out rfl (by decide) u0 (n + 0) (xs ++ (prs g 2).take 0) rfl (HR2.out.own.alloc _) ⟨wr.heap.size, 0, Option.none⟩ 1 1 [.pointer (some ⟨g, 0, none⟩)] rfl rfl
        (new_cells wr [.pointer (some ⟨g, 0, none⟩)] 266) (pt_one _) (by unfold maxLen; omega) (by omega) (by simp; omega) ?_
      intro v3 w3 hown1 hgr1 _ hat1
      have HR3 := Lib.hid (HR2.out.app _ hown1 hgr1 hat1)
      clear hown1 hgr1 hat1
      go_wp2
      go_roundw
      case rel => exact ⟨1, by omega, rfl, by simpa [prs, List.append_assoc, Nat.add_assoc] using HR3.out⟩
      case measure => simp [intOf]
    · simp only [show ((1 : Nat) : Int) = 1 from rfl] at *
      go_wp2_with (at_builtin; refine Hid.out ?_)
      refine Lib.hid ?_
      refine wpList_append_own_at _ rfl (.tmp 14) (.tmp 21) 267 rfl B 266 i0 _ 1 8 Tryz.underlying267 HI.out HZ0.out HZ1.out HZ2.out rfl (by decide) u0 (n + 1) (xs ++ (prs g 2).take 1) rfl (HR2.out.own.alloc _) ⟨wr.heap.size, 0, Option.none⟩ 1 1 [.pointer (some ⟨g, 4, none⟩)] rfl rfl
        (new_cells wr [.pointer (some ⟨g, 4, none⟩)] 266) (pt_one _) (by unfold maxLen; omega) (by omega) (by simp; omega) ?_
      intro v3 w3 hown1 hgr1 _ hat1
      have HR3 := Lib.hid (HR2.out.app _ hown1 hgr1 hat1)
      clear hown1 hgr1 hat1
      go_wp2
      go_roundw
      case rel => exact ⟨2, by omega, rfl, by simpa [prs, List.append_assoc, Nat.add_assoc] using HR3.out⟩
      case measure => simp [intOf]
    · simp only [show ((2 : Nat) : Int) = 2 from rfl] at *
      go_wp2
      go_ret
      exact ⟨_, rfl, by simpa [prs] using HR2.out⟩
end Go.Proofs.YtgiioflkclkioaaGreatDoor
set_option linter.unusedSimpArgs false
set_option linter.unusedVariables false
namespace Go.Proofs.YtgiioflkclkioaaGreatDoor
open Go.RowKit Ieee

def dep : Ex → Nat
  | .num _ _ => 1
  | .reg _ => 1
  | .one _ a => dep a + 1
  | .two _ a b => max (dep a) (dep b) + 1
def nd : Ex → Nat
  | .num _ _ => 1
  | .reg _ => 1
  | .one _ a => nd a + 1
  | .two _ a b => nd a + nd b + 1
theorem dep_pos (e : Ex) : 1 ≤ dep e := by cases e <;> simp [dep]
theorem nd_pos (e : Ex) : 1 ≤ nd e := by cases e <;> simp [nd]
/-- An expression, and where it lies. -/
structure It where
  g : Nat
  o : Nat
  e : Ex
def It.ptr (i : It) : Value := .pointer (some ⟨i.g, i.o, none⟩)
def deps : List It → Nat
  | [] => 0
  | i :: l => max (dep i.e) (deps l)
def nds : List It → Nat
  | [] => 0
  | i :: l => nd i.e + nds l
theorem deps_app (a b : List It) : deps (a ++ b) = max (deps a) (deps b) := by
  induction a with
  | nil => simp [deps]
  | cons i l ih => simp only [List.cons_append, deps, ih]; omega
theorem nds_app (a b : List It) : nds (a ++ b) = nds a + nds b := by
  induction a with
  | nil => simp [nds]
  | cons i l ih => simp [nds, ih]; omega
theorem nds_len (l : List It) : l.length ≤ nds l := by
  induction l with
  | nil => exact Nat.le_refl _
  | cons i l ih => have := nd_pos i.e; simp [nds]; omega
def OkI (w : World) (N : Nat) (i : It) : Prop := i.g < N + 1 ∧ ∃ p, Cx w i.g i.o i.e p ∧ Px w (fun g => g < N) i.e p

theorem aparts_it {N n : Nat} {W1 w : World} {i : It} (h : OkI W1 N i) (hb : Below (N + 1) W1 w) (v : Value) (xs : List Value) (hown : w.ownsRow (N + 1) 266 1 v n xs) (hn : n ≤ 1000000) (hB : N + 1 ≤ w.heap.size) :
    ∃ ks : List It, (∀ k ∈ ks, OkI W1 N k) ∧ dep i.e = deps ks + 1 ∧ nds ks + 1 = nd i.e ∧ Calls Tryz.prog 216 #[v, i.ptr] w (PartsR (N + 1) w v (n + ks.length) (xs ++ ks.map It.ptr)) := by
  obtain ⟨hg, p, hc, hp⟩ := h
  have hs : Same (fun g => g < N + 1) W1 w := Same.below hb (fun g h => h)
  obtain ⟨_, _, _, c3⟩ := hc.on hs hg
  obtain ⟨g, o, e⟩ := i
  cases e with
  | num re im =>
    obtain rfl : p = none := hp
    exact ⟨[], by simp, rfl, rfl, by simpa [It.ptr] using aparts_0 (N + 1) n v xs w hown g o c3⟩
  | reg r =>
    obtain rfl : p = none := hp
    exact ⟨[], by simp, rfl, rfl, by simpa [It.ptr] using aparts_0 (N + 1) n v xs w hown g o c3⟩
  | one k a =>
    obtain ⟨g', q, rfl, hg', hca, hpa⟩ := hp
    refine ⟨[⟨g', 0, a⟩], ?_, by simp [dep, deps], by simp [nd, nds], by simpa [prs, It.ptr] using aparts_1 (N + 1) n v xs w hown hn g o g' c3 hg hB⟩
    intro k hk
    simp only [List.mem_cons, List.not_mem_nil, or_false] at hk
    subst hk
    exact ⟨by show g' < N + 1; omega, q, hca, hpa⟩
  | two k a b =>
    obtain ⟨g', q, r, rfl, hg', hca, hcb, hpa, hpb⟩ := hp
    refine ⟨[⟨g', 0, a⟩, ⟨g', 4, b⟩], ?_, by simp [dep, deps], by simp [nd, nds], by simpa [prs, It.ptr] using aparts_2 (N + 1) n v xs w hown hn g o g' c3 hg hB⟩
    intro k hk
    simp only [List.mem_cons, List.not_mem_nil, or_false] at hk
    rcases hk with rfl | rfl
    · exact ⟨by show g' < N + 1; omega, q, hca, hpa⟩
    · exact ⟨by show g' < N + 1; omega, r, hcb, hpb⟩

structure Din (e0 : Ex) (N : Nat) (W1 wr : World) (d : Nat) (lv bl : Value) (L : List It) : Prop where
  bel : Below (N + 1) W1 wr
  own : wr.ownsRow (N + 1) 266 1 lv L.length (L.map It.ptr)
  spare : ∃ n xs, wr.ownsRow (N + 1) 266 1 bl n xs
  apart : ∀ k, lv.ownBlock = some k → bl.ownBlock ≠ some k
  ok : ∀ i ∈ L, OkI W1 N i
  dp : d + deps L = dep e0
  few : nds L ≤ 100000
  size : N + 1 ≤ wr.heap.size
theorem own_cut {w : World} {B t size : Nat} {v : Value} {n : Nat} {xs : List Value} (h : w.ownsRow B t size v n xs) : (v = .slice none 0 0 ∧ w.ownsRow B t size (.slice none 0 0) 0 []) ∨ ∃ g cap, v = .slice (some ⟨g, 0, none⟩) n cap ∧ w.ownsRow B t size (.slice (some ⟨g, 0, none⟩) 0 cap) 0 [] := by
  rcases h.2 with ⟨rfl, _⟩ | ⟨g, cap, cur, rfl, h1, h2, h3, h4, h5, h6⟩
  · exact .inl ⟨rfl, World.ownsRow_nil _ _ _ _⟩
  · exact .inr ⟨g, cap, rfl, by simp, .inr ⟨g, cap, cur, rfl, h1, h2, by omega, h4, h5, by simp⟩⟩
theorem din_start (e : Ex) (p : Option Addr) (w : World) (hp : Px w (fun g => g < w.heap.size) e p) (hnd : nd e ≤ 100000) :
    Din e w.heap.size (w.alloc (ebox e p)) ((w.alloc (ebox e p)).alloc (.cells #[.pointer (some ⟨w.heap.size, 0, none⟩)] 266)) 0 (.slice (some ⟨w.heap.size + 1, 0, none⟩) 1 1) (.slice none 0 0) [⟨w.heap.size, 0, e⟩] := by
  have hz : (w.alloc (ebox e p)).heap.size = w.heap.size + 1 := by simp
  refine ⟨(Below.refl _ _).alloc (by simp) _, ?_, ⟨0, [], World.ownsRow_nil _ _ _ _⟩, by simp [Value.ownBlock], ?_, by simp [deps], by simpa [nds] using hnd, by simp⟩
  · have h := World.ownsRow_lit (base := w.heap.size + 1) (size := 1) (e := 266) (w.alloc (ebox e p)) #[.pointer (some ⟨w.heap.size, 0, none⟩)] 1 (by simp) (by unfold maxLen; omega) rfl
    rw [hz] at h
    exact h
  · intro q hq
    simp only [List.mem_cons, List.not_mem_nil, or_false] at hq
    subst hq
    exact ⟨by show w.heap.size < w.heap.size + 1; omega, p, cx_box e p w, hp.on (Same.below (below_alloc w _) (fun g h => h)) (fun g h => h)⟩

set_option maxRecDepth 100000 in
set_option maxHeartbeats 3200000 in
theorem depth_any (e : Ex) (p : Option Addr) (w : World) (hp : Px w (fun g => g < w.heap.size) e p) (hnd : nd e ≤ 100000) (hdp : dep e ≤ 100000) :
    Calls Tryz.prog 199 #[exv e p] w fun en w' => en = .returned (.int .i64 (dep e : Int)) ∧ Below w.heap.size w w' := by
  have HD0 := Lib.hid (din_start e p w hp hnd)
  have hst := store_cx
  obtain ⟨N, hN⟩ : ∃ N, w.heap.size = N := ⟨_, rfl⟩
  rw [hN] at HD0 ⊢
  have HN := Lib.hid hN
  obtain ⟨W1, hW1⟩ : ∃ W1, w.alloc (ebox e p) = W1 := ⟨_, rfl⟩
  rw [hW1] at HD0
  have HW1 := Lib.hid hW1
  have HBW : Hid (Below N w W1) := Lib.hid (by rw [← hN, ← hW1]; exact below_alloc w _)
  clear hp hW1
  unfold exv
  go_enter Tryz.func199, Tryz.ntmps199
  go_wp2
  go_loopw [3, 4, 5] (fun d lv bl wr => ∃ (D : Nat) (L : List It), d = .int .i64 (D : Int) ∧ Din e N W1 wr D lv bl L) (fun d _ _ _ => (100000 - intOf d).toNat)
  case atStart => exact ⟨0, _, rfl, by rw [← HW1.out] at HD0 ⊢; exact HD0.out⟩
  case round =>
    obtain ⟨D, L, rfl, hD⟩ := hrel
    have HD := Lib.hid hD
    have hdl : D ≤ 100000 := by have := hD.dp; omega
    have hfew := hD.few
    have hlen := nds_len L
    clear hD hN
    cases L with
    | nil =>
      have hv : ∃ a c, u4 = .slice a 0 c := by
        rcases HD.out.own.2 with ⟨h, _⟩ | ⟨g, cap, _, h, _⟩
        · exact ⟨_, _, h⟩
        · exact ⟨_, _, h⟩
      obtain ⟨a, c, rfl⟩ := hv
      go_wp2
      go_ret
      have := HD.out.dp
      simp only [deps, Nat.add_zero] at this
      exact ⟨by rw [← this]; rfl, HBW.out.trans (HD.out.bel.mono (by omega))⟩
    | cons i0 L =>
      obtain ⟨gl, cap, rfl, _, hgl⟩ := HD.out.own.form (by simp)
      obtain ⟨n0, xs0, hsp⟩ := HD.out.spare
      have HC := own_cut hsp
      have hap := HD.out.apart gl rfl
      generalize hLL : i0 :: L = M at *
      have hMpos : 0 < M.length := by rw [← hLL]; simp
      obtain ⟨ln, hln⟩ : ∃ ln, M.length = ln := ⟨_, rfl⟩
      rw [hln] at hlen hMpos ⊢
      have HLN := Lib.hid hln
      have HLL := Lib.hid hLL
      clear hsp hln hLL
      rcases HC with ⟨rfl, hc⟩ | ⟨gb, capb, rfl, hc⟩
      · have HC := Lib.hid hc
        clear hc
        go_wp2
        obtain ⟨wo, rfl⟩ : ∃ wo, wo = wr := ⟨_, rfl⟩
        go_loopw [5, 18] (fun b i wi => ∃ (j : Nat) (K : List It), j ≤ ln ∧ i = .int .i64 (j : Int) ∧ Rg (N + 1) 266 1 wo wi (.slice none 0 0) b K.length (K.map It.ptr) ∧ (∀ k ∈ K, OkI W1 N k) ∧ deps K = deps (M.take j) - 1 ∧ nds K + j = nds (M.take j)) (fun _ i _ => (ln - intOf i).toNat)
        case atStart => exact ⟨0, [], Nat.zero_le _, rfl, Rg.refl HC.out, by simp, by simp [deps], by simp [nds]⟩
        case round =>
          obtain ⟨j, K, hj, rfl, hR, hK, hdK, hnK⟩ := hrel
          have HR := Lib.hid hR
          have HK := Lib.hid hK
          have HDK := Lib.hid hdK
          have HNK := Lib.hid hnK
          clear hR hK hdK hnK
          by_cases hlt : j < ln
          · obtain ⟨it, hit⟩ : ∃ it, M[j]? = some it := ⟨M[j]'(by rw [HLN.out]; exact hlt), List.getElem?_eq_getElem _⟩
            have hbw : Below (N + 1) wo wr := HR.out.below HC.out HD.out.size
            have hlv : wr.heap[gl]? = wo.heap[gl]? := HR.out.grown.block gl hgl (by intro h; exact hap h.symm)
            have hcell : wr.cell? ⟨gl, j, none⟩ = some (.pointer (some ⟨it.g, it.o, none⟩)) := by
              have h1 := HD.out.own.cellAt j (by rw [HLN.out]; omega)
              rw [World.cell?_of_block (a := ⟨gl, j, none⟩) hlv, h1, List.getElem?_map, hit]; rfl
            have hmem : it ∈ M := List.mem_of_getElem? hit
            have htk : M.take (j + 1) = M.take j ++ [it] := by rw [List.take_add_one, hit]; rfl
            have hnl : nds (M.take j) ≤ nds M := by
              have := nds_app (M.take j) (M.drop j); rw [List.take_append_drop] at this; omega
            have hKl := nds_len K
            have hnk' := HNK.out
            obtain ⟨ks, hks, hdp', hnd', hcall⟩ := aparts_it (HD.out.ok it hmem) (HD.out.bel.trans hbw) u5 (K.map It.ptr) HR.out.own (by omega) (Nat.le_trans HD.out.size hbw.size)
            have HCALL := Lib.hid hcall
            have HKS := Lib.hid hks
            have HDP := Lib.hid hdp'
            have HND := Lib.hid hnd'
            have HTK := Lib.hid htk
            clear hcall hks hdp' hnd' hit hlv htk hnk' hKl hnl hmem
            unfold It.ptr at HCALL
            go_wp2_with fail
            refine HCALL.out.mono ?_
            rintro en w3 ⟨v3, rfl, hR3⟩
            have HR3 := Lib.hid hR3
            clear hR3
            go_wp2
            go_roundw
            case rel =>
              refine ⟨j + 1, K ++ ks, by omega, by go_num, ?_, ?_, ?_, ?_⟩
              · have := HR.out.trans HR3.out
                rw [List.length_append, List.map_append]
                exact this
              · intro k hk
                rcases List.mem_append.1 hk with hk | hk
                · exact HK.out k hk
                · exact HKS.out k hk
              · rw [HTK.out, deps_app, deps_app, HDK.out]
                have := HDP.out
                simp only [deps]
                omega
              · rw [HTK.out, nds_app, nds_app]
                have := HND.out
                have := HNK.out
                simp only [nds]
                omega
            case measure => simp [intOf]; omega
          · obtain rfl : j = ln := by omega
            have htk : M.take j = M := List.take_of_length_le (by rw [HLN.out]; omega)
            have hdk := HDK.out
            have hnk := HNK.out
            rw [htk] at hdk hnk
            have HDK2 := Lib.hid hdk
            have HNK2 := Lib.hid hnk
            clear hdk hnk htk
            go_wp2
            go_roundw
            case rel =>
              have hbw : Below (N + 1) wo wr := HR.out.below HC.out HD.out.size
              have hne : some gl ≠ (.slice none 0 0 : Value).ownBlock := by intro h; exact hap h.symm
              refine ⟨D + 1, K, by go_num, HD.out.bel.trans hbw, HR.out.own, ⟨j, M.map It.ptr, ?_⟩, ?_, HK.out, ?_, ?_, Nat.le_trans HD.out.size hbw.size⟩
              · have := HD.out.own
                rw [HLN.out] at this
                exact this.kept HR.out.grown (.inr hne)
              · intro k hk he
                injection he with he
                have he' : gl = k := he
                subst he'
                rcases HR.out.at_ with h | ⟨k', h, h'⟩
                · rw [hk] at h; exact hne h
                · rw [hk] at h; injection h with h; omega
              · have h1 := HDK2.out
                have h2 := HD.out.dp
                have h3 : 1 ≤ deps M := by rw [← HLL.out]; simp only [deps]; have := dep_pos i0.e; omega
                omega
              · have := HNK2.out
                have := HD.out.few
                omega
            case measure =>
              have h2 := HD.out.dp
              have h3 : 1 ≤ deps M := by rw [← HLL.out]; simp only [deps]; have := dep_pos i0.e; omega
              simp [intOf]; omega
      · have HC := Lib.hid hc
        clear hc
        go_wp2
        obtain ⟨wo, rfl⟩ : ∃ wo, wo = wr := ⟨_, rfl⟩
        go_loopw [5, 18] (fun b i wi => ∃ (j : Nat) (K : List It), j ≤ ln ∧ i = .int .i64 (j : Int) ∧ Rg (N + 1) 266 1 wo wi (.slice (some ⟨gb, 0, none⟩) 0 capb) b K.length (K.map It.ptr) ∧ (∀ k ∈ K, OkI W1 N k) ∧ deps K = deps (M.take j) - 1 ∧ nds K + j = nds (M.take j)) (fun _ i _ => (ln - intOf i).toNat)
        case atStart => exact ⟨0, [], Nat.zero_le _, rfl, Rg.refl HC.out, by simp, by simp [deps], by simp [nds]⟩
        case round =>
          obtain ⟨j, K, hj, rfl, hR, hK, hdK, hnK⟩ := hrel
          have HR := Lib.hid hR
          have HK := Lib.hid hK
          have HDK := Lib.hid hdK
          have HNK := Lib.hid hnK
          clear hR hK hdK hnK
          by_cases hlt : j < ln
          · obtain ⟨it, hit⟩ : ∃ it, M[j]? = some it := ⟨M[j]'(by rw [HLN.out]; exact hlt), List.getElem?_eq_getElem _⟩
            have hbw : Below (N + 1) wo wr := HR.out.below HC.out HD.out.size
            have hlv : wr.heap[gl]? = wo.heap[gl]? := HR.out.grown.block gl hgl (by intro h; exact hap h.symm)
            have hcell : wr.cell? ⟨gl, j, none⟩ = some (.pointer (some ⟨it.g, it.o, none⟩)) := by
              have h1 := HD.out.own.cellAt j (by rw [HLN.out]; omega)
              rw [World.cell?_of_block (a := ⟨gl, j, none⟩) hlv, h1, List.getElem?_map, hit]; rfl
            have hmem : it ∈ M := List.mem_of_getElem? hit
            have htk : M.take (j + 1) = M.take j ++ [it] := by rw [List.take_add_one, hit]; rfl
            have hnl : nds (M.take j) ≤ nds M := by
              have := nds_app (M.take j) (M.drop j); rw [List.take_append_drop] at this; omega
            have hKl := nds_len K
            have hnk' := HNK.out
            obtain ⟨ks, hks, hdp', hnd', hcall⟩ := aparts_it (HD.out.ok it hmem) (HD.out.bel.trans hbw) u5 (K.map It.ptr) HR.out.own (by omega) (Nat.le_trans HD.out.size hbw.size)
            have HCALL := Lib.hid hcall
            have HKS := Lib.hid hks
            have HDP := Lib.hid hdp'
            have HND := Lib.hid hnd'
            have HTK := Lib.hid htk
            clear hcall hks hdp' hnd' hit hlv htk hnk' hKl hnl hmem
            unfold It.ptr at HCALL
            go_wp2_with fail
            refine HCALL.out.mono ?_
            rintro en w3 ⟨v3, rfl, hR3⟩
            have HR3 := Lib.hid hR3
            clear hR3
            go_wp2
            go_roundw
            case rel =>
              refine ⟨j + 1, K ++ ks, by omega, by go_num, ?_, ?_, ?_, ?_⟩
              · have := HR.out.trans HR3.out
                rw [List.length_append, List.map_append]
                exact this
              · intro k hk
                rcases List.mem_append.1 hk with hk | hk
                · exact HK.out k hk
                · exact HKS.out k hk
              · rw [HTK.out, deps_app, deps_app, HDK.out]
                have := HDP.out
                simp only [deps]
                omega
              · rw [HTK.out, nds_app, nds_app]
                have := HND.out
                have := HNK.out
                simp only [nds]
                omega
            case measure => simp [intOf]; omega
          · obtain rfl : j = ln := by omega
            have htk : M.take j = M := List.take_of_length_le (by rw [HLN.out]; omega)
            have hdk := HDK.out
            have hnk := HNK.out
            rw [htk] at hdk hnk
            have HDK2 := Lib.hid hdk
            have HNK2 := Lib.hid hnk
            clear hdk hnk htk
            go_wp2
            go_roundw
            case rel =>
              have hbw : Below (N + 1) wo wr := HR.out.below HC.out HD.out.size
              have hne : some gl ≠ (.slice (some ⟨gb, 0, none⟩) 0 capb : Value).ownBlock := by intro h; exact hap h.symm
              refine ⟨D + 1, K, by go_num, HD.out.bel.trans hbw, HR.out.own, ⟨j, M.map It.ptr, ?_⟩, ?_, HK.out, ?_, ?_, Nat.le_trans HD.out.size hbw.size⟩
              · have := HD.out.own
                rw [HLN.out] at this
                exact this.kept HR.out.grown (.inr hne)
              · intro k hk he
                injection he with he
                have he' : gl = k := he
                subst he'
                rcases HR.out.at_ with h | ⟨k', h, h'⟩
                · rw [hk] at h; exact hne h
                · rw [hk] at h; injection h with h; omega
              · have h1 := HDK2.out
                have h2 := HD.out.dp
                have h3 : 1 ≤ deps M := by rw [← HLL.out]; simp only [deps]; have := dep_pos i0.e; omega
                omega
              · have := HNK2.out
                have := HD.out.few
                omega
            case measure =>
              have h2 := HD.out.dp
              have h3 : 1 ≤ deps M := by rw [← HLL.out]; simp only [deps]; have := dep_pos i0.e; omega
              simp [intOf]; omega
end Go.Proofs.YtgiioflkclkioaaGreatDoor
