/- What Parse defers: a panic caught. -/
import Derived.Test.YtgiioflkclkioaaGreatDoorPg
import Derived.Defers
import Derived.Recover
set_option linter.unusedSimpArgs false
set_option linter.unusedVariables false
namespace Go.Proofs.YtgiioflkclkioaaGreatDoor
open Go.RowKit Ieee

set_option maxRecDepth 100000 in
set_option maxHeartbeats 1600000 in
theorem catch_idle (a b c : Nat) (w : World) : CallsD Tryz.prog 36 #[.pointer (some ⟨a, 0, none⟩), .pointer (some ⟨b, 0, none⟩), .pointer (some ⟨c, 0, none⟩)] .returning w fun e u' w' => e = .returned (.tuple #[]) ∧ u' = .returning ∧ w' = w := by
  refine callsD_of_wpS Tryz.func36 rfl fun c₀ cs hu => ?_
  apply wpS_seq
  apply wpS_region
  simp [wpOpsS, go_sem, recoverD, hu, Tryz.ntmps36, Exit.thenS]
  refine wpS_of_wp ?_
  go_wp2
  cases c₀
  simp_all [bodyPostS, results, Tryz.results36]
theorem assert75 (v : Value) (w : World) : (Instr.typeAssert (.iface 75 v) 20 75 false).run Tryz.prog w = .ok v w := by
  simp [Instr.typeAssert, go_sem, run_underlying Tryz.underlying75]
set_option maxRecDepth 100000 in
set_option maxHeartbeats 1600000 in
theorem catch_panic (a b c at_ why : Nat) (w : World) (z : Value) (y x : Value) (hab : a ≠ b) (hac : a ≠ c) (hbc : b ≠ c) (ha : w.heap[a]? = some (.cells #[z] 29 (0, 0))) (hb : w.heap[b]? = some (.cells #[y] 3 (0, 0))) (hc : w.heap[c]? = some (.cells #[x] 31 (0, 0))) :
    CallsD Tryz.prog 36 #[.pointer (some ⟨a, 0, none⟩), .pointer (some ⟨b, 0, none⟩), .pointer (some ⟨c, 0, none⟩)] (.panicking [{ v := .iface 75 (.agg #[.int .i64 (at_ : Int), .int .i64 (why : Int)]), recovered := false }]) w fun e u' w' =>
      e = .returned (.tuple #[]) ∧ u' = .panicking [{ v := .iface 75 (.agg #[.int .i64 (at_ : Int), .int .i64 (why : Int)]), recovered := true }] ∧ (w'.cell? ⟨a, 0, none⟩ = some (.slice none 0 0) ∧ w'.cell? ⟨b, 0, none⟩ = some (.int .i64 (at_ : Int)) ∧ w'.cell? ⟨c, 0, none⟩ = some (.int .i64 (why : Int)) ∧ Kx (fun i => i = a ∨ i = b ∨ i = c) w w') := by
  have a0 : w.cell? ⟨a, 0, none⟩ = some z := row_cell ha
  have b0 : w.cell? ⟨b, 0, none⟩ = some y := row_cell hb
  have c0 : w.cell? ⟨c, 0, none⟩ = some x := row_cell hc
  have af : w.frozen? ⟨a, 0, none⟩ = false := row_frozen ha
  have bf : w.frozen? ⟨b, 0, none⟩ = false := row_frozen hb
  have cf : w.frozen? ⟨c, 0, none⟩ = false := row_frozen hc
  have hal : a < w.heap.size := lt_of_row ha
  have hbl : b < w.heap.size := lt_of_row hb
  have hcl : c < w.heap.size := lt_of_row hc
  refine callsD_of_wpS Tryz.func36 rfl fun c₀ cs hu => ?_
  apply wpS_seq
  apply wpS_region
  simp [wpOpsS, go_sem, recoverD, hu, Tryz.ntmps36, Exit.thenS, Array.replicate, List.replicate]
  refine wpS_of_wp ?_
  have hta := assert75
  have HA := Lib.hid ha
  have HB := Lib.hid hb
  have HC := Lib.hid hc
  clear ha hb hc
  go_wp2
  obtain ⟨n, hn⟩ : ∃ n, w.heap.size = n := ⟨_, rfl⟩
  obtain ⟨W, hW⟩ : ∃ W, w.alloc (.cells #[.int .i64 (at_ : Int), .int .i64 (why : Int)] 75) = W := ⟨_, rfl⟩
  have hbw : Below w.heap.size w W := by rw [← hW]; exact below_alloc _ _
  have HBW := Lib.hid hbw
  have hrn : W.heap[n]? = some (.cells #[.int .i64 (at_ : Int), .int .i64 (why : Int)] 75 (0, 0)) := by rw [← hW]; exact alloc_at hn _
  have x0 : W.cell? ⟨n, 0, none⟩ = some (.int .i64 (at_ : Int)) := row_cell hrn
  have x1 : W.cell? ⟨n, 1, none⟩ = some (.int .i64 (why : Int)) := row_cell hrn
  have hra : W.heap[a]? = some (.cells #[z] 29 (0, 0)) := (hbw.block a hal).trans HA.out
  have hrb : W.heap[b]? = some (.cells #[y] 3 (0, 0)) := (hbw.block b hbl).trans HB.out
  have hrc : W.heap[c]? = some (.cells #[x] 31 (0, 0)) := (hbw.block c hcl).trans HC.out
  have A0 : W.cell? ⟨a, 0, none⟩ = some z := row_cell hra
  have B0 : W.cell? ⟨b, 0, none⟩ = some y := row_cell hrb
  have C0 : W.cell? ⟨c, 0, none⟩ = some x := row_cell hrc
  have Af : W.frozen? ⟨a, 0, none⟩ = false := row_frozen hra
  have Bf : W.frozen? ⟨b, 0, none⟩ = false := row_frozen hrb
  have Cf : W.frozen? ⟨c, 0, none⟩ = false := row_frozen hrc
  have han : ¬ a = n := by omega
  have hbn : ¬ b = n := by omega
  have hcn : ¬ c = n := by omega
  have hna : ¬ n = a := by omega
  have hnb : ¬ n = b := by omega
  have hnc : ¬ n = c := by omega
  have hba : ¬ b = a := fun e => hab e.symm
  have hca : ¬ c = a := fun e => hac e.symm
  have hcb : ¬ c = b := fun e => hbc e.symm
  rw [hW, hn]
  clear hW hrn a0 b0 c0 af bf cf
  refine wp_region_lapseG (by kernel_rfl) (fun w' => w'.cell? ⟨n, 0, none⟩ = some (.int .i64 (at_ : Int)) ∧ w'.cell? ⟨n, 1, none⟩ = some (.int .i64 (why : Int))) 8 ?_
  have hS0 : W.drew.cell? ⟨n, 0, none⟩ = some (.int .i64 (at_ : Int)) ∧ W.drew.cell? ⟨n, 1, none⟩ = some (.int .i64 (why : Int)) := ⟨x0, x1⟩
  refine wpAnyG_take (i := 0) (v := ?v0q) rfl (by kernel_rfl) (by kernel_rfl) (by kernel_rfl) (by kernel_rfl) (fun _ _ _ h => h) (Or.inl ⟨by rfl, ?h0q⟩) hS0 ?_
  case h0q => (intro w hSw; (try dsimp only at hSw); (try obtain ⟨e0, e1⟩ := hSw); go_simp; try with_reducible rfl)
  simp only [Act.put, List.setIfInBounds_toArray, List.set_cons_zero, List.set_cons_succ]
  refine wpAnyG_take (i := 1) (v := ?v1q) rfl (by kernel_rfl) (by kernel_rfl) (by kernel_rfl) (by kernel_rfl) (fun _ _ _ h => h) (Or.inl ⟨by rfl, ?h1q⟩) hS0 ?_
  case h1q => (intro w hSw; (try dsimp only at hSw); (try obtain ⟨e0, e1⟩ := hSw); go_simp; try with_reducible rfl)
  simp only [Act.put, List.setIfInBounds_toArray, List.set_cons_zero, List.set_cons_succ]
  refine wpAnyG_take (i := 2) (v := ?v2q) rfl (by kernel_rfl) (by kernel_rfl) (by kernel_rfl) (by kernel_rfl) (fun _ _ _ h => h) (Or.inl ⟨by rfl, ?h2q⟩) hS0 ?_
  case h2q => (intro w hSw; (try dsimp only at hSw); (try obtain ⟨e0, e1⟩ := hSw); go_simp; try with_reducible rfl)
  simp only [Act.put, List.setIfInBounds_toArray, List.set_cons_zero, List.set_cons_succ]
  refine wpAnyG_take (i := 3) (v := ?v3q) rfl (by kernel_rfl) (by kernel_rfl) (by kernel_rfl) (by kernel_rfl) (fun _ _ _ h => h) (Or.inl ⟨by rfl, ?h3q⟩) hS0 ?_
  case h3q => (intro w hSw; (try dsimp only at hSw); (try obtain ⟨e0, e1⟩ := hSw); go_simp; try with_reducible rfl)
  simp only [Act.put, List.setIfInBounds_toArray, List.set_cons_zero, List.set_cons_succ]
  refine wpAnyG_take (i := 4) (v := ?v4q) rfl (by kernel_rfl) (by kernel_rfl) (by kernel_rfl) (by kernel_rfl) (fun _ _ _ h => h) (Or.inl ⟨by rfl, ?h4q⟩) hS0 ?_
  case h4q => (intro w hSw; (try dsimp only at hSw); (try obtain ⟨e0, e1⟩ := hSw); go_simp; try with_reducible rfl)
  simp only [Act.put, List.setIfInBounds_toArray, List.set_cons_zero, List.set_cons_succ]
  clear hS0
  have key : ∀ (w' : World) (p q : Nat) (i : Nat) (u v : Value), p ≠ q → w'.cell? ⟨q, i, none⟩ = some v → (w'.setCell ⟨p, 0, none⟩ u).cell? ⟨q, i, none⟩ = some v := fun w' p q i u v h1 h2 => (World.cell?_of_block (w := w') (a := ⟨q, i, none⟩) (Below.heap_setCell _ _ _ _ (fun e => h1 e.symm))).trans h2
  refine wpAnyG_one (i := 5) (by kernel_rfl) rfl (fun K hK => ?_)
  go_simp
  refine hK.out _ _ (fun _ => ⟨key _ _ _ _ _ _ (by omega) x0, key _ _ _ _ _ _ (by omega) x1⟩) ?_
  clear hK K
  try simp only [Act.put, List.setIfInBounds_toArray, List.set_cons_zero, List.set_cons_succ]
  refine wpAnyG_one (i := 6) (by kernel_rfl) rfl (fun K hK => ?_)
  go_simp
  refine hK.out _ _ (fun _ => ⟨key _ _ _ _ _ _ (by omega) (key _ _ _ _ _ _ (by omega) x0), key _ _ _ _ _ _ (by omega) (key _ _ _ _ _ _ (by omega) x1)⟩) ?_
  clear hK K
  try simp only [Act.put, List.setIfInBounds_toArray, List.set_cons_zero, List.set_cons_succ]
  refine wpAnyG_one (i := 7) (by kernel_rfl) rfl (fun K hK => ?_)
  go_simp
  refine hK.out _ _ (fun _ => ⟨key _ _ _ _ _ _ (by omega) (key _ _ _ _ _ _ (by omega) (key _ _ _ _ _ _ (by omega) x0)), key _ _ _ _ _ _ (by omega) (key _ _ _ _ _ _ (by omega) (key _ _ _ _ _ _ (by omega) x1))⟩) ?_
  clear hK K
  try simp only [Act.put, List.setIfInBounds_toArray, List.set_cons_zero, List.set_cons_succ]
  refine wpAnyG_done (by kernel_rfl) ?_ _
  obtain ⟨V, hV⟩ : ∃ V, (((W.setCell ⟨a, 0, none⟩ (.slice none 0 0)).setCell ⟨b, 0, none⟩ (.int .i64 (at_ : Int))).setCell ⟨c, 0, none⟩ (.int .i64 (why : Int))).drew = V := ⟨_, rfl⟩
  have H1 : V.cell? ⟨a, 0, none⟩ = some (.slice none 0 0) := by
    rw [← hV]
    exact key _ _ _ _ _ _ hca (key _ _ _ _ _ _ hba (World.cell?_setCell_same _ _ _ A0))
  have H2 : V.cell? ⟨b, 0, none⟩ = some (.int .i64 (at_ : Int)) := by
    rw [← hV]
    exact key _ _ _ _ _ _ hcb (World.cell?_setCell_same _ _ _ (key _ _ _ _ _ _ hab B0))
  have H3 : V.cell? ⟨c, 0, none⟩ = some (.int .i64 (why : Int)) := by
    rw [← hV]
    exact World.cell?_setCell_same _ _ _ (key _ _ _ _ _ _ hbc (key _ _ _ _ _ _ hac C0))
  have H4 : Kx (fun i => i = a ∨ i = b ∨ i = c) w V := by
    rw [← hV]
    exact ((((Kx.of (X := fun i => i = a ∨ i = b ∨ i = c) HBW.out).setCell (p := ⟨a, 0, none⟩) (.inl (.inl rfl)) _).setCell (p := ⟨b, 0, none⟩) (.inl (.inr (.inl rfl))) _).setCell (p := ⟨c, 0, none⟩) (.inl (.inr (.inr rfl))) _).tr (kx_drew _ _)
  rw [hV]
  clear hV
  show bodyPostS Tryz.prog Tryz.f36 c₀ cs _ Exit.normal _ _ V
  cases c₀
  simp_all [bodyPostS, results, Tryz.results36]
end Go.Proofs.YtgiioflkclkioaaGreatDoor
