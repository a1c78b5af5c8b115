/- braid.own: an event with marks of its own. -/
import Derived.Test.YtmhaelfmojigoaaEk
import Derived.Test.YtmhaelfmojigoaaHl
import Derived.Test.YtmhaelfmojigoaaXc
set_option linter.unusedSimpArgs false
set_option linter.unusedVariables false
namespace Go.Proofs.Ytmhaelfmojigoaa
open Go.RowKit

theorem clone_ms (l : List (Int × Bool)) (v : Value) (w : World) (hs : MkS w v l) (hl : l.length ≤ 1000) : Calls Try.prog 48 #[v] w fun e w' => ∃ q c, e = .returned (.slice q l.length c) ∧ MkS w' (.slice q l.length c) l ∧ (∀ r, (Value.slice q l.length c).ownBlock = some r → w.heap.size ≤ r) ∧ Below w.heap.size w w' := by
  refine (clone_mk l v w hs hl).mono ?_
  rintro e w1 ⟨v1, rfl, hb1, hv1⟩
  rcases hv1 with ⟨rfl, rfl⟩ | ⟨g, cap, rfl, hg, hg1, hc, hcm, hr, hf⟩
  · exact ⟨_, _, rfl, MkS.nil _, (fun r hr => by cases hr), hb1⟩
  · exact ⟨_, _, rfl, ⟨_, cap, rfl, hc, hcm, .inr ⟨g, 0, rfl, hg1, hr⟩⟩, (fun r hr => by cases hr; exact hg), hb1⟩

set_option maxRecDepth 100000 in
set_option maxHeartbeats 16000000 in
theorem own_any (t : Int) (l : List (Int × Bool)) (v : Value) (w : World) (hs : MkS w v l) (hl : l.length ≤ 1000) :
    Calls Try.prog 38 #[.agg #[.int .i64 t, v]] w fun r w' => ∃ u, r = .returned (.agg #[.int .i64 t, u]) ∧ MkS w' u l ∧ (∀ q, u.ownBlock = some q → w.heap.size ≤ q) ∧ Below w.heap.size w w' := by
  obtain ⟨X, hX⟩ : ∃ X, w.heap.size = X := ⟨_, rfl⟩
  have hC := fun w' (k : Below w.heap.size w w') => clone_ms l v w' (hs.kept k) hl
  obtain ⟨q, cap, rfl, _⟩ := id hs
  obtain ⟨wb, hwb⟩ : ∃ wb, (w.alloc (Obj.cells #[Value.int .i64 t, .slice q l.length cap] 39)).alloc (Obj.cells #[Value.int .i64 0, .slice Option.none 0 0] 39) = wb := ⟨_, rfl⟩
  have hB1 := below_alloc w (Obj.cells #[Value.int .i64 t, .slice q l.length cap] 39)
  have hB2 := below_alloc (w.alloc (Obj.cells #[Value.int .i64 t, .slice q l.length cap] 39)) (Obj.cells #[Value.int .i64 0, .slice Option.none 0 0] 39)
  have hg1 := heap_alloc_new w (Obj.cells #[Value.int .i64 t, .slice q l.length cap] 39)
  have hg2 := heap_alloc_new (w.alloc (Obj.cells #[Value.int .i64 t, .slice q l.length cap] 39)) (Obj.cells #[Value.int .i64 0, .slice Option.none 0 0] 39)
  have hs1 : (w.alloc (Obj.cells #[Value.int .i64 t, .slice q l.length cap] 39)).heap.size = X + 1 := by rw [← hX]; simp
  have hs2 : wb.heap.size = X + 1 + 1 := by rw [← hwb, ← hX]; simp
  rw [← hB2.block w.heap.size (by simp), hwb, hX] at hg1
  rw [hwb, hs1] at hg2
  have hWb : Below w.heap.size w wb := by rw [← hwb]; exact hB1.trans (hB2.mono hB1.size)
  have HWBE := Lib.hid hwb
  have HC := Lib.hid hC
  have HX := Lib.hid hX
  have HG1 := Lib.hid hg1
  have HG2 := Lib.hid hg2
  have HS2 := Lib.hid hs2
  have HWB := Lib.hid hWb
  generalize l.length = n at *
  clear hX hC hs hwb hB1 hB2 hg1 hg2 hs1 hs2 hWb
  go_enter Try.func38, Try.ntmps38
  have c1 : wb.cell? ⟨X, 0, Option.none⟩ = some (.int .i64 t) := by rw [cell_of_row _ _ _ _ _ _ HG1.out]; rfl
  have c2 : wb.cell? ⟨X, 1, Option.none⟩ = some (.slice q n cap) := by rw [cell_of_row _ _ _ _ _ _ HG1.out]; rfl
  have hdr : Below wb.heap.size wb wb.drew := below_drew _ _
  have HC1 := Lib.hid (HC.out wb.drew (HWB.out.trans (hdr.mono HWB.out.size)))
  clear hdr
  go_wp2_with fail
  rw [HWBE.out, HX.out]
  refine wp_region_lapse (by kernel_rfl) (fun w' => w'.cell? ⟨X, 0, Option.none⟩ = some (.int .i64 t) ∧ w'.cell? ⟨X, 1, Option.none⟩ = some (.slice q n cap)) 6 ?_
  have hS0 : wb.drew.cell? ⟨X, 0, Option.none⟩ = some (.int .i64 t) ∧ wb.drew.cell? ⟨X, 1, Option.none⟩ = some (.slice q n cap) := ⟨c1, c2⟩
  refine wpAnyF_take (i := 0) (v := ?v5x0) rfl (by kernel_rfl) (by kernel_rfl) (by kernel_rfl) (by kernel_rfl) (fun _ _ _ h => h) (Or.inl ⟨by rfl, ?h5x0⟩) hS0 ?_
  case h5x0 => (intro w hSw; (try dsimp only at hSw); obtain ⟨z1, z2⟩ := hSw; go_simp; try with_reducible rfl)
  try simp only [Act.put, List.setIfInBounds_toArray, List.set_cons_zero, List.set_cons_succ]
  refine wpAnyF_take (i := 1) (v := ?v5x1) rfl (by kernel_rfl) (by kernel_rfl) (by kernel_rfl) (by kernel_rfl) (fun _ _ _ h => h) (Or.inl ⟨by rfl, ?h5x1⟩) hS0 ?_
  case h5x1 => (intro w hSw; (try dsimp only at hSw); obtain ⟨z1, z2⟩ := hSw; go_simp; try with_reducible rfl)
  try simp only [Act.put, List.setIfInBounds_toArray, List.set_cons_zero, List.set_cons_succ]
  refine wpAnyF_take (i := 2) (v := ?v5x2) rfl (by kernel_rfl) (by kernel_rfl) (by kernel_rfl) (by kernel_rfl) (fun _ _ _ h => h) (Or.inl ⟨by rfl, ?h5x2⟩) hS0 ?_
  case h5x2 => (intro w hSw; (try dsimp only at hSw); obtain ⟨z1, z2⟩ := hSw; go_simp; try with_reducible rfl)
  try simp only [Act.put, List.setIfInBounds_toArray, List.set_cons_zero, List.set_cons_succ]
  refine wpAnyF_take (i := 3) (v := ?v5x3) rfl (by kernel_rfl) (by kernel_rfl) (by kernel_rfl) (by kernel_rfl) (fun _ _ _ h => h) (Or.inl ⟨by rfl, ?h5x3⟩) hS0 ?_
  case h5x3 => (intro w hSw; (try dsimp only at hSw); obtain ⟨z1, z2⟩ := hSw; go_simp; try with_reducible rfl)
  try simp only [Act.put, List.setIfInBounds_toArray, List.set_cons_zero, List.set_cons_succ]
  refine wpAnyF_one (i := 4) (by kernel_rfl) rfl (fun K hK => ?_)
  go_simp
  go_at_call 48
  refine HC1.out.mono ?_
  rintro e w2 ⟨q2, k2, rfl, hm, hq, hb2⟩
  have hb2' : Below wb.heap.size wb w2 := (below_drew _ _).trans hb2
  have hXs : X < wb.heap.size := by rw [HS2.out]; omega
  have hs2 : w2.cell? ⟨X, 0, Option.none⟩ = some (.int .i64 t) ∧ w2.cell? ⟨X, 1, Option.none⟩ = some (.slice q n cap) := ⟨(hb2'.cell (p := ⟨X, _, Option.none⟩) hXs).trans c1, (hb2'.cell (p := ⟨X, _, Option.none⟩) hXs).trans c2⟩
  have hg3 := (hb2'.block (X + 1) (by rw [HS2.out]; omega)).trans HG2.out
  have c3 : w2.cell? ⟨X + 1, 0, Option.none⟩ = some (.int .i64 0) := by rw [cell_of_row _ _ _ _ _ _ hg3]; rfl
  have c4 : w2.cell? ⟨X + 1, 1, Option.none⟩ = some (.slice Option.none 0 0) := by rw [cell_of_row _ _ _ _ _ _ hg3]; rfl
  have f3 := frozen_of_row w2 (X + 1) 0 _ _ hg3
  have f4 := frozen_of_row w2 (X + 1) 1 _ _ hg3
  have d0 : ((w2.setCell ⟨X + 1, 0, Option.none⟩ (.int .i64 t)).setCell ⟨X + 1, 1, Option.none⟩ (.slice q2 n k2)).cell? ⟨X + 1, 0, Option.none⟩ = some (.int .i64 t) := (so (by omega)).trans (ss c3)
  have d1 : ((w2.setCell ⟨X + 1, 0, Option.none⟩ (.int .i64 t)).setCell ⟨X + 1, 1, Option.none⟩ (.slice q2 n k2)).cell? ⟨X + 1, 1, Option.none⟩ = some (.slice q2 n k2) := ss ((so (by omega)).trans c4)
  have hbel : Below w.heap.size w ((w2.setCell ⟨X + 1, 0, Option.none⟩ (.int .i64 t)).setCell ⟨X + 1, 1, Option.none⟩ (.slice q2 n k2)) :=
    ((HWB.out.trans (hb2'.mono HWB.out.size)).setCell (p := ⟨X + 1, 0, Option.none⟩) (by rw [HX.out]; exact Nat.le_succ _) _).setCell (p := ⟨X + 1, 1, Option.none⟩) (by rw [HX.out]; exact Nat.le_succ _) _
  have hwd : wb.drew.heap.size = X + 1 + 1 := HS2.out
  rw [hwd] at hq
  have hne : ∀ r, (Value.slice q2 n k2).ownBlock = some r → some (X + 1) ≠ some r := fun r hr e => by have h1 := hq r hr; have h2 := Option.some.inj e; omega
  have hms := mk_set (g := X + 1) (o := 1) (v := .slice q2 n k2) (mk_set (g := X + 1) (o := 0) (v := .int .i64 t) hm hne) hne
  have HM := Lib.hid hms
  have HBEL := Lib.hid hbel
  have HQ : Hid (∀ r, (Value.slice q2 n k2).ownBlock = some r → w.heap.size ≤ r) := Lib.hid fun r hr => by have := hq r hr; have := HX.out; omega
  clear hms hbel hne hq hm hb2 hb2' hg3 hwd c1 c2 HC HC1
  refine hK.out _ _ (fun hne => hs2) ?_
  clear hK K
  try simp only [Act.put, List.setIfInBounds_toArray, List.set_cons_zero, List.set_cons_succ]
  refine wpAnyF_one (i := 5) (by kernel_rfl) rfl (fun K hK => ?_)
  go_simp
  refine hK.out _ _ (fun hne => hs2) ?_
  clear hK K
  try simp only [Act.put, List.setIfInBounds_toArray, List.set_cons_zero, List.set_cons_succ]
  refine wpAnyF_one (i := 6) (by kernel_rfl) rfl (fun K hK => ?_)
  go_simp
  refine hK.out _ _ (fun hne => absurd rfl hne) ?_
  clear hK K
  try simp only [Act.put, List.setIfInBounds_toArray, List.set_cons_zero, List.set_cons_succ]
  refine wpAnyF_done (by kernel_rfl) ?_ _
  go_wp2
  refine bodyPost_ret (v := .agg #[.int .i64 t, .slice q2 n k2]) (by simp [results, Try.results38, go_sem, d0, d1]) rfl ⟨_, rfl, HM.out, HQ.out, HBEL.out⟩
end Go.Proofs.Ytmhaelfmojigoaa
