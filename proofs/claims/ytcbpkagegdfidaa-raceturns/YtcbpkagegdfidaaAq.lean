/- Law 13's fixed fact. -/
import Derived.Test.YtcbpkagegdfidaaAq0
set_option linter.unusedSimpArgs false
set_option linter.unusedVariables false
namespace Go.Proofs.Ytcbpkagegdfidaa
open Go.RowKit

section
variable {P : Program} {ops : Array Oper} {Q : Exit → Act → World → Prop} {md : Region.Mode} {S : World → Prop} {L : Nat}
/-- Number i or number j may come up now. -/
theorem wpAnyF_two {i j : Nat} {o o2 : Oper} {fuel : Nat} {listed : Array Bool} {a : Act} {w : World} (hr : Region.ready md ops listed = [i, j]) (ho : ops.toList[i]? = some o) (ho2 : ops.toList[j]? = some o2)
    (h : ∀ K' : Act → World → Prop, Shut (∀ a w, (i ≠ L → S w) → wpAnyF P md ops Q S L fuel (listed.setIfInBounds i true) a w → K' a w) → if Region.wanted o (yielded ops a.tmps) = true then Oper.wp P o a w K' Q else K' (a.put o.dst undef) w)
    (h2 : ∀ K' : Act → World → Prop, Shut (∀ a w, (j ≠ L → S w) → wpAnyF P md ops Q S L fuel (listed.setIfInBounds j true) a w → K' a w) → if Region.wanted o2 (yielded ops a.tmps) = true then Oper.wp P o2 a w K' Q else K' (a.put o2.dst undef) w) : wpAnyF P md ops Q S L (fuel + 1) listed a w := by
  rw [Array.getElem?_toList] at ho ho2
  refine ⟨fun h0 => absurd (hr ▸ h0) (by simp), fun k hk => ?_⟩
  rw [hr] at hk
  rcases List.mem_cons.1 hk with rfl | hk
  · exact wpOp_step ho (fun K' hK => h K' (fun a w h1 h2 => hK a w ⟨h1, h2⟩))
  · have : k = j := by simpa using hk
    subst this
    exact wpOp_step ho2 (fun K' hK => h2 K' (fun a w h1 h2 => hK a w ⟨h1, h2⟩))
end
/-- The one mark, in a row just made. -/
theorem mks_one (w : World) : MkS (w.alloc (Obj.cells #[Value.int .i64 3, .bool true] 50)) (.slice (some ⟨w.heap.size, 0, Option.none⟩) 1 1) [(3, true)] := by
  have hg := heap_alloc_new w (Obj.cells #[Value.int .i64 3, .bool true] 50)
  refine ⟨_, 1, rfl, by decide, by unfold maxLen; omega, .inr ⟨w.heap.size, 0, rfl, by simp, fun i e he => ?_⟩⟩
  match i, he with
  | 0, he =>
    simp at he; subst he
    exact ⟨by rw [cell_of_row _ _ _ _ _ _ hg]; rfl, by rw [cell_of_row _ _ _ _ _ _ hg]; rfl⟩
  | n + 1, he => simp at he
theorem new_one (t : Int) (u : Value) (w : World) (hs : MkS w u [(3, true)]) : Calls Try.prog 22 #[.int .i64 t, u] w fun e w' => ∃ p c, e = .returned (.agg #[.int .i64 t, .slice p 1 c]) ∧ MkS w' (.slice p 1 c) [(3, true)] ∧ Below w.heap.size w w' := by
  refine (new_any t [(3, true)] u w hs (by decide)).mono ?_
  rintro e w' ⟨v', rfl, hm, hb⟩
  rw [awz_nrm] at hm
  obtain ⟨p, c, rfl, _⟩ := id hm
  exact ⟨p, c, rfl, hm, hb⟩
theorem awz_es (w : World) (pa pb : Option Addr) (ca cb : Nat) (ha : MkS w (.slice pa 1 ca) [(3, true)]) (hb : MkS w (.slice pb 1 cb) [(3, true)]) :
    EvS (w.alloc (Obj.cells #[Value.int .i64 0, Value.slice pa 1 ca, Value.int .i64 1, Value.slice pb 1 cb] 38)) (.slice (some ⟨w.heap.size, 0, Option.none⟩) 2 2) awz := by
  have hba := below_alloc w (Obj.cells #[Value.int .i64 0, Value.slice pa 1 ca, Value.int .i64 1, Value.slice pb 1 cb] 38)
  have hga := heap_alloc_new w (Obj.cells #[Value.int .i64 0, Value.slice pa 1 ca, Value.int .i64 1, Value.slice pb 1 cb] 38)
  refine ⟨_, 2, rfl, by decide, by unfold maxLen; omega, .inr ⟨w.heap.size, 0, rfl, by simp, fun i e he => ?_⟩⟩
  match i, he with
  | 0, he =>
    simp [awz] at he; subst he
    exact ⟨by rw [cell_of_row _ _ _ _ _ _ hga]; rfl, .slice pa 1 ca, by rw [cell_of_row _ _ _ _ _ _ hga]; rfl, ha.kept hba⟩
  | 1, he =>
    simp [awz] at he; subst he
    exact ⟨by rw [cell_of_row _ _ _ _ _ _ hga]; rfl, .slice pb 1 cb, by rw [cell_of_row _ _ _ _ _ _ hga]; rfl, hb.kept hba⟩
  | n + 2, he => simp [awz] at he

set_option maxRecDepth 100000 in
set_option maxHeartbeats 16000000 in
theorem awC : AwC := by
  intro w
  obtain ⟨M, hM⟩ : ∃ M, w.heap.size = M := ⟨_, rfl⟩
  have hg0 := heap_alloc_new w (Obj.cells #[Value.int .i64 3, .bool true] 50)
  have hb0 := below_alloc w (Obj.cells #[Value.int .i64 3, .bool true] 50)
  obtain ⟨w1, hw1⟩ : ∃ w1, w.alloc (Obj.cells #[Value.int .i64 3, .bool true] 50) = w1 := ⟨_, rfl⟩
  rw [hw1] at hg0 hb0
  rw [hM] at hg0
  have hCELL : ∀ W, Below w1.heap.size w1 W → W.cell? ⟨M, 0, Option.none⟩ = some (.int .i64 3) ∧ W.cell? ⟨M, 1, Option.none⟩ = some (.bool true) := fun W k => by
    have h := (k.block M (lt_of_block hg0)).trans hg0
    exact ⟨by rw [cell_of_row _ _ _ _ _ _ h]; rfl, by rw [cell_of_row _ _ _ _ _ _ h]; rfl⟩
  have HCELL := Lib.hid hCELL
  have HB0 : Hid (Below M w w1) := Lib.hid (by rw [← hM]; exact hb0)
  have HB1 : Hid (Below w1.heap.size w1 w1.drew) := Lib.hid ⟨rfl, rfl, rfl, Nat.le_refl _, fun _ _ => rfl⟩
  have hM1 : M ≤ w1.heap.size := by rw [← hM]; exact hb0.size
  have HM := Lib.hid hM
  have HM1 := Lib.hid hM1
  obtain ⟨c1, c2⟩ := hCELL w1 (Below.refl _ _)
  have hS0 := hCELL w1.drew HB1.out
  clear hg0 hb0 hCELL
  go_enter Try.func7, Try.ntmps7
  go_wp2_with fail
  refine wp_region_lapse (by kernel_rfl) (fun w' => w'.cell? ⟨M, 0, Option.none⟩ = some (.int .i64 3) ∧ w'.cell? ⟨M, 1, Option.none⟩ = some (.bool true)) 7 ?_
  obtain ⟨wd, hwd⟩ : ∃ wd, w1.drew = wd := ⟨_, rfl⟩
  rw [hwd] at hS0 HB1 ⊢
  clear hwd
  refine wpAnyF_take (i := 0) (v := ?v2x0) rfl (by kernel_rfl) (by kernel_rfl) (by kernel_rfl) (by kernel_rfl) (fun _ _ _ h => h) (Or.inl ⟨by rfl, ?h2x0⟩) hS0 ?_
  case h2x0 => (intro w hSw; (try dsimp only at hSw); obtain ⟨z1, z2⟩ := hSw; go_simp; try with_reducible rfl)
  try simp only [Act.put, List.setIfInBounds_toArray, List.set_cons_zero, List.set_cons_succ]
  refine wpAnyF_take (i := 3) (v := ?v2x3) rfl (by kernel_rfl) (by kernel_rfl) (by kernel_rfl) (by kernel_rfl) (fun _ _ _ h => h) (Or.inl ⟨by rfl, ?h2x3⟩) hS0 ?_
  case h2x3 => (intro w hSw; (try dsimp only at hSw); obtain ⟨z1, z2⟩ := hSw; go_simp; try with_reducible rfl)
  try simp only [Act.put, List.setIfInBounds_toArray, List.set_cons_zero, List.set_cons_succ]
  refine wpAnyF_two (i := 1) (j := 4) (by kernel_rfl) rfl rfl (fun K hK => ?_) (fun K hK => ?_)
  · have hal := below_alloc wd (Obj.cells #[Value.int .i64 3, .bool true] 50)
    have HBx1 : Hid (Below w1.heap.size w1 (wd.alloc (Obj.cells #[Value.int .i64 3, .bool true] 50))) := Lib.hid (HB1.out.trans (hal.mono HB1.out.size))
    have HAx1 := Lib.hid (mks_one wd)
    clear hal
    go_simp
    generalize hqx1 : wd.alloc (Obj.cells #[Value.int .i64 3, .bool true] 50) = x1 at *
    have hSx1 := HCELL.out x1 HBx1.out
    obtain ⟨gx1, hgx1⟩ : ∃ g, wd.heap.size = g := ⟨_, rfl⟩
    rw [hgx1] at HAx1 ⊢
    clear hqx1 hgx1
    refine hK.out _ _ (fun hne => hSx1) ?_
    clear hK K
    try simp only [Act.put, List.setIfInBounds_toArray, List.set_cons_zero, List.set_cons_succ]
    refine wpAnyF_two (i := 2) (j := 4) (by kernel_rfl) rfl rfl (fun K hK => ?_) (fun K hK => ?_)
    · have HNx2 := Lib.hid (new_one 0 _ x1 HAx1.out)
      go_simp
      go_at_call 22
      refine HNx2.out.mono ?_
      rintro e x2 ⟨px2, kx2, rfl, hm, hb⟩
      have HEx2 := Lib.hid hm
      have HBx2 : Hid (Below w1.heap.size w1 x2) := Lib.hid (HBx1.out.trans (hb.mono HBx1.out.size))
      have HAx2 := Lib.hid (HAx1.out.kept hb)
      have hSx2 := HCELL.out x2 HBx2.out
      clear hm hb
      refine hK.out _ _ (fun hne => hSx2) ?_
      clear hK K
      try simp only [Act.put, List.setIfInBounds_toArray, List.set_cons_zero, List.set_cons_succ]
      refine wpAnyF_one (i := 4) (by kernel_rfl) rfl (fun K hK => ?_)
      have hal := below_alloc x2 (Obj.cells #[Value.int .i64 3, .bool true] 50)
      have HBx3 : Hid (Below w1.heap.size w1 (x2.alloc (Obj.cells #[Value.int .i64 3, .bool true] 50))) := Lib.hid (HBx2.out.trans (hal.mono HBx2.out.size))
      have HAx3 := Lib.hid (HAx2.out.kept hal)
      have HEx3 := Lib.hid (HEx2.out.kept hal)
      have HCx3 := Lib.hid (mks_one x2)
      clear hal
      go_simp
      generalize hqx3 : x2.alloc (Obj.cells #[Value.int .i64 3, .bool true] 50) = x3 at *
      have hSx3 := HCELL.out x3 HBx3.out
      obtain ⟨gx3, hgx3⟩ : ∃ g, x2.heap.size = g := ⟨_, rfl⟩
      rw [hgx3] at HCx3 ⊢
      clear hqx3 hgx3
      refine hK.out _ _ (fun hne => hSx3) ?_
      clear hK K
      try simp only [Act.put, List.setIfInBounds_toArray, List.set_cons_zero, List.set_cons_succ]
      refine wpAnyF_one (i := 5) (by kernel_rfl) rfl (fun K hK => ?_)
      have HNx4 := Lib.hid (new_one 1 _ x3 HCx3.out)
      go_simp
      go_at_call 22
      refine HNx4.out.mono ?_
      rintro e x4 ⟨px4, kx4, rfl, hm, hb⟩
      have HFx4 := Lib.hid hm
      have HBx4 : Hid (Below w1.heap.size w1 x4) := Lib.hid (HBx3.out.trans (hb.mono HBx3.out.size))
      have HAx4 := Lib.hid (HAx3.out.kept hb)
      have HEx4 := Lib.hid (HEx3.out.kept hb)
      have HCx4 := Lib.hid (HCx3.out.kept hb)
      have hSx4 := HCELL.out x4 HBx4.out
      clear hm hb
      refine hK.out _ _ (fun hne => hSx4) ?_
      clear hK K
      try simp only [Act.put, List.setIfInBounds_toArray, List.set_cons_zero, List.set_cons_succ]
      refine wpAnyF_one (i := 6) (by kernel_rfl) rfl (fun K hK => ?_)
      go_simp
      have hal := below_alloc x4 (Obj.cells #[Value.int .i64 0, Value.slice px2 1 kx2, Value.int .i64 1, Value.slice px4 1 kx4] 38)
      have HBE : Hid (Below w1.heap.size w1 (x4.alloc (Obj.cells #[Value.int .i64 0, Value.slice px2 1 kx2, Value.int .i64 1, Value.slice px4 1 kx4] 38))) := Lib.hid (HBx4.out.trans (hal.mono HBx4.out.size))
      have HES := Lib.hid (awz_es x4 px2 px4 kx2 kx4 HEx4.out HFx4.out)
      have hSe := HCELL.out _ HBE.out
      have HRA := Lib.hid (all_o kpO newO befO awz _ _ HES.out awz_k)
      clear hal
      refine hK.out _ _ (fun hne => hSe) ?_
      clear hK K
      try simp only [Act.put, List.setIfInBounds_toArray, List.set_cons_zero, List.set_cons_succ]
      refine wpAnyF_one (i := 7) (by kernel_rfl) rfl (fun K hK => ?_)
      go_simp
      refine hK.out _ _ (fun hne => absurd rfl hne) ?_
      clear hK K
      try simp only [Act.put, List.setIfInBounds_toArray, List.set_cons_zero, List.set_cons_succ]
      refine wpAnyF_done (by kernel_rfl) ?_ _
      go_wp2_with (go_at_call 11; refine Hid.out ?_)
      refine Lib.hid ?_
      refine HRA.out.mono ?_
      rintro e w3 ⟨v3, rfl, hrc, hb3⟩
      have HB3 : Hid (Below w1.heap.size w1 w3) := Lib.hid (HBE.out.trans (hb3.mono HBE.out.size))
      have HES3 := Lib.hid (HES.out.kept hb3)
      rw [awz_rac'] at hrc
      obtain ⟨p3, c3, rfl, hc3, hr3⟩ := hrc
      obtain ⟨b3, o3, rfl, _, hr3⟩ : ∃ b o, p3 = some ⟨b, o, Option.none⟩ ∧ b < w3.heap.size ∧ ∀ (i : Nat) (q : Nat × Nat), ([(0, 1)] : List (Nat × Nat))[i]? = some q → w3.cell? ⟨b, o + i * 2, Option.none⟩ = some (.int .i64 (q.1 : Int)) ∧ w3.cell? ⟨b, o + i * 2 + 1, Option.none⟩ = some (.int .i64 (q.2 : Int)) := by
        rcases hr3 with ⟨_, h⟩ | h
        · simp at h
        · exact h
      obtain ⟨k0, k1⟩ := hr3 0 (0, 1) rfl
      simp only [Nat.zero_mul, Nat.add_zero] at k0 k1
      have HTU := Lib.hid (turned_o awz 0 1 _ w3 HES3.out awz_k)
      clear hb3 hr3 HRA HES hc3
      go_wp2_with (go_at_call 13; refine Hid.out ?_)
      refine Lib.hid ?_
      refine HTU.out.mono ?_
      rintro e w4 ⟨v4, rfl, hev4, hb4⟩
      have HB4 : Hid (Below w1.heap.size w1 w4) := Lib.hid (HB3.out.trans (hb4.mono HB3.out.size))
      obtain ⟨p4, c4, rfl, _⟩ := hev4
      rw [awz_tr] at *
      have HAW := Lib.hid (awB w4)
      clear hb4 k0 k1 HTU
      go_wp2_with (go_at_call 23; refine Hid.out ?_)
      refine Lib.hid ?_
      refine HAW.out.mono ?_
      rintro e w9 ⟨rfl, hb⟩
      have HB9 : Hid (Below M w w9) := Lib.hid (HB0.out.trans ((HB4.out.trans (hb.mono HB4.out.size)).mono HM1.out))
      clear hb
      go_wp2
      go_ret
      exact ⟨rfl, by first | exact HB9.out | (rw [HM.out]; exact HB9.out)⟩
    · have hal := below_alloc x1 (Obj.cells #[Value.int .i64 3, .bool true] 50)
      have HBx5 : Hid (Below w1.heap.size w1 (x1.alloc (Obj.cells #[Value.int .i64 3, .bool true] 50))) := Lib.hid (HBx1.out.trans (hal.mono HBx1.out.size))
      have HAx5 := Lib.hid (HAx1.out.kept hal)
      have HCx5 := Lib.hid (mks_one x1)
      clear hal
      go_simp
      generalize hqx5 : x1.alloc (Obj.cells #[Value.int .i64 3, .bool true] 50) = x5 at *
      have hSx5 := HCELL.out x5 HBx5.out
      obtain ⟨gx5, hgx5⟩ : ∃ g, x1.heap.size = g := ⟨_, rfl⟩
      rw [hgx5] at HCx5 ⊢
      clear hqx5 hgx5
      refine hK.out _ _ (fun hne => hSx5) ?_
      clear hK K
      try simp only [Act.put, List.setIfInBounds_toArray, List.set_cons_zero, List.set_cons_succ]
      refine wpAnyF_one (i := 2) (by kernel_rfl) rfl (fun K hK => ?_)
      have HNx6 := Lib.hid (new_one 0 _ x5 HAx5.out)
      go_simp
      go_at_call 22
      refine HNx6.out.mono ?_
      rintro e x6 ⟨px6, kx6, rfl, hm, hb⟩
      have HEx6 := Lib.hid hm
      have HBx6 : Hid (Below w1.heap.size w1 x6) := Lib.hid (HBx5.out.trans (hb.mono HBx5.out.size))
      have HAx6 := Lib.hid (HAx5.out.kept hb)
      have HCx6 := Lib.hid (HCx5.out.kept hb)
      have hSx6 := HCELL.out x6 HBx6.out
      clear hm hb
      refine hK.out _ _ (fun hne => hSx6) ?_
      clear hK K
      try simp only [Act.put, List.setIfInBounds_toArray, List.set_cons_zero, List.set_cons_succ]
      refine wpAnyF_one (i := 5) (by kernel_rfl) rfl (fun K hK => ?_)
      have HNx7 := Lib.hid (new_one 1 _ x6 HCx6.out)
      go_simp
      go_at_call 22
      refine HNx7.out.mono ?_
      rintro e x7 ⟨px7, kx7, rfl, hm, hb⟩
      have HFx7 := Lib.hid hm
      have HBx7 : Hid (Below w1.heap.size w1 x7) := Lib.hid (HBx6.out.trans (hb.mono HBx6.out.size))
      have HAx7 := Lib.hid (HAx6.out.kept hb)
      have HCx7 := Lib.hid (HCx6.out.kept hb)
      have HEx7 := Lib.hid (HEx6.out.kept hb)
      have hSx7 := HCELL.out x7 HBx7.out
      clear hm hb
      refine hK.out _ _ (fun hne => hSx7) ?_
      clear hK K
      try simp only [Act.put, List.setIfInBounds_toArray, List.set_cons_zero, List.set_cons_succ]
      refine wpAnyF_one (i := 6) (by kernel_rfl) rfl (fun K hK => ?_)
      go_simp
      have hal := below_alloc x7 (Obj.cells #[Value.int .i64 0, Value.slice px6 1 kx6, Value.int .i64 1, Value.slice px7 1 kx7] 38)
      have HBE : Hid (Below w1.heap.size w1 (x7.alloc (Obj.cells #[Value.int .i64 0, Value.slice px6 1 kx6, Value.int .i64 1, Value.slice px7 1 kx7] 38))) := Lib.hid (HBx7.out.trans (hal.mono HBx7.out.size))
      have HES := Lib.hid (awz_es x7 px6 px7 kx6 kx7 HEx7.out HFx7.out)
      have hSe := HCELL.out _ HBE.out
      have HRA := Lib.hid (all_o kpO newO befO awz _ _ HES.out awz_k)
      clear hal
      refine hK.out _ _ (fun hne => hSe) ?_
      clear hK K
      try simp only [Act.put, List.setIfInBounds_toArray, List.set_cons_zero, List.set_cons_succ]
      refine wpAnyF_one (i := 7) (by kernel_rfl) rfl (fun K hK => ?_)
      go_simp
      refine hK.out _ _ (fun hne => absurd rfl hne) ?_
      clear hK K
      try simp only [Act.put, List.setIfInBounds_toArray, List.set_cons_zero, List.set_cons_succ]
      refine wpAnyF_done (by kernel_rfl) ?_ _
      go_wp2_with (go_at_call 11; refine Hid.out ?_)
      refine Lib.hid ?_
      refine HRA.out.mono ?_
      rintro e w3 ⟨v3, rfl, hrc, hb3⟩
      have HB3 : Hid (Below w1.heap.size w1 w3) := Lib.hid (HBE.out.trans (hb3.mono HBE.out.size))
      have HES3 := Lib.hid (HES.out.kept hb3)
      rw [awz_rac'] at hrc
      obtain ⟨p3, c3, rfl, hc3, hr3⟩ := hrc
      obtain ⟨b3, o3, rfl, _, hr3⟩ : ∃ b o, p3 = some ⟨b, o, Option.none⟩ ∧ b < w3.heap.size ∧ ∀ (i : Nat) (q : Nat × Nat), ([(0, 1)] : List (Nat × Nat))[i]? = some q → w3.cell? ⟨b, o + i * 2, Option.none⟩ = some (.int .i64 (q.1 : Int)) ∧ w3.cell? ⟨b, o + i * 2 + 1, Option.none⟩ = some (.int .i64 (q.2 : Int)) := by
        rcases hr3 with ⟨_, h⟩ | h
        · simp at h
        · exact h
      obtain ⟨k0, k1⟩ := hr3 0 (0, 1) rfl
      simp only [Nat.zero_mul, Nat.add_zero] at k0 k1
      have HTU := Lib.hid (turned_o awz 0 1 _ w3 HES3.out awz_k)
      clear hb3 hr3 HRA HES hc3
      go_wp2_with (go_at_call 13; refine Hid.out ?_)
      refine Lib.hid ?_
      refine HTU.out.mono ?_
      rintro e w4 ⟨v4, rfl, hev4, hb4⟩
      have HB4 : Hid (Below w1.heap.size w1 w4) := Lib.hid (HB3.out.trans (hb4.mono HB3.out.size))
      obtain ⟨p4, c4, rfl, _⟩ := hev4
      rw [awz_tr] at *
      have HAW := Lib.hid (awB w4)
      clear hb4 k0 k1 HTU
      go_wp2_with (go_at_call 23; refine Hid.out ?_)
      refine Lib.hid ?_
      refine HAW.out.mono ?_
      rintro e w9 ⟨rfl, hb⟩
      have HB9 : Hid (Below M w w9) := Lib.hid (HB0.out.trans ((HB4.out.trans (hb.mono HB4.out.size)).mono HM1.out))
      clear hb
      go_wp2
      go_ret
      exact ⟨rfl, by first | exact HB9.out | (rw [HM.out]; exact HB9.out)⟩
  · have hal := below_alloc wd (Obj.cells #[Value.int .i64 3, .bool true] 50)
    have HBx8 : Hid (Below w1.heap.size w1 (wd.alloc (Obj.cells #[Value.int .i64 3, .bool true] 50))) := Lib.hid (HB1.out.trans (hal.mono HB1.out.size))
    have HCx8 := Lib.hid (mks_one wd)
    clear hal
    go_simp
    generalize hqx8 : wd.alloc (Obj.cells #[Value.int .i64 3, .bool true] 50) = x8 at *
    have hSx8 := HCELL.out x8 HBx8.out
    obtain ⟨gx8, hgx8⟩ : ∃ g, wd.heap.size = g := ⟨_, rfl⟩
    rw [hgx8] at HCx8 ⊢
    clear hqx8 hgx8
    refine hK.out _ _ (fun hne => hSx8) ?_
    clear hK K
    try simp only [Act.put, List.setIfInBounds_toArray, List.set_cons_zero, List.set_cons_succ]
    refine wpAnyF_one (i := 1) (by kernel_rfl) rfl (fun K hK => ?_)
    have hal := below_alloc x8 (Obj.cells #[Value.int .i64 3, .bool true] 50)
    have HBx9 : Hid (Below w1.heap.size w1 (x8.alloc (Obj.cells #[Value.int .i64 3, .bool true] 50))) := Lib.hid (HBx8.out.trans (hal.mono HBx8.out.size))
    have HCx9 := Lib.hid (HCx8.out.kept hal)
    have HAx9 := Lib.hid (mks_one x8)
    clear hal
    go_simp
    generalize hqx9 : x8.alloc (Obj.cells #[Value.int .i64 3, .bool true] 50) = x9 at *
    have hSx9 := HCELL.out x9 HBx9.out
    obtain ⟨gx9, hgx9⟩ : ∃ g, x8.heap.size = g := ⟨_, rfl⟩
    rw [hgx9] at HAx9 ⊢
    clear hqx9 hgx9
    refine hK.out _ _ (fun hne => hSx9) ?_
    clear hK K
    try simp only [Act.put, List.setIfInBounds_toArray, List.set_cons_zero, List.set_cons_succ]
    refine wpAnyF_one (i := 2) (by kernel_rfl) rfl (fun K hK => ?_)
    have HNx10 := Lib.hid (new_one 0 _ x9 HAx9.out)
    go_simp
    go_at_call 22
    refine HNx10.out.mono ?_
    rintro e x10 ⟨px10, kx10, rfl, hm, hb⟩
    have HEx10 := Lib.hid hm
    have HBx10 : Hid (Below w1.heap.size w1 x10) := Lib.hid (HBx9.out.trans (hb.mono HBx9.out.size))
    have HCx10 := Lib.hid (HCx9.out.kept hb)
    have HAx10 := Lib.hid (HAx9.out.kept hb)
    have hSx10 := HCELL.out x10 HBx10.out
    clear hm hb
    refine hK.out _ _ (fun hne => hSx10) ?_
    clear hK K
    try simp only [Act.put, List.setIfInBounds_toArray, List.set_cons_zero, List.set_cons_succ]
    refine wpAnyF_one (i := 5) (by kernel_rfl) rfl (fun K hK => ?_)
    have HNx11 := Lib.hid (new_one 1 _ x10 HCx10.out)
    go_simp
    go_at_call 22
    refine HNx11.out.mono ?_
    rintro e x11 ⟨px11, kx11, rfl, hm, hb⟩
    have HFx11 := Lib.hid hm
    have HBx11 : Hid (Below w1.heap.size w1 x11) := Lib.hid (HBx10.out.trans (hb.mono HBx10.out.size))
    have HCx11 := Lib.hid (HCx10.out.kept hb)
    have HAx11 := Lib.hid (HAx10.out.kept hb)
    have HEx11 := Lib.hid (HEx10.out.kept hb)
    have hSx11 := HCELL.out x11 HBx11.out
    clear hm hb
    refine hK.out _ _ (fun hne => hSx11) ?_
    clear hK K
    try simp only [Act.put, List.setIfInBounds_toArray, List.set_cons_zero, List.set_cons_succ]
    refine wpAnyF_one (i := 6) (by kernel_rfl) rfl (fun K hK => ?_)
    go_simp
    have hal := below_alloc x11 (Obj.cells #[Value.int .i64 0, Value.slice px10 1 kx10, Value.int .i64 1, Value.slice px11 1 kx11] 38)
    have HBE : Hid (Below w1.heap.size w1 (x11.alloc (Obj.cells #[Value.int .i64 0, Value.slice px10 1 kx10, Value.int .i64 1, Value.slice px11 1 kx11] 38))) := Lib.hid (HBx11.out.trans (hal.mono HBx11.out.size))
    have HES := Lib.hid (awz_es x11 px10 px11 kx10 kx11 HEx11.out HFx11.out)
    have hSe := HCELL.out _ HBE.out
    have HRA := Lib.hid (all_o kpO newO befO awz _ _ HES.out awz_k)
    clear hal
    refine hK.out _ _ (fun hne => hSe) ?_
    clear hK K
    try simp only [Act.put, List.setIfInBounds_toArray, List.set_cons_zero, List.set_cons_succ]
    refine wpAnyF_one (i := 7) (by kernel_rfl) rfl (fun K hK => ?_)
    go_simp
    refine hK.out _ _ (fun hne => absurd rfl hne) ?_
    clear hK K
    try simp only [Act.put, List.setIfInBounds_toArray, List.set_cons_zero, List.set_cons_succ]
    refine wpAnyF_done (by kernel_rfl) ?_ _
    go_wp2_with (go_at_call 11; refine Hid.out ?_)
    refine Lib.hid ?_
    refine HRA.out.mono ?_
    rintro e w3 ⟨v3, rfl, hrc, hb3⟩
    have HB3 : Hid (Below w1.heap.size w1 w3) := Lib.hid (HBE.out.trans (hb3.mono HBE.out.size))
    have HES3 := Lib.hid (HES.out.kept hb3)
    rw [awz_rac'] at hrc
    obtain ⟨p3, c3, rfl, hc3, hr3⟩ := hrc
    obtain ⟨b3, o3, rfl, _, hr3⟩ : ∃ b o, p3 = some ⟨b, o, Option.none⟩ ∧ b < w3.heap.size ∧ ∀ (i : Nat) (q : Nat × Nat), ([(0, 1)] : List (Nat × Nat))[i]? = some q → w3.cell? ⟨b, o + i * 2, Option.none⟩ = some (.int .i64 (q.1 : Int)) ∧ w3.cell? ⟨b, o + i * 2 + 1, Option.none⟩ = some (.int .i64 (q.2 : Int)) := by
      rcases hr3 with ⟨_, h⟩ | h
      · simp at h
      · exact h
    obtain ⟨k0, k1⟩ := hr3 0 (0, 1) rfl
    simp only [Nat.zero_mul, Nat.add_zero] at k0 k1
    have HTU := Lib.hid (turned_o awz 0 1 _ w3 HES3.out awz_k)
    clear hb3 hr3 HRA HES hc3
    go_wp2_with (go_at_call 13; refine Hid.out ?_)
    refine Lib.hid ?_
    refine HTU.out.mono ?_
    rintro e w4 ⟨v4, rfl, hev4, hb4⟩
    have HB4 : Hid (Below w1.heap.size w1 w4) := Lib.hid (HB3.out.trans (hb4.mono HB3.out.size))
    obtain ⟨p4, c4, rfl, _⟩ := hev4
    rw [awz_tr] at *
    have HAW := Lib.hid (awB w4)
    clear hb4 k0 k1 HTU
    go_wp2_with (go_at_call 23; refine Hid.out ?_)
    refine Lib.hid ?_
    refine HAW.out.mono ?_
    rintro e w9 ⟨rfl, hb⟩
    have HB9 : Hid (Below M w w9) := Lib.hid (HB0.out.trans ((HB4.out.trans (hb.mono HB4.out.size)).mono HM1.out))
    clear hb
    go_wp2
    go_ret
    exact ⟨rfl, by first | exact HB9.out | (rw [HM.out]; exact HB9.out)⟩
end Go.Proofs.Ytcbpkagegdfidaa
