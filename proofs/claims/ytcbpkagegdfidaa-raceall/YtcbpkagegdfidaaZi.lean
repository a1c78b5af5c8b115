/- braid.Initials: the threads whose first event can come first. -/
import Derived.Test.YtcbpkagegdfidaaIz
import Derived.Test.YtcbpkagegdfidaaHl
import Derived.Deep.RegionHeld3
import Derived.BigRegion
set_option linter.unusedSimpArgs false
set_option linter.unusedVariables false
namespace Go.Proofs.Ytcbpkagegdfidaa
open Go.RowKit

set_option maxRecDepth 100000 in
set_option maxHeartbeats 8000000 in
/-- slices.IndexFunc of events, at any closure. -/
theorem indexe_any (pr : Int × List (Int × Bool) → Bool) (g : Nat) (lb : Array Value) (eg : ∀ args w, (callFunc g args).run Try.prog w = .ok (.enter g args) w) (L : Evl) (v : Value) (w : World) (hs : EvS w v L) (hl : L.length ≤ 1000)
    (hp : ∀ W u e, Below w.heap.size w W → MkS W u e.2 → e ∈ L → Calls Try.prog g (#[.agg #[.int .i64 e.1, u]] ++ lb) W fun r w' => r = .returned (.bool (pr e)) ∧ Below W.heap.size W w') :
    Calls Try.prog 70 #[v, .func (.func g) #[] lb] w fun e w' => (∃ r : Int, e = .returned (.int .i64 r) ∧ (0 ≤ r ↔ L.any pr = true)) ∧ Below w.heap.size w w' := by
  have HP := Lib.hid hp
  obtain ⟨p, cap, rfl, hcap, hcm, h4⟩ := hs
  obtain ⟨N, hN⟩ : ∃ N, L.length = N := ⟨_, rfl⟩
  rw [hN] at hcap hl ⊢
  have HN := Lib.hid hN
  have H4 := Lib.hid h4
  clear hp hN h4
  go_enter Try.func70, Try.ntmps70
  go_wp2
  go_loopw [8] (fun s wr => ∃ (j : Nat), s = .int .i64 (j : Int) ∧ j ≤ N ∧ (L.take j).any pr = false ∧ Below w.heap.size w wr) (fun s _ => N - (intOf s).toNat)
  case atStart => exact ⟨0, rfl, by omega, by simp, Below.refl _ _⟩
  case round =>
    obtain ⟨j, rfl, hj, hn', hb⟩ := hrel
    have HNT := Lib.hid hn'
    have HB := Lib.hid hb
    clear hn' hb
    by_cases hlt : j < N
    · obtain ⟨z, hz⟩ : ∃ z, L[j]? = some z := ⟨_, List.getElem?_eq_getElem (by rw [HN.out]; exact hlt)⟩
      obtain ⟨b, o, rfl, hbb, hr⟩ : ∃ b o, p = some ⟨b, o, Option.none⟩ ∧ b < w.heap.size ∧ EvR w b o L := by
        rcases H4.out with ⟨_, e⟩ | h
        · rw [e] at hz; simp at hz
        · exact h
      obtain ⟨qz, mz, cz, hzc⟩ := hr.at hbb hz
      obtain ⟨c1, c2, hmk⟩ := hzc wr HB.out
      have hml : (j : Int) < (N : Int) := by omega
      have hcall := HP.out wr _ z HB.out hmk (List.mem_of_getElem? hz)
      have hst : (L.take (j + 1)).any pr = pr z := by
        rw [show L.take (j + 1) = L.take j ++ (L[j]?).toList from List.take_add_one, hz, List.any_append, HNT.out]
        simp
      obtain ⟨d, hd⟩ : ∃ d, pr z = d := ⟨_, rfl⟩
      rw [hd] at hcall hst
      have HC := Lib.hid hcall
      have HST := Lib.hid hst
      have HM : Hid (d = true → L.any pr = true) := Lib.hid fun h => List.any_eq_true.2 ⟨z, List.mem_of_getElem? hz, by rw [hd, h]⟩
      clear hzc hr hz hmk hcall hst hd
      cases d with
      | true =>
        go_wp2_with (go_at_fn g; refine HC.out.mono ?_; rintro e w' ⟨rfl, hb2⟩)
        have HB2 := Lib.hid (HB.out.trans (hb2.mono HB.out.size))
        clear hb2
        go_wp2
        go_ret
        exact ⟨⟨(j : Int), rfl, ⟨fun _ => HM.out trivial, fun _ => by omega⟩⟩, HB2.out⟩
      | false =>
        go_wp2_with (go_at_fn g; refine HC.out.mono ?_; rintro e w' ⟨rfl, hb2⟩)
        have HB2 := Lib.hid (HB.out.trans (hb2.mono HB.out.size))
        clear hb2 c1 c2
        go_wp2
        go_roundw
        case rel => exact ⟨j + 1, by go_num, by omega, HST.out, HB2.out⟩
        case measure => simp [intOf]; omega
    · have hn : L.any pr = false := by have := HNT.out; rwa [List.take_of_length_le (by rw [HN.out]; omega)] at this
      have HN2 := Lib.hid hn
      clear hn
      go_wp2
      go_ret
      exact ⟨⟨-1, rfl, ⟨fun h => by omega, fun h => by rw [HN2.out] at h; cases h⟩⟩, HB.out⟩
set_option maxHeartbeats 2000000 in
theorem containse_any (pr : Int × List (Int × Bool) → Bool) (g : Nat) (lb : Array Value) (eg : ∀ args w, (callFunc g args).run Try.prog w = .ok (.enter g args) w) (L : Evl) (v : Value) (w : World) (hs : EvS w v L) (hl : L.length ≤ 1000)
    (hp : ∀ W u e, Below w.heap.size w W → MkS W u e.2 → e ∈ L → Calls Try.prog g (#[.agg #[.int .i64 e.1, u]] ++ lb) W fun r w' => r = .returned (.bool (pr e)) ∧ Below W.heap.size W w') :
    Calls Try.prog 57 #[v, .func (.func g) #[] lb] w fun e w' => e = .returned (.bool (L.any pr)) ∧ Below w.heap.size w w' := by
  have HI := Lib.hid (indexe_any pr g lb eg L v w hs hl hp)
  clear hs hp
  go_enter Try.func57, Try.ntmps57
  go_wp2_with (go_at_call 70; refine Hid.out ?_)
  refine Lib.hid ?_
  refine HI.out.mono ?_
  rintro e w1 ⟨⟨r, rfl, hr⟩, hb⟩
  have HB := Lib.hid hb
  clear hb
  by_cases h : 0 ≤ r
  · have HM := Lib.hid (hr.1 h)
    clear hr
    go_wp2
    go_ret
    exact ⟨by rw [HM.out]; simp, HB.out⟩
  · have HM : Hid (L.any pr = false) := Lib.hid (by rw [← Bool.not_eq_true]; exact fun hn => h (hr.2 hn))
    clear hr
    go_wp2
    go_ret
    exact ⟨by rw [HM.out]; simp; omega, HB.out⟩
theorem eg51 : ∀ args w, (callFunc 58 args).run Try.prog w = .ok (.enter 58 args) w := enters_of Try.func58 (by kernel_rfl) rfl
set_option maxHeartbeats 2000000 in
/-- The closure of free: does an event depend on the one that it holds? -/
theorem cls51 (e f : Int × List (Int × Bool)) (u vf : Value) (X : Nat) (W : World) (h0 : W.cell? ⟨X, 0, Option.none⟩ = some (.int .i64 f.1)) (h1 : W.cell? ⟨X, 1, Option.none⟩ = some vf) (he : MkS W u e.2) (hf : MkS W vf f.2) (hl : e.2.length ≤ 1000) (hl2 : f.2.length ≤ 1000) :
    Calls Try.prog 58 #[.agg #[.int .i64 e.1, u], .pointer (some ⟨X, 0, Option.none⟩)] W fun r w' => r = .returned (.bool (edep e f)) ∧ Below W.heap.size W w' := by
  obtain ⟨q, c, rfl, _⟩ := id he
  obtain ⟨q2, c2, rfl, _⟩ := id hf
  have hba := below_alloc W (Obj.cells #[Value.int .i64 e.1, .slice q e.2.length c] 38)
  have d0 := al_cell h0 (Obj.cells #[Value.int .i64 e.1, .slice q e.2.length c] 38)
  have d1 := al_cell h1 (Obj.cells #[Value.int .i64 e.1, .slice q e.2.length c] 38)
  have HC := Lib.hid (depend_at e f _ _ _ (he.kept hba) (hf.kept hba) hl hl2)
  have HBA := Lib.hid hba
  obtain ⟨d, hd⟩ : ∃ d, edep e f = d := ⟨_, rfl⟩
  rw [hd] at HC ⊢
  clear he hf hl hl2 hd hba
  generalize e.2.length = n at *
  generalize f.2.length = m at *
  go_enter Try.func58, Try.ntmps58
  go_wp2_with (go_at_call 17; refine Hid.out ?_)
  refine Lib.hid ?_
  refine HC.out.mono ?_
  rintro r w' ⟨rfl, hb⟩
  have HB := Lib.hid (HBA.out.trans (hb.mono HBA.out.size))
  clear hb
  go_wp2
  go_ret
  exact ⟨rfl, HB.out⟩
set_option maxHeartbeats 2000000 in
theorem free_o (L : Evl) (f : Int × List (Int × Bool)) (v u : Value) (w : World) (hs : EvS w v L) (hu : MkS w u f.2) (hl : L.length ≤ 1000) (h8 : ∀ e ∈ L, e.2.length ≤ 1000) (hf : f.2.length ≤ 1000) :
    Calls Try.prog 47 #[v, .agg #[.int .i64 f.1, u]] w fun r w' => r = .returned (.bool (!L.any fun a => edep a f)) ∧ Below w.heap.size w w' := by
  obtain ⟨p, cap, rfl⟩ : ∃ p cap, v = .slice p L.length cap := by
    obtain ⟨p, cap, h1, _⟩ := hs
    exact ⟨p, cap, h1⟩
  obtain ⟨q, c, rfl, _⟩ := id hu
  obtain ⟨X, hX⟩ : ∃ X, w.heap.size = X := ⟨_, rfl⟩
  have hba := below_alloc w (Obj.cells #[Value.int .i64 f.1, .slice q f.2.length c] 38)
  have hg := heap_alloc_new w (Obj.cells #[Value.int .i64 f.1, .slice q f.2.length c] 38)
  have hC := containse_any (fun a => edep a f) 58 #[.pointer (some ⟨X, 0, Option.none⟩)] eg51 L _ _ (hs.kept hba) hl (fun W z e k hz he => by
    have hgW := (k.block w.heap.size (by simp)).trans hg
    rw [hX] at hgW
    exact cls51 e f z _ X W (by rw [cell_of_row _ _ _ _ _ _ hgW]; rfl) (by rw [cell_of_row _ _ _ _ _ _ hgW]; rfl) hz (hu.kept (hba.trans (k.mono hba.size))) (h8 e he) hf)
  have HC := Lib.hid hC
  have HBA := Lib.hid hba
  have HX := Lib.hid hX
  obtain ⟨d, hd⟩ : ∃ d, (L.any fun a => edep a f) = d := ⟨_, rfl⟩
  rw [hd] at HC ⊢
  clear hs hu h8 hf hba hg hC hX hd
  generalize L.length = n at *
  generalize f.2.length = m at *
  go_enter Try.func47, Try.ntmps47
  go_wp2_with fail
  rw [HX.out]
  go_wp2_with (go_at_call 57; refine Hid.out ?_)
  refine Lib.hid ?_
  refine HC.out.mono ?_
  rintro r w' ⟨rfl, hb⟩
  have HB := Lib.hid (HBA.out.trans (hb.mono HBA.out.size))
  clear hb
  go_wp2
  go_ret
  exact ⟨rfl, HB.out⟩
end Go.Proofs.Ytcbpkagegdfidaa
