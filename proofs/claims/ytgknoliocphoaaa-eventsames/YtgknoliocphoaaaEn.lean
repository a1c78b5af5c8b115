/- EventNews: the walk. -/
import Derived.Test.YtgknoliocphoaaaAw
set_option linter.unusedSimpArgs false
set_option linter.unusedVariables false
namespace Go.Proofs.Ytgknoliocphoaaa
open Go.RowKit

theorem wr_i8 {v : Int} (h0 : -128 ≤ v) (h1 : v < 128) : IntKind.i8.wrap v = v := by
  simp [IntKind.wrap, IntKind.bits, IntKind.signed]; omega
theorem own_below' {w w2 : World} {base B : Nat} {e : TypeId} {size : Nat} {v : Value} {n : Nat} {xs : List Value} (h : w.ownsRow base e size v n xs) (hb : Below w.heap.size w w2) (_ : B ≤ w.heap.size) : w2.ownsRow base e size v n xs :=
  h.kept (row := Option.none) ⟨hb.os, hb.tape, hb.output, hb.size, fun k hk _ => hb.block k hk⟩ (by cases hv : v.ownBlock <;> simp)
set_option maxRecDepth 100000 in
set_option maxHeartbeats 4000000 in
theorem news_any (t : Int) (l : List (Int × Bool)) (v : Value) (w : World) (hs : TcS w v l) (hsm : sml l) : Calls Try.prog 3 #[.int .i64 t, v] w fun e w' => e = .returned (.bool true) ∧ Below w.heap.size w w' := by
  obtain ⟨p, cap, rfl, hcap⟩ := hs.form
  obtain ⟨A, hA⟩ : ∃ A, l.length = A := ⟨_, rfl⟩
  rw [hA] at hs hcap ⊢
  have HS := Lib.hid hs
  have HA := Lib.hid hA
  have HSM := Lib.hid hsm
  clear hs hA hsm
  go_enter Try.func3, Try.ntmps3
  go_wp2_with (go_at_call 8; refine Hid.out ?_)
  refine Lib.hid ?_
  refine (awake_any _).mono ?_
  rintro e w1 ⟨rfl, hb⟩
  have HB1 := Lib.hid hb
  clear hb
  by_cases hlen : 60 < A
  · have hl' : (60 : Int) < (A : Int) := by omega
    go_wp2
    go_ret
    exact ⟨rfl, HB1.out⟩
  · have hl' : ¬ (60 : Int) < (A : Int) := by omega
    have hm := Lib.hid (marks_any l _ w1 (HS.out.kept HB1.out) (by rw [HA.out]; omega) HSM.out)
    go_wp2_with (go_at_call 10; refine Hid.out ?_)
    refine Lib.hid ?_
    refine hm.out.mono ?_
    rintro e w2 ⟨v2, rfl, hm2, hb2⟩
    have hnw := Lib.hid (new_any t l v2 w2 hm2 (by rw [HA.out]; omega))
    have HB2 : Hid (Below w.heap.size w w2) := Lib.hid (HB1.out.trans (hb2.mono HB1.out.size))
    clear hm hm2 hb2
    go_wp2_with (go_at_call 9; refine Hid.out ?_)
    refine Lib.hid ?_
    refine hnw.out.mono ?_
    rintro e w3 ⟨v3, rfl, hm3, hb3⟩
    have HB3 : Hid (Below w.heap.size w w3) := Lib.hid (HB2.out.trans (hb3.mono HB2.out.size))
    have HM3 := Lib.hid hm3
    obtain ⟨p3, c3, e3, _⟩ := hm3
    obtain ⟨B, hB⟩ : ∃ B, (nrm l).length = B := ⟨_, rfl⟩
    rw [hB] at e3
    subst e3
    clear hnw hb3 hB
    obtain ⟨W3, hW3⟩ : ∃ W3, w3.alloc (Obj.cells #[Value.int .i64 t, .slice p3 B c3] 26) = W3 := ⟨_, rfl⟩
    have HB4 : Hid (Below w.heap.size w W3) := Lib.hid (by rw [← hW3]; exact HB3.out.alloc HB3.out.size _)
    have HM4 : Hid (MkS W3 (.slice p3 B c3) (nrm l)) := Lib.hid (by rw [← hW3]; exact HM3.out.kept (below_alloc w3 _))
    have HG : Hid (W3.heap[w3.heap.size]? = some (.cells #[Value.int .i64 t, .slice p3 B c3] 26 (0, 0))) := Lib.hid (by rw [← hW3]; exact heap_alloc_new _ _)
    have HZ : Hid (w3.heap.size < W3.heap.size) := Lib.hid (by rw [← hW3]; simp)
    have HW := Lib.hid hW3
    clear hW3
    go_wp2
    rw [HW.out]
    go_loopw [6, 7] (fun s6 s7 wr => ∃ (n : Nat) (m : Int), s7 = .int .i64 m ∧ m = (n : Int) - 128 ∧ n ≤ 256 ∧ wr.ownsRow W3.heap.size 33 2 s6 (wnt l n).length ((wnt l n).flatMap mc) ∧ Below W3.heap.size W3 wr) (fun _ s _ => (128 - intOf s).toNat)
    case atStart => exact ⟨0, -128, rfl, by omega, by omega, by simpa [wnt] using World.ownsRow_nil _ _ _ _, Below.refl _ _⟩
    case round =>
      obtain ⟨n, m, rfl, hm, hn, ho, hb⟩ := hrel
      have HO := Lib.hid ho
      have HB := Lib.hid hb
      have HM := Lib.hid hm
      clear ho hb hm
      by_cases hlt : m < 128
      · have hmn := HM.out
        have hwm : IntKind.i8.wrap m = m := wr_i8 (by omega) hlt
        have HT := Lib.hid (touches_any l m _ wr (HS.out.kept (HB4.out.trans (HB.out.mono HB4.out.size))) (by rw [HA.out]; omega))
        clear hmn
        go_wp2_with (go_at_call 11; refine Hid.out ?_)
        refine Lib.hid ?_
        refine HT.out.mono ?_
        rintro e w4 ⟨rfl, hb4⟩
        have HB4' : Hid (Below W3.heap.size W3 w4) := Lib.hid (HB.out.trans (hb4.mono HB.out.size))
        have HO4 := Lib.hid (own_below' HO.out hb4 HB.out.size)
        have hwl : IntKind.i64.wrap (m + 1) = m + 1 := by have := HM.out; rw [IntKind.wrap_i64]; omega
        have hstep : wnt l (n + 1) = wnt l n ++ (if smo l m then [(m, wro l m)] else []) := by rw [HM.out]; rfl
        clear hb4 HT hwm
        cases hsm : smo l m with
        | true =>
          rw [hsm, if_pos rfl] at hstep
          have hg2 := heap_alloc_new w4 (Obj.cells #[Value.int IntKind.i64 m, Value.bool (wro l m)] 33)
          have hwb := HB4'.out.size
          obtain ⟨v', w', hr, ho', hgr⟩ := app_mk (w4.alloc (Obj.cells #[Value.int IntKind.i64 m, Value.bool (wro l m)] 33)) W3.heap.size u6 (wnt l n) (m, wro l m) (HO4.out.alloc _) (by have := wnt_len l n; omega) (by simp; omega) ⟨w4.heap.size, 0, Option.none⟩
            (by rw [add_lit, cell_of_row _ _ _ _ _ _ hg2]; rfl) (by rw [add_lit, cell_of_row _ _ _ _ _ _ hg2]; rfl)
          have HO' : Hid (w'.ownsRow W3.heap.size 33 2 v' (wnt l (n + 1)).length ((wnt l (n + 1)).flatMap mc)) := Lib.hid (by rw [hstep]; exact ho')
          have HB' : Hid (Below W3.heap.size W3 w') := Lib.hid ((HB4'.out.alloc hwb _).grown hgr (by simp; omega) (fun k hk => (HO4.out.lt k hk).1))
          clear hg2 ho' hgr hstep
          go_wp2_with (at_builtin; refine wpList_app rfl (.tmp 31) (.tmp 35) 24 rfl _ _ v' w' rfl rfl hr ?_)
          go_wp2
          go_roundw
          case rel => exact ⟨n + 1, m + 1, rfl, by have := HM.out; omega, by have := HM.out; omega, HO'.out, HB'.out⟩
          case measure => simp [intOf]; omega
        | false =>
          rw [hsm] at hstep
          have HO' : Hid (w4.ownsRow W3.heap.size 33 2 u6 (wnt l (n + 1)).length ((wnt l (n + 1)).flatMap mc)) := Lib.hid (by rw [hstep]; simpa using HO4.out)
          clear hstep
          go_wp2
          go_roundw
          case rel => exact ⟨n + 1, m + 1, rfl, by have := HM.out; omega, by have := HM.out; omega, HO'.out, HB4'.out⟩
          case measure => simp [intOf]; omega
      · have hn256 : n = 256 := by have := HM.out; omega
        subst hn256
        have hz := HZ.out
        have g0 : wr.cell? ⟨w3.heap.size, 0, Option.none⟩ = some (.int .i64 t) := by
          rw [HB.out.cell (p := ⟨w3.heap.size, 0, Option.none⟩) hz, cell_of_row _ _ _ _ _ _ HG.out]; rfl
        have g1 : wr.cell? ⟨w3.heap.size, 1, Option.none⟩ = some (.slice p3 B c3) := by
          rw [HB.out.cell (p := ⟨w3.heap.size, 1, Option.none⟩) hz, cell_of_row _ _ _ _ _ _ HG.out]; rfl
        have hnl : (nrm l).length ≤ 1000 := by have := nrm_len l; rw [HA.out] at this; omega
        have heq := Lib.hid (equal_any (nrm l) (wnt l 256) _ u6 wr (HM4.out.kept HB.out) (mks_of_own HO.out) hnl (by have := wnt_len l 256; omega))
        clear hz hnl
        go_wp2_with (go_at_call 12; refine Hid.out ?_)
        refine Lib.hid ?_
        refine heq.out.mono ?_
        rintro e w5 ⟨rfl, hb5⟩
        have HB5 : Hid (Below w.heap.size w w5) := Lib.hid (HB4.out.trans ((HB.out.mono HB4.out.size).trans (hb5.mono (by have := HB4.out.size; have := HB.out.size; omega))))
        rw [wnt_is HSM.out, decide_eq_true rfl]
        clear hb5 heq
        go_wp2
        go_ret
        exact ⟨rfl, HB5.out⟩
end Go.Proofs.Ytgknoliocphoaaa
