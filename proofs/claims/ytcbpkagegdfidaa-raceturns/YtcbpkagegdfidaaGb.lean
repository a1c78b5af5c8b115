/- clock's Order.aheadOf: which of the earlier events happen ahead of one, as bits. -/
import Derived.Test.YtcbpkagegdfidaaBw
import Derived.Test.YtcbpkagegdfidaaGa
import Derived.Test.YtcbpkagegdfidaaEk
set_option linter.unusedSimpArgs false
set_option linter.unusedVariables false
namespace Go.Proofs.Ytcbpkagegdfidaa
open Go.RowKit

/-- A row: places as bits of no word, or of one. -/
def RwO (w : World) (u : Value) (f : Nat → Bool) (j : Nat) : Prop :=
  ∃ (B n : Nat), u = .slice (some ⟨B, 0, Option.none⟩) (rwl j) (rwl j) ∧ B < w.heap.size ∧ n < 18446744073709551616 ∧ (∀ k, n.testBit k = f k) ∧ (j ≠ 0 → w.cell? ⟨B, 0, Option.none⟩ = some (.int .u64 (n : Int)))
theorem RwO.kept {w w' : World} {u : Value} {f : Nat → Bool} {j : Nat} (h : RwO w u f j) (k : Below w.heap.size w w') : RwO w' u f j := by
  obtain ⟨B, n, h1, h2, h3, h4, h5⟩ := h
  exact ⟨B, n, h1, Nat.lt_of_lt_of_le h2 k.size, h3, h4, fun hj => (k.cell (p := ⟨B, _, Option.none⟩) h2).trans (h5 hj)⟩
/-- The rows of the first J events. -/
def ObP (w : World) (v : Value) (x : Evl) (J : Nat) : Prop :=
  ∃ p c, v = .slice p J c ∧ (J = 0 ∨ ∃ b o, p = some ⟨b, o, Option.none⟩ ∧ b < w.heap.size ∧ ∀ j, j < J → ∃ u, w.cell? ⟨b, o + j, Option.none⟩ = some u ∧ RwO w u (fun k => hbd edep x k j) j)
theorem ObP.kept {w w' : World} {v : Value} {x : Evl} {J : Nat} (h : ObP w v x J) (k : Below w.heap.size w w') : ObP w' v x J := by
  obtain ⟨p, c, h1, h2⟩ := h
  refine ⟨p, c, h1, ?_⟩
  rcases h2 with h2 | ⟨b, o, h2, h3, h4⟩
  · exact .inl h2
  · refine .inr ⟨b, o, h2, Nat.lt_of_lt_of_le h3 k.size, fun j hj => ?_⟩
    obtain ⟨u, g1, g2⟩ := h4 j hj
    exact ⟨u, (k.cell (p := ⟨b, _, Option.none⟩) h3).trans g1, g2.kept k⟩
theorem u64_info : ∃ i0, Try.prog.info? 67 = some i0 ∧ i0.zero = some (.int .u64 0) ∧ i0.size = 1 ∧ i0.bytes = 8 := info_parts (by kernel_rfl)

set_option maxRecDepth 100000 in
set_option maxHeartbeats 16000000 in
theorem aheadof_any (x : Evl) (J : Nat) (f : Int × List (Int × Bool)) (p : Option Addr) (cap : Nat) (po : Option Addr) (co : Nat) (qf : Option Addr) (mf cf : Nat) (w : World) (hJ : J < 60) (hf : x[J]? = some f) (hk : Evk x)
    (hx : J = 0 ∨ ∃ b o, p = some ⟨b, o, Option.none⟩ ∧ b < w.heap.size ∧ EvR w b o x) (hm : MkS w (.slice qf mf cf) f.2) (ho : ObP w (.slice po J co) x J) :
    Calls Try.prog 38 #[.agg #[.slice po J co], .slice p J cap, .agg #[.int .i64 f.1, .slice qf mf cf]] w fun e w' => ∃ u, e = .returned u ∧ RwO w' u (fun k => hbd edep x k J) J ∧ (∀ q, u.ownBlock = some q → w.heap.size ≤ q) ∧ Below w.heap.size w w' := by
  have HX := Lib.hid hx
  have HM := Lib.hid hm
  have HO := Lib.hid ho
  have HF := Lib.hid hf
  have HK := Lib.hid hk
  clear hx hm ho hf hk
  obtain ⟨i0, hi, hz0, hz1, hz2⟩ := u64_info
  have hw63 : IntKind.i64.wrap ((J : Int) + 63) = (J : Int) + 63 := by rw [IntKind.wrap_i64]; omega
  have hwm : IntKind.i64.wrap ((J : Int) - 1) = (J : Int) - 1 := by rw [IntKind.wrap_i64]; omega
  obtain ⟨NW, hNW⟩ : ∃ NW, rwl J = NW := ⟨_, rfl⟩
  have hNW2 : NW ≤ 1 := by rw [← hNW]; unfold rwl; split <;> omega
  have hq : ((J : Int) + 63).tdiv 64 = (NW : Int) := by
    rw [Int.tdiv_eq_ediv_of_nonneg (by omega), ← hNW]; unfold rwl; split <;> omega
  have HNW := Lib.hid hNW
  clear hNW
  obtain ⟨wb, hwb⟩ : ∃ wb, (w.alloc (Obj.cells #[Value.slice po J co] 58)).alloc (Obj.cells #[Value.int .i64 f.1, Value.slice qf mf cf] 38) = wb := ⟨_, rfl⟩
  have hsz : wb.heap.size = w.heap.size + 1 + 1 := by rw [← hwb]; simp
  have hB1 := below_alloc w (Obj.cells #[Value.slice po J co] 58)
  have hB2 := below_alloc (w.alloc (Obj.cells #[Value.slice po J co] 58)) (Obj.cells #[Value.int .i64 f.1, Value.slice qf mf cf] 38)
  have hg1 := heap_alloc_new w (Obj.cells #[Value.slice po J co] 58)
  have hg2 := heap_alloc_new (w.alloc (Obj.cells #[Value.slice po J co] 58)) (Obj.cells #[Value.int .i64 f.1, Value.slice qf mf cf] 38)
  rw [← hB2.block w.heap.size (by simp)] at hg1
  have hWb : Below w.heap.size w wb := by rw [← hwb]; exact hB1.trans (hB2.mono hB1.size)
  rw [hwb] at hg1 hg2
  have hs1 : (w.alloc (Obj.cells #[Value.slice po J co] 58)).heap.size = w.heap.size + 1 := by simp
  rw [hs1] at hg2
  obtain ⟨EB, hEB⟩ : ∃ EB, w.heap.size + 1 = EB := ⟨_, rfl⟩
  obtain ⟨BB, hBB⟩ : ∃ BB, EB + 1 = BB := ⟨_, rfl⟩
  have hkb : ∀ W, Below wb.heap.size wb W → W.cell? ⟨w.heap.size, 0, Option.none⟩ = some (.slice po J co) ∧ W.cell? ⟨EB, 0, Option.none⟩ = some (.int .i64 f.1) ∧ W.cell? ⟨EB, 1, Option.none⟩ = some (.slice qf mf cf) := fun W k => by
    have g1 := (k.block w.heap.size (by omega)).trans hg1
    have g2 := (k.block EB (by omega)).trans (hEB ▸ hg2)
    exact ⟨by rw [cell_of_row _ _ _ _ _ _ g1]; rfl, by rw [cell_of_row _ _ _ _ _ _ g2]; rfl, by rw [cell_of_row _ _ _ _ _ _ g2]; rfl⟩
  have HKB := Lib.hid hkb
  have HWB := Lib.hid hWb
  have HSZ : Hid (wb.heap.size = BB) := Lib.hid (by omega)
  have HWBE := Lib.hid hwb
  have HEB := Lib.hid hEB
  have HBB := Lib.hid hBB
  clear hkb hWb hwb hsz hB1 hB2 hg1 hg2 hs1
  clear hEB hBB
  go_enter Try.func38, Try.ntmps38
  go_wp2_with (at_make; refine wpList_make_full _ rfl (.tmp 12) (.tmp 12) 74 rfl (w.heap.size + 1 + 1) 67 i0 _ 1 Try.underlying74 hi hz0 hz1 .i64 .i64 (NW : Int) (NW : Int) NW rfl rfl rfl rfl (by rw [hz2]; omega) (by unfold maxLen; omega) (by simp) ?_)
  intro w1 hown hgr
  rw [HWBE.out] at hgr
  rw [HEB.out, HBB.out] at hown ⊢
  have HR1 : Hid (w1.ownsRow BB 67 1 (.slice (some ⟨BB, 0, Option.none⟩) NW NW) NW (List.replicate NW (.int .u64 ((0 : Nat) : Int)))) := Lib.hid (by rw [toList_madeCells_one] at hown; exact hown)
  have HB1 : Hid (Below wb.heap.size wb w1) := Lib.hid ((Below.refl _ wb).grown hgr (Nat.le_refl _) (fun k hk => by cases hk))
  clear hown hgr hi hz0 hz1 hz2
  go_wp2
  go_loopw [8] (fun s8 wr => ∃ (m n : Nat), s8 = .int .i64 ((m : Int) - 1) ∧ m ≤ J ∧ n < 18446744073709551616 ∧ (∀ k, n.testBit k = gah edep x J m k) ∧ wr.ownsRow BB 67 1 (.slice (some ⟨BB, 0, Option.none⟩) NW NW) NW (List.replicate NW (.int .u64 (n : Int))) ∧ Below wb.heap.size wb wr) (fun s _ => ((intOf s) + 1).toNat)
  case atStart => exact ⟨J, 0, rfl, Nat.le_refl _, by omega, fun k => by rw [gah_start]; simp, HR1.out, HB1.out⟩
  case round =>
    clear HR1 HB1
    obtain ⟨m, n, rfl, hmJ, hn, ht, hown, hb⟩ := hrel
    have HT := Lib.hid ht
    have HOWN := Lib.hid hown
    have HB := Lib.hid hb
    clear ht hown hb
    cases m with
    | zero =>
      have hm1 : ¬ (0 : Int) ≤ ((0 : Nat) : Int) - 1 := by omega
      have hm2 : ((0 : Nat) : Int) - 1 = -1 := by omega
      rw [hm2] at hm1 ⊢
      go_wp2
      go_ret
      refine ⟨_, rfl, ⟨BB, n, by rw [HNW.out]; rfl, ?_, hn, fun k => by rw [HT.out, gah_end], fun hj => ?_⟩, fun q hq => ?_, HWB.out.trans (HB.out.mono HWB.out.size)⟩
      · exact (HOWN.out.lt BB rfl).2
      · rw [HOWN.out.cellAt 0 (by rw [← HNW.out, rwl_pos (by omega)]; omega), ← HNW.out, rwl_pos (by omega)]; rfl
      · obtain rfl := Option.some.inj hq
        have h1 := HWB.out.size
        have h2 := HSZ.out
        show w.heap.size ≤ BB
        omega
    | succ k =>
      have hI : ((k + 1 : Nat) : Int) - 1 = (k : Int) := by omega
      rw [hI]
      clear hI
      have hNW1 : NW = 1 := by rw [← HNW.out]; exact rwl_pos (by omega)
      have HN1 := Lib.hid hNW1
      clear hNW1
      have hkk : k < 64 := by omega
      have hwk1 : IntKind.i64.wrap ((k : Int) - 1) = (k : Int) - 1 := by rw [IntKind.wrap_i64]; omega
      have hkJ : (k : Int) < (J : Int) := by omega
      obtain ⟨b, o, rfl, hbb, hr⟩ : ∃ b o, p = some ⟨b, o, Option.none⟩ ∧ b < w.heap.size ∧ EvR w b o x := by
        rcases HX.out with h | h
        · omega
        · exact h
      obtain ⟨e, he⟩ : ∃ e, x[k]? = some e := ⟨_, List.getElem?_eq_getElem (by have := (List.getElem?_eq_some_iff.1 HF.out).1; omega)⟩
      obtain ⟨qe, me, ce, hec⟩ := hr.at hbb he
      obtain ⟨wz, rfl⟩ : ∃ wz, wz = wr := ⟨_, rfl⟩
      have c0 : wz.cell? ⟨BB, 0, Option.none⟩ = some (.int .u64 (n : Int)) := by rw [HOWN.out.cellAt 0 (by rw [HN1.out]; omega), HN1.out]; rfl
      have keep : ∀ W, Below wz.heap.size wz W → (Below wz.heap.size wz W ∧ W.cell? ⟨BB, 0, Option.none⟩ = some (.int .u64 (n : Int)) ∧ W.cell? ⟨b, o + k * 2, Option.none⟩ = some (.int .i64 e.1) ∧ W.cell? ⟨b, o + k * 2 + 1, Option.none⟩ = some (.slice qe me ce) ∧ W.cell? ⟨EB, 0, Option.none⟩ = some (.int .i64 f.1) ∧ W.cell? ⟨EB, 1, Option.none⟩ = some (.slice qf mf cf)) := fun W kk => by
        have kb := HB.out.trans (kk.mono HB.out.size)
        have kw := HWB.out.trans (kb.mono HWB.out.size)
        have h1 := hec W kw
        have h2 := HKB.out W kb
        have hbz := (HOWN.out.lt BB rfl).2
        exact ⟨kk, (kk.cell (p := ⟨BB, _, Option.none⟩) hbz).trans c0, h1.1, h1.2.1, h2.2.1, h2.2.2⟩
      have K0 : Hid (∀ W, (Below wz.heap.size wz W ∧ W.cell? ⟨BB, 0, Option.none⟩ = some (.int .u64 (n : Int)) ∧ W.cell? ⟨b, o + k * 2, Option.none⟩ = some (.int .i64 e.1) ∧ W.cell? ⟨b, o + k * 2 + 1, Option.none⟩ = some (.slice qe me ce) ∧ W.cell? ⟨EB, 0, Option.none⟩ = some (.int .i64 f.1) ∧ W.cell? ⟨EB, 1, Option.none⟩ = some (.slice qf mf cf)) → Calls Try.prog 40 #[.slice (some ⟨BB, 0, Option.none⟩) NW NW, .int .i64 (k : Int)] W fun r w' => r = .returned (.bool (n.testBit k)) ∧ (Below wz.heap.size wz w' ∧ w'.cell? ⟨BB, 0, Option.none⟩ = some (.int .u64 (n : Int)) ∧ w'.cell? ⟨b, o + k * 2, Option.none⟩ = some (.int .i64 e.1) ∧ w'.cell? ⟨b, o + k * 2 + 1, Option.none⟩ = some (.slice qe me ce) ∧ w'.cell? ⟨EB, 0, Option.none⟩ = some (.int .i64 f.1) ∧ w'.cell? ⟨EB, 1, Option.none⟩ = some (.slice qf mf cf))) := Lib.hid fun W kk => by
        rw [HN1.out]
        refine (has_any n k BB 0 1 W hkk hn kk.2.1).mono ?_
        rintro r w' ⟨rfl, rfl⟩
        exact ⟨rfl, kk⟩
      have K1 : Hid (∀ W, (Below wz.heap.size wz W ∧ W.cell? ⟨BB, 0, Option.none⟩ = some (.int .u64 (n : Int)) ∧ W.cell? ⟨b, o + k * 2, Option.none⟩ = some (.int .i64 e.1) ∧ W.cell? ⟨b, o + k * 2 + 1, Option.none⟩ = some (.slice qe me ce) ∧ W.cell? ⟨EB, 0, Option.none⟩ = some (.int .i64 f.1) ∧ W.cell? ⟨EB, 1, Option.none⟩ = some (.slice qf mf cf)) → Calls Try.prog 17 #[.agg #[.int .i64 e.1, .slice qe me ce], .agg #[.int .i64 f.1, .slice qf mf cf]] W fun r w' => r = .returned (.bool (edep e f)) ∧ (Below wz.heap.size wz w' ∧ w'.cell? ⟨BB, 0, Option.none⟩ = some (.int .u64 (n : Int)) ∧ w'.cell? ⟨b, o + k * 2, Option.none⟩ = some (.int .i64 e.1) ∧ w'.cell? ⟨b, o + k * 2 + 1, Option.none⟩ = some (.slice qe me ce) ∧ w'.cell? ⟨EB, 0, Option.none⟩ = some (.int .i64 f.1) ∧ w'.cell? ⟨EB, 1, Option.none⟩ = some (.slice qf mf cf))) := Lib.hid fun W kk => by
        have kb := HB.out.trans (kk.1.mono HB.out.size)
        have kw := HWB.out.trans (kb.mono HWB.out.size)
        refine (depend_at e f _ _ W (hec W kw).2.2 (HM.out.kept kw) (HK.out.2 e (List.mem_of_getElem? he)).1 (HK.out.2 f (List.mem_of_getElem? HF.out)).1).mono ?_
        rintro r w' ⟨rfl, hb⟩
        exact ⟨rfl, keep w' (kk.1.trans (hb.mono kk.1.size))⟩
      have hs0 := keep wz.drew ⟨rfl, rfl, rfl, Nat.le_refl _, fun _ _ => rfl⟩
      have hHas : n.testBit k = gah edep x J (k + 1) k := HT.out k
      have HE := Lib.hid he
      have HR := Lib.hid hr
      have KEEP := Lib.hid keep
      clear c0 keep he hr hec
      obtain ⟨hs, hhs⟩ : ∃ hs, n.testBit k = hs := ⟨_, rfl⟩
      rw [hhs] at K0 hHas
      have HHAS := Lib.hid hHas
      clear hhs hHas
      cases hs with
      | true =>
        have HT2 : Hid (∀ q, n.testBit q = gah edep x J k q) := Lib.hid fun q => by rw [HT.out, gah_has HHAS.out.symm]
        clear K1
        go_wp2_with fail
        obtain ⟨_, y1, y2, y3, y4, y5⟩ := id hs0
        first
        | go_region_with (first | (go_at_call 40; refine (K0.out _ hs0).mono ?_; rintro r w' ⟨rfl, hsA⟩))
        | fail
        all_goals
          have HZ : Hid (Below wz.heap.size wz w') := Lib.hid hsA.1
          have HO2 := Lib.hid (own_kept HOWN.out HZ.out)
          have HB2 := Lib.hid (HB.out.trans (HZ.out.mono HB.out.size))
          clear hsA hs0 y1 y2 y3 y4 y5
          go_wp2
          go_roundw
          case rel => exact ⟨k, n, by go_num, by omega, hn, HT2.out, HO2.out, HB2.out⟩
          case measure => simp [intOf]
      | false =>
        obtain ⟨d, hd⟩ : ∃ d, edep e f = d := ⟨_, rfl⟩
        rw [hd] at K1
        have HD := Lib.hid hd
        clear hd
        go_wp2_with fail
        go_region_held3 (fun w' => (Below wz.heap.size wz w' ∧ w'.cell? ⟨BB, 0, Option.none⟩ = some (.int .u64 (n : Int)) ∧ w'.cell? ⟨b, o + k * 2, Option.none⟩ = some (.int .i64 e.1) ∧ w'.cell? ⟨b, o + k * 2 + 1, Option.none⟩ = some (.slice qe me ce) ∧ w'.cell? ⟨EB, 0, Option.none⟩ = some (.int .i64 f.1) ∧ w'.cell? ⟨EB, 1, Option.none⟩ = some (.slice qf mf cf)))
          (first | exact hs0 | assumption)
          (first
            | (go_at_call 40; refine (K0.out _ (by assumption)).mono ?_; rintro r w' ⟨rfl, hsB⟩)
            | (go_at_call 17; refine (K1.out _ (by assumption)).mono ?_; rintro r w' ⟨rfl, hsA⟩))
        have HZ : Hid (Below wz.heap.size wz w') := Lib.hid hsA.1
        have HO2 := Lib.hid (own_kept HOWN.out HZ.out)
        have HB2 := Lib.hid (HB.out.trans (HZ.out.mono HB.out.size))
        clear hsA hs0 hsB
        rename_i hH
        clear hH
        cases d with
        | false =>
          have HT2 : Hid (∀ q, n.testBit q = gah edep x J k q) := Lib.hid fun q => by rw [HT.out, gah_skip HE.out HF.out HD.out]
          go_wp2
          go_roundw
          case rel => exact ⟨k, n, by go_num, by omega, hn, HT2.out, HO2.out, HB2.out⟩
          case measure => simp [intOf]
        | true =>
          obtain ⟨b2, o2, rfl, hb2, hrows⟩ : ∃ b o, po = some ⟨b, o, Option.none⟩ ∧ b < w.heap.size ∧ ∀ j, j < J → ∃ u, w.cell? ⟨b, o + j, Option.none⟩ = some u ∧ RwO w u (fun k => hbd edep x k j) j := by
            obtain ⟨p', c', h1, h2⟩ := HO.out
            simp only [Value.slice.injEq] at h1
            rcases h2 with h2 | ⟨b, o, h2, h3⟩
            · omega
            · exact ⟨b, o, by rw [h1.1, h2], h3⟩
          obtain ⟨u, hu, Bk, nk, rfl, hBk, hnk, htk, hck⟩ := hrows k (by omega)
          have hu' := fun W (kk : Below w.heap.size w W) => (kk.cell (p := ⟨b2, _, Option.none⟩) hb2).trans hu
          have hck' := fun W (kk : Below w.heap.size w W) (hk0 : k ≠ 0) => (kk.cell (p := ⟨Bk, 0, Option.none⟩) hBk).trans (hck hk0)
          have hnk0 : k = 0 → nk = 0 := fun h => by
            apply Nat.eq_of_testBit_eq
            intro q
            rw [htk, h]; show hbd edep x q 0 = _; rw [hbd_zero]; simp
          have c0 : w'.cell? ⟨BB, 0, Option.none⟩ = some (.int .u64 (n : Int)) := by rw [HO2.out.cellAt 0 (by rw [HN1.out]; omega), HN1.out]; rfl
          have hA := add_any n k BB 0 1 w' hkk hn c0 (HO2.out.frozenAt 0)
          have hlt1 : n ||| 1 <<< k < 18446744073709551616 := Nat.or_lt_two_pow (n := 64) hn (by rw [Nat.one_shiftLeft]; exact Nat.pow_lt_pow_right (by omega) hkk)
          obtain ⟨n1, hn1⟩ : ∃ n1, n ||| 1 <<< k = n1 := ⟨_, rfl⟩
          rw [hn1] at hA hlt1
          rw [show (1 : Nat) = NW from HN1.out.symm] at hA
          have HA := Lib.hid hA
          have HT2 : Hid (∀ q, (n1 ||| nk).testBit q = gah edep x J k q) := Lib.hid fun q => by
            rw [gah_add (by omega) HE.out HF.out HD.out, Nat.testBit_or, htk, ← hn1, Nat.testBit_or, HT.out, Nat.one_shiftLeft, Nat.testBit_two_pow]
          have HN1E := Lib.hid hn1
          have HU := Lib.hid hu'
          have HCK := Lib.hid hck'
          have HNK := Lib.hid hnk0
          clear hA hn1 hu' hck' hnk0 c0 hu hck htk hrows
          go_wp2_with (go_at_call 52; refine Hid.out ?_)
          refine Lib.hid ?_
          refine HA.out.mono ?_
          rintro r w2 ⟨rfl, hw2⟩
          have hst := HO2.out.stored 0 (.int .u64 (n1 : Int))
          have hB3 := HB2.out.setCell (p := ⟨BB, 0, Option.none⟩) (by rw [HSZ.out]; exact Nat.le_refl BB) (.int .u64 (n1 : Int))
          have hdr : Below (w'.setCell ⟨BB, 0, Option.none⟩ (.int .u64 (n1 : Int))).heap.size (w'.setCell ⟨BB, 0, Option.none⟩ (.int .u64 (n1 : Int))) w2 := by rw [hw2]; exact ⟨rfl, rfl, rfl, Nat.le_refl _, fun _ _ => rfl⟩
          have hO3 := own_kept hst.1 hdr
          have hB4 := hB3.trans (hdr.mono hB3.size)
          rw [show (List.replicate NW (Value.int .u64 (n : Int))).set 0 (.int .u64 (n1 : Int)) = List.replicate NW (.int .u64 (n1 : Int)) by rw [HN1.out]; rfl] at hO3
          have HO3 := Lib.hid hO3
          have HB4 := Lib.hid hB4
          have hW4 := HWB.out.trans (hB4.mono HWB.out.size)
          obtain ⟨y1, _, _⟩ := HKB.out w2 hB4
          have y2 := HU.out w2 hW4
          have c1 : w2.cell? ⟨BB, 0, Option.none⟩ = some (.int .u64 (n1 : Int)) := by rw [hO3.cellAt 0 (by rw [HN1.out]; omega), HN1.out]; rfl
          have hJn := join_any n1 nk k BB 0 1 Bk 0 w2 hlt1 hnk c1 (hO3.frozenAt 0) (HCK.out w2 hW4) HNK.out (rwl k)
          rw [show (1 : Nat) = NW from HN1.out.symm] at hJn
          have HJN := Lib.hid hJn
          clear hst hB3 hdr hO3 hB4 hW4 c1 hJn hw2 HA
          generalize rwl k = lk at *
          go_wp2_with (go_at_call 53; refine Hid.out ?_)
          refine Lib.hid ?_
          refine HJN.out.mono ?_
          rintro r w3 ⟨rfl, hw3⟩
          have hlt2 : n1 ||| nk < 18446744073709551616 := Nat.or_lt_two_pow (n := 64) hlt1 hnk
          obtain ⟨n2, hn2⟩ : ∃ n2, n1 ||| nk = n2 := ⟨_, rfl⟩
          rw [hn2] at HT2 hlt2 hw3
          have hfin : w3.ownsRow BB 67 1 (.slice (some ⟨BB, 0, Option.none⟩) NW NW) NW (List.replicate NW (.int .u64 (n2 : Int))) ∧ Below wb.heap.size wb w3 := by
            rcases hw3 with ⟨rfl, h⟩ | rfl
            · rw [h]; exact ⟨HO3.out, HB4.out⟩
            · have hst := (HO3.out.stored 0 (.int .u64 (n2 : Int))).1
              rw [show (List.replicate NW (Value.int .u64 (n1 : Int))).set 0 (.int .u64 (n2 : Int)) = List.replicate NW (.int .u64 (n2 : Int)) by rw [HN1.out]; rfl] at hst
              exact ⟨hst, HB4.out.setCell (p := ⟨BB, 0, Option.none⟩) (by rw [HSZ.out]; exact Nat.le_refl BB) _⟩
          have HFIN := Lib.hid hfin
          clear hfin hw3 hn2 y1 y2 HJN
          go_wp2
          go_roundw
          case rel => exact ⟨k, n2, by go_num, by omega, hlt2, HT2.out, HFIN.out.1, HFIN.out.2⟩
          case measure => simp [intOf]
end Go.Proofs.Ytcbpkagegdfidaa
