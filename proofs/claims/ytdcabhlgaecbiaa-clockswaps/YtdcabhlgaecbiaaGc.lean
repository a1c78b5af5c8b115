/- clock's Order.counts. -/
import Derived.Test.YtdcabhlgaecbiaaGf
import Derived.Test.YtdcabhlgaecbiaaCk
set_option linter.unusedSimpArgs false
set_option linter.unusedVariables false
namespace Go.Proofs.Ytdcabhlgaecbiaa
open Go.RowKit

/-- How many of those below i are counted. -/
noncomputable def ctm (x : Evl) (J i t : Nat) : Nat := ((List.range i).filter fun k => (decide (k = J) || hbd edep x k J) && decide (thi x k = (t : Int))).length
theorem ctm_step (x : Evl) (J i t : Nat) : ctm x J (i + 1) t = ctm x J i t + if ((decide (i = J) || hbd edep x i J) && decide (thi x i = (t : Int))) = true then 1 else 0 := by
  unfold ctm
  rw [List.range_succ, List.filter_append, List.length_append]
  congr 1
  rw [List.filter_cons]
  split <;> rfl
theorem ctm_le (x : Evl) (J i t : Nat) : ctm x J i t ≤ i := by
  have := List.length_filter_le (fun k => (decide (k = J) || hbd edep x k J) && decide (thi x k = (t : Int))) (List.range i)
  rwa [List.length_range] at this
theorem ctm_end {x : Evl} {J : Nat} (hJ : J < x.length) (t : Nat) : ctm x J (J + 1) t = cnt edep (·.1) x J (t : Int) := by
  unfold ctm cnt
  congr 1
  apply List.filter_congr
  intro i hi
  have hil : i < x.length := by have := List.mem_range.1 hi; omega
  congr 1
  · unfold hbd
    by_cases h1 : i = J
    · simp [h1]
    · simp [h1]
  · apply decide_eq_decide.2
    have he : x[i]? = some x[i]! := by rw [getElem!_pos x i hil]; exact List.getElem?_eq_getElem hil
    constructor
    · intro h; exact ⟨_, he, h⟩
    · rintro ⟨a, h1, h2⟩
      rw [he] at h1
      obtain rfl := Option.some.inj h1
      exact h2
noncomputable def ctv (x : Evl) (J i T : Nat) : List Value := (List.range T).map fun t => .int .i64 ((ctm x J i t : Nat) : Int)
theorem ctv_len (x : Evl) (J i T : Nat) : (ctv x J i T).length = T := by simp [ctv]
theorem ctv_get {x : Evl} {J i T t : Nat} (h : t < T) : (ctv x J i T)[t]? = some (.int .i64 ((ctm x J i t : Nat) : Int)) := by
  unfold ctv
  rw [List.getElem?_map, List.getElem?_range h]
  rfl
theorem ctv_same {x : Evl} {J i T : Nat} (h : ∀ t, t < T → ((decide (i = J) || hbd edep x i J) && decide (thi x i = (t : Int))) = false) : ctv x J (i + 1) T = ctv x J i T := by
  unfold ctv
  apply List.map_congr_left
  intro t ht
  rw [ctm_step, h t (List.mem_range.1 ht)]
  rfl
theorem ctv_set {x : Evl} {J i T q : Nat} (hq : q < T) (h1 : (decide (i = J) || hbd edep x i J) = true) (h2 : thi x i = (q : Int)) : (ctv x J i T).set q (.int .i64 (((ctm x J i q + 1 : Nat)) : Int)) = ctv x J (i + 1) T := by
  apply List.ext_getElem?
  intro t
  by_cases htq : q = t
  · subst htq
    rw [List.getElem?_set_self (by rw [ctv_len]; exact hq), ctv_get hq, ctm_step, h1, h2]
    simp
  · rw [List.getElem?_set_ne htq]
    by_cases ht : t < T
    · rw [ctv_get ht, ctv_get ht, ctm_step, h1, h2, decide_eq_false (by omega)]
      rfl
    · rw [List.getElem?_eq_none (by rw [ctv_len]; omega), List.getElem?_eq_none (by rw [ctv_len]; omega)]
theorem ctv_zero (x : Evl) (J T : Nat) : (madeCells #[Value.int .i64 0] T).toList = ctv x J 0 T := by
  rw [toList_madeCells_one]
  apply List.ext_getElem?
  intro t
  by_cases ht : t < T
  · rw [ctv_get ht]
    simp [ctm, ht]
  · rw [List.getElem?_eq_none (by simp; omega), List.getElem?_eq_none (by rw [ctv_len]; omega)]
theorem ctv_end {x : Evl} {J : Nat} (hJ : J < x.length) (T : Nat) : ctv x J (J + 1) T = nvs (ckr x J T) := by
  unfold ctv nvs ckr
  rw [List.map_map]
  apply List.map_congr_left
  intro t _
  rw [ctm_end hJ]
  rfl
theorem ckr_len (x : Evl) (J T : Nat) : (ckr x J T).length = T := by simp [ckr]

set_option maxRecDepth 100000 in
set_option maxHeartbeats 16000000 in
theorem counts_in (x : Evl) (J T : Nat) (b o cap : Nat) (po : Option Addr) (co A : Nat) (w : World) (hJ : J < x.length) (hT : T ≤ 1000) (hk : Evk x) (hA : x.length = A)
    (hbb : b < w.heap.size) (hr : EvR w b o x) (ho : ObS w (.slice po A co) x) :
    Calls Try.prog 24 #[.agg #[.slice po A co], .slice (some ⟨b, o, Option.none⟩) (J + 1) cap, .int .i64 (T : Int)] w fun e w' => ∃ u, e = .returned u ∧ NsS w' u (ckr x J T) ∧ (∀ q, u.ownBlock = some q → w.heap.size ≤ q) ∧ Below w.heap.size w w' := by
  have HJ := Lib.hid hJ
  have HK := Lib.hid hk
  have HR := Lib.hid hr
  have HO := Lib.hid ho
  have HA := Lib.hid hA
  have hJ60 : J < 60 := by have := hk.1; omega
  clear hJ hk hr ho hA
  obtain ⟨i0, hi, hz0, hz1, hz2⟩ := in_info
  obtain ⟨L, hL⟩ : ∃ L, J + 1 = L := ⟨_, rfl⟩
  rw [hL]
  have hL60 : L ≤ 60 := by omega
  have hwl : IntKind.i64.wrap ((L : Int) - 1) = (J : Int) := by rw [IntKind.wrap_i64]; omega
  obtain ⟨wb, hwb⟩ : ∃ wb, w.alloc (Obj.cells #[Value.slice po A co] 29) = wb := ⟨_, rfl⟩
  have hsz : wb.heap.size = w.heap.size + 1 := by rw [← hwb]; simp
  have hB1 := below_alloc w (Obj.cells #[Value.slice po A co] 29)
  have hg1 := heap_alloc_new w (Obj.cells #[Value.slice po A co] 29)
  rw [hwb] at hg1 hB1
  have hkb : ∀ W, Below wb.heap.size wb W → W.cell? ⟨w.heap.size, 0, Option.none⟩ = some (.slice po A co) := fun W k => by
    have g1 := (k.block w.heap.size (by omega)).trans hg1
    rw [cell_of_row _ _ _ _ _ _ g1]; rfl
  have HKB := Lib.hid hkb
  have HWB := Lib.hid hB1
  have HSZ : Hid (wb.heap.size = w.heap.size + 1) := Lib.hid hsz
  have HWBE := Lib.hid hwb
  clear hkb hwb hsz hB1 hg1
  go_enter Try.func24, Try.ntmps24
  go_wp2_with (at_make; refine wpList_make_full _ rfl (.tmp 12) (.tmp 12) 35 rfl (w.heap.size + 1) 3 i0 _ 1 Try.underlying35 hi hz0 hz1 .i64 .i64 (T : Int) (T : Int) T rfl rfl rfl rfl (by rw [hz2]; omega) (by unfold maxLen; omega) (by simp) ?_)
  intro w1 hown hgr
  rw [HWBE.out] at hgr
  obtain ⟨CB, hCB⟩ : ∃ CB, w.heap.size + 1 = CB := ⟨_, rfl⟩
  rw [hCB, ctv_zero x J T] at hown
  rw [hCB]
  have HR1 := Lib.hid hown
  have HB1 : Hid (Below wb.heap.size wb w1) := Lib.hid ((Below.refl _ wb).grown hgr (Nat.le_refl _) (fun k hk => by cases hk))
  have HCB := Lib.hid hCB
  have HL := Lib.hid hL
  clear hown hgr hi hz0 hz1 hz2 hCB hL
  go_wp2
  go_loopw [19] (fun s19 wr => ∃ (i : Nat), s19 = .int .i64 (i : Int) ∧ i ≤ L ∧ wr.ownsRow CB 3 1 (.slice (some ⟨CB, 0, Option.none⟩) T T) T (ctv x J i T) ∧ Below wb.heap.size wb wr) (fun s _ => L - (intOf s).toNat)
  case atStart => exact ⟨0, rfl, Nat.zero_le _, HR1.out, HB1.out⟩
  case round =>
    clear HR1 HB1
    obtain ⟨i, rfl, hiL, hown, hb⟩ := hrel
    have HOWN := Lib.hid hown
    have HB := Lib.hid hb
    clear hown hb
    by_cases hlt : i < L
    · have hilA : (i : Int) < (L : Int) := by omega
      have hixl : i < x.length := by have := HJ.out; have := HL.out; omega
      obtain ⟨e, he⟩ : ∃ e, x[i]? = some e := ⟨_, List.getElem?_eq_getElem hixl⟩
      have hthi := thi_at he
      obtain ⟨hem, he0, he5⟩ := HK.out.2 e (List.mem_of_getElem? he)
      obtain ⟨qe, me, ce, hec⟩ := HR.out.at hbb he
      obtain ⟨q, hq⟩ : ∃ q : Nat, e.1 = (q : Int) := ⟨e.1.toNat, by omega⟩
      rw [hq] at hec hthi
      obtain ⟨d0, d1, _⟩ := hec wr (HWB.out.trans (HB.out.mono HWB.out.size))
      have hBA := below_alloc wr (Obj.cells #[Value.int .i64 (q : Int), Value.slice qe me ce] 41)
      have HTHI := Lib.hid hthi
      have HBA := Lib.hid hBA
      have hq0 : (0 : Int) ≤ (q : Int) := by omega
      clear hec hthi hBA he hem he0 he5 hq
      have HBX : Hid (Below wb.heap.size wb (wr.alloc (Obj.cells #[Value.int .i64 (q : Int), Value.slice qe me ce] 41))) := Lib.hid (HB.out.trans (HBA.out.mono HB.out.size))
      have HOX := Lib.hid (own_kept HOWN.out HBA.out)
      have hpc : wb.heap.size ≤ CB := by have := HSZ.out; have := HCB.out; omega
      by_cases hqT : q < T
      · have hqT' : (q : Int) < (T : Int) := by omega
        obtain ⟨n, hn⟩ : ∃ n, ctm x J i q = n := ⟨_, rfl⟩
        have hn60 : n ≤ i := by rw [← hn]; exact ctm_le x J i q
        have hwn : IntKind.i64.wrap ((n : Int) + 1) = (n : Int) + 1 := by rw [IntKind.wrap_i64]; omega
        have c2 : (wr.alloc (Obj.cells #[Value.int .i64 (q : Int), Value.slice qe me ce] 41)).cell? ⟨CB, q, Option.none⟩ = some (.int .i64 (n : Int)) := by rw [HOX.out.cellAt q (by omega), ctv_get hqT, hn]
        have f2 := HOX.out.frozenAt q
        have HSET : Hid ((decide (i = J) || hbd edep x i J) = true → (ctv x J i T).set q (.int .i64 ((n : Int) + 1)) = ctv x J (i + 1) T) := Lib.hid fun h => by
          have h2 := ctv_set (x := x) (J := J) (i := i) hqT h HTHI.out
          rw [hn, show ((n + 1 : Nat) : Int) = (n : Int) + 1 by omega] at h2
          exact h2
        have hsm : (decide (i = J) || hbd edep x i J) = false → ctv x J (i + 1) T = ctv x J i T := fun h => ctv_same fun t _ => by rw [h]; rfl
        have HSM := Lib.hid hsm
        clear hn hsm
        by_cases hiJ : i = J
        · subst hiJ
          have HNEW := Lib.hid (HOX.out.stored q (.int .i64 ((n : Int) + 1))).1
          rw [HSET.out (by simp)] at HNEW
          have HBN := Lib.hid (HBX.out.setCell (p := ⟨CB, q, Option.none⟩) hpc (.int .i64 ((n : Int) + 1)))
          go_wp2
          go_roundw
          case rel => exact ⟨i + 1, by go_num, by omega, HNEW.out, HBN.out⟩
          case measure => simp [intOf]; omega
        · have hne : ((i : Int) == (J : Int)) = false := by rw [beq_eq_false_iff_ne]; omega
          have hne2 : ¬ (i : Int) = (J : Int) := by omega
          have cO := HKB.out _ HBX.out
          have hc := befO x po A co (i : Int) (J : Int) (wr.alloc (Obj.cells #[Value.int .i64 (q : Int), Value.slice qe me ce] 41)) (kpO _ _ _ _ HO.out (HWB.out.trans (HBX.out.mono HWB.out.size))) HK.out
          rw [hbI_nat] at hc
          obtain ⟨h, hh⟩ : ∃ h, hbd edep x i J = h := ⟨_, rfl⟩
          rw [hh, decide_eq_false hiJ, Bool.false_or] at HSET HSM
          rw [hh] at hc
          have HC := Lib.hid hc
          have hga := heap_alloc_new wr (Obj.cells #[Value.int .i64 (q : Int), Value.slice qe me ce] 41)
          have cE : (wr.alloc (Obj.cells #[Value.int .i64 (q : Int), Value.slice qe me ce] 41)).cell? ⟨wr.heap.size, 0, Option.none⟩ = some (.int .i64 (q : Int)) := by rw [cell_of_row _ _ _ _ _ _ hga]; rfl
          have hsx : wr.heap.size < (wr.alloc (Obj.cells #[Value.int .i64 (q : Int), Value.slice qe me ce] 41)).heap.size := by simp
          have HCE := Lib.hid cE
          have HC2 := Lib.hid c2
          have HSX := Lib.hid hsx
          clear hc hh hga cE c2 f2 hsx
          cases h with
          | true =>
            have HSET2 : Hid ((ctv x J i T).set q (.int .i64 ((n : Int) + 1)) = ctv x J (i + 1) T) := Lib.hid (HSET.out rfl)
            clear HSM HSET
            go_wp2_with (go_at_call 12; refine HC.out.mono ?_; rintro r w1 ⟨rfl, hb1⟩; have c1 := (hb1.cell (p := ⟨wr.heap.size, 0, Option.none⟩) HSX.out).trans HCE.out; have HOY := Lib.hid (own_kept HOX.out hb1); have c2 := (hb1.cell (p := ⟨CB, q, Option.none⟩) (HOX.out.lt CB rfl).2).trans HC2.out; have f2 := HOY.out.frozenAt q; have HBY := Lib.hid (HBX.out.trans (hb1.mono HBX.out.size)); clear hb1)
            have HNEW := Lib.hid (HOY.out.stored q (.int .i64 ((n : Int) + 1))).1
            rw [HSET2.out] at HNEW
            have HBN := Lib.hid (HBY.out.setCell (p := ⟨CB, q, Option.none⟩) hpc (.int .i64 ((n : Int) + 1)))
            go_roundw
            case rel => exact ⟨i + 1, by go_num, by omega, HNEW.out, HBN.out⟩
            case measure => simp [intOf]; omega
          | false =>
            have HSM2 : Hid (ctv x J (i + 1) T = ctv x J i T) := Lib.hid (HSM.out rfl)
            clear HSM HSET
            go_wp2_with (go_at_call 12; refine HC.out.mono ?_; rintro r w1 ⟨rfl, hb1⟩; have HOY := Lib.hid (own_kept HOX.out hb1); have HBY := Lib.hid (HBX.out.trans (hb1.mono HBX.out.size)); clear hb1)
            go_roundw
            case rel => exact ⟨i + 1, by go_num, by omega, by rw [HSM2.out]; exact HOY.out, HBY.out⟩
            case measure => simp [intOf]; omega
      · have hqT' : ¬ (q : Int) < (T : Int) := by omega
        have HSM : Hid (ctv x J (i + 1) T = ctv x J i T) := Lib.hid (ctv_same fun t ht => by rw [HTHI.out, decide_eq_false (p := (q : Int) = (t : Int)) (by omega), Bool.and_false])
        go_wp2
        go_roundw
        case rel => exact ⟨i + 1, by go_num, by omega, by rw [HSM.out]; exact HOX.out, HBX.out⟩
        case measure => simp [intOf]; omega
    · obtain rfl : i = L := by omega
      go_wp2
      go_ret
      refine ⟨_, rfl, ?_, fun q hq => ?_, HWB.out.trans (HB.out.mono HWB.out.size)⟩
      · have h1 := HOWN.out
        rw [← HL.out, ctv_end HJ.out] at h1
        have h2 := ckr_len x J T
        exact ns_of_own (by rw [h2]; exact h1)
      · obtain rfl := Option.some.inj hq
        show w.heap.size ≤ CB
        have := HCB.out
        omega
end Go.Proofs.Ytdcabhlgaecbiaa
