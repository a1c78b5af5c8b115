/- event.together, event.arranged: the marks by objects. -/
import Derived.Test.YtcbpkagegdfidaaTo
set_option linter.unusedSimpArgs false
set_option linter.unusedVariables false
namespace Go.Proofs.Ytcbpkagegdfidaa
open Go.RowKit

theorem len_nil (w : World) : Calls Try.prog 55 #[.int .u64 0] w fun e w' => e = .returned (.int .i64 (Go.Lib.bitLen 0 : Nat)) ∧ w' = w :=
  Any.bits_Len (SlLaysF0.n15.bits (P := Try.prog) (ρ := Try.laysSlF06_f43_ren) { Try.laysSlF06_f43 with }) 0 w (by omega) (by omega)
set_option maxHeartbeats 1000000 in
theorem isort_nil (cap : Nat) (fv : Value) (w : World) : Calls Try.prog 59 #[.slice Option.none 0 cap, .int .i64 0, .int .i64 0, fv] w fun e w' => e = .returned (.tuple #[]) ∧ w' = w := by
  go_enter Try.func59, Try.ntmps59
  go_wp2
  refine wp_loop_rounds 1 ?_
  rw [rounds_succ]
  go_wp2
  go_end0
  exact ⟨rfl, rfl⟩
set_option maxHeartbeats 1000000 in
theorem pdq_nil (cap : Nat) (lim : Int) (fv : Value) (w : World) : Calls Try.prog 54 #[.slice Option.none 0 cap, .int .i64 0, .int .i64 0, .int .i64 lim, fv] w fun e w' => e = .returned (.tuple #[]) ∧ w' = w := by
  go_enter Try.func54, Try.ntmps54
  go_wp2
  refine wp_loop_rounds 1 ?_
  rw [rounds_succ]
  go_wp2_with (go_at_call 59; refine (isort_nil _ _ _).mono ?_; rintro e w' ⟨rfl, rfl⟩)
  (try simp only [Exit.inBlock, Exit.then]); refine bodyPost_ret (results_none rfl _ _ _) rfl ?_
  exact ⟨rfl, rfl⟩
set_option maxHeartbeats 1000000 in
theorem sort_nil (cap : Nat) (fv : Value) (w : World) : Calls Try.prog 43 #[.slice Option.none 0 cap, fv] w fun e w' => e = .returned (.tuple #[]) ∧ w' = w := by
  go_enter Try.func43, Try.ntmps43
  go_wp2_with (first | (go_at_call 55; refine (len_nil _).mono ?_; rintro e w' ⟨rfl, rfl⟩) | (go_at_call 54; refine (pdq_nil _ _ _ _).mono ?_; rintro e w' ⟨rfl, rfl⟩))
  go_end0
  exact ⟨rfl, rfl⟩
/-- slices.CompactFunc of sorted marks. -/
theorem compact_mk (k : List (Int × Bool)) (g cap B : Nat) (w : World) (hr : Row w g 0 k) (hf : Rwf w g 0 (k.length * 2)) (hg : g < w.heap.size) (hB : B ≤ g) (hc : k.length ≤ cap) (hcm : cap ≤ maxLen) (hl : k.length ≤ 1000) :
    Calls Try.prog 45 #[.slice (some ⟨g, 0, Option.none⟩) k.length cap, .func (.func 46) #[] #[]] w fun e w' => e = .returned (.slice (some ⟨g, 0, Option.none⟩) (cpt k).length cap) ∧ Row w' g 0 (cpt k) ∧ Below B w w' := by
  by_cases h2 : 2 ≤ k.length
  · exact compact_two k g 0 cap B k.length w hr hf hg hB hc hcm rfl hl h2
  · refine (compact_small _ k.length cap (by omega) _ w).mono ?_
    rintro e w' ⟨rfl, rfl⟩
    have e : cpt k = k := cpt_one (by omega)
    exact ⟨by rw [e], by rw [e]; exact hr, Below.refl _ _⟩
theorem nrm_nil : nrm [] = [] := by simp [nrm, cpt]
theorem cpt_len (k : List (Int × Bool)) : (cpt k).length ≤ k.length := by
  cases k with
  | nil => simp [cpt]
  | cons x r => have := cptF_len r x.1; simp only [cpt, List.length_cons]; omega

set_option maxHeartbeats 1000000 in
theorem together_any (l : List (Int × Bool)) (v : Value) (w : World) (hs : MkS w v l) (hl : l.length ≤ 1000) : Calls Try.prog 34 #[v] w fun e w' => ∃ v', e = .returned v' ∧ MkS w' v' (nrm l) ∧ Below w.heap.size w w' := by
  have HCL := Lib.hid (clone_mk l v w hs hl)
  have HL := Lib.hid hl
  clear hs hl
  go_enter Try.func34, Try.ntmps34
  go_wp2_with (go_at_call 28; refine Hid.out ?_)
  refine Lib.hid ?_
  refine HCL.out.mono ?_
  rintro e w1 ⟨v1, rfl, hb1, hv1⟩
  rcases hv1 with ⟨rfl, rfl⟩ | ⟨g, cap, rfl, hg, hg1, hc, hcm, hr, hf⟩
  · have HB := Lib.hid hb1
    clear hb1
    go_wp2_with (first | (go_at_call 43; refine (sort_nil _ _ _).mono ?_; rintro e w' ⟨rfl, rfl⟩) | (go_at_call 45; refine (compact_small _ 0 0 (by omega) _ _).mono ?_; rintro e w' ⟨rfl, rfl⟩))
    go_ret
    exact ⟨_, rfl, by rw [nrm_nil]; exact MkS.nil _, HB.out⟩
  · have HS := Lib.hid (sort_mk l g cap w1 hr hf hg1 HL.out w.heap.size hg)
    have HB := Lib.hid hb1
    have HG := Lib.hid hg
    have HC := Lib.hid hc
    have HM := Lib.hid hcm
    clear hb1 hr hf hg hg1 hc hcm
    go_wp2_with (go_at_call 43; refine Hid.out ?_)
    refine Lib.hid ?_
    refine HS.out.mono ?_
    rintro e w2 ⟨rfl, k, hp, hst, hr, hf, hg2, hb2⟩
    have hkl : k.length = l.length := hp.length_eq
    have HP := Lib.hid (nrm_eq (nrm_of hp hst))
    have HB2 := Lib.hid (HB.out.trans hb2)
    have HK := Lib.hid (compact_mk k g cap w.heap.size w2 hr (by rw [hkl]; exact hf) hg2 HG.out (by rw [hkl]; exact HC.out) HM.out (by rw [hkl]; exact HL.out))
    have HKL := Lib.hid hkl
    rw [← hkl]
    have HG2 := Lib.hid hg2
    clear hp hst hr hf hg2 hb2 hkl
    go_wp2_with (go_at_call 45; refine Hid.out ?_)
    refine Lib.hid ?_
    refine HK.out.mono ?_
    rintro e w3 ⟨rfl, hr3, hb3⟩
    have hle : (cpt k).length ≤ cap := by have := cpt_len k; have := HKL.out; have := HC.out; omega
    have HLE := Lib.hid hle
    have HR3 := Lib.hid hr3
    have HB3 := Lib.hid hb3
    clear hle hr3 hb3
    go_wp2
    go_ret
    rw [← HP.out]
    exact ⟨_, rfl, ⟨_, cap, rfl, HLE.out, HM.out, .inr ⟨g, 0, rfl, Nat.lt_of_lt_of_le HG2.out HB3.out.size, HR3.out⟩⟩, HB2.out.trans HB3.out⟩

set_option maxHeartbeats 1000000 in
theorem arranged_any (l : List (Int × Bool)) (v : Value) (w : World) (hs : MkS w v l) (hl : l.length ≤ 1000) : Calls Try.prog 42 #[v] w fun e w' => ∃ v', e = .returned v' ∧ MkS w' v' (nrm l) ∧ Below w.heap.size w w' := by
  have HT := Lib.hid (fun w' k => together_any l v w' (hs.kept k) hl)
  have HS := Lib.hid hs
  obtain ⟨p, cap, rfl, h2, h3, h4⟩ := hs
  obtain ⟨L, hL⟩ : ∃ L, l.length = L := ⟨_, rfl⟩
  rw [hL] at HT HS h2 hl ⊢
  have HL := Lib.hid hL
  have H4 := Lib.hid h4
  clear hL h4
  go_enter Try.func42, Try.ntmps42
  go_wp2
  go_loopw [3] (fun s3 wr => ∃ k : Nat, s3 = .int .i64 (k : Int) ∧ 1 ≤ k ∧ Below w.heap.size w wr ∧ asc (l.take k)) (fun s3 _ => L - (intOf s3).toNat)
  case atStart => exact ⟨1, rfl, by omega, Below.refl _ _, by cases l <;> simp [asc]⟩
  case round =>
    obtain ⟨k, rfl, hk1, hbel, hasc⟩ := hrel
    have HB := Lib.hid hbel
    have HA := Lib.hid hasc
    clear hbel hasc
    by_cases hlt : k < L
    · obtain ⟨j, rfl⟩ : ∃ j, k = j + 1 := ⟨k - 1, by omega⟩
      obtain ⟨y, hy⟩ : ∃ y, l[j + 1]? = some y := ⟨_, List.getElem?_eq_getElem (by rw [HL.out]; exact hlt)⟩
      obtain ⟨z, hz⟩ : ∃ z, l[j]? = some z := ⟨_, List.getElem?_eq_getElem (by rw [HL.out]; omega)⟩
      obtain ⟨b, o, rfl, hb, hr⟩ : ∃ b o, p = some ⟨b, o, Option.none⟩ ∧ b < w.heap.size ∧ Row w b o l := by
        rcases H4.out with ⟨_, e⟩ | h
        · rw [e] at hy; simp at hy
        · exact h
      have hwp : IntKind.i64.wrap (j : Int) = (j : Int) := by rw [IntKind.wrap_i64]; omega
      have jz : (j : Int) + 1 < (L : Int) := by omega
      have jz1 : (j : Int) < (L : Int) := by omega
      have p0 : (0 : Int) ≤ (j : Int) + 1 := by omega
      have e0 : ((j : Int) + 1).toNat = j + 1 := by omega
      have cy0 : wr.cell? ⟨b, o + (j + 1) * 2, Option.none⟩ = some (.int .i64 y.1) := ((hr.kept hb HB.out).get hy).1
      have cz0 : wr.cell? ⟨b, o + j * 2, Option.none⟩ = some (.int .i64 z.1) := ((hr.kept hb HB.out).get hz).1
      have HY := Lib.hid hy
      have HZ := Lib.hid hz
      clear hy hz hr
      by_cases hd : z.1 < y.1
      · have hge : ¬ y.1 ≤ z.1 := by omega
        have HD := Lib.hid hd
        clear hd
        go_wp2_with fail
        go_quiet (fail)
        have HK : Hid (Below wr.heap.size wr (wr.drewN nq)) := Lib.hid ⟨rfl, rfl, rfl, Nat.le_refl _, fun _ _ => rfl⟩
        clear cy0 cz0
        generalize wr.drewN nq = w2 at HK ⊢
        go_wp2
        go_roundw
        case rel =>
          refine ⟨j + 1 + 1, by go_num, by omega, HB.out.trans (HK.out.mono HB.out.size), ?_⟩
          rw [show l.take (j + 1 + 1) = l.take (j + 1) ++ (l[j + 1]?).toList from List.take_add_one, HY.out]
          refine List.pairwise_append.2 ⟨HA.out, by simp, fun x hx q hq => ?_⟩
          simp only [Option.toList_some, List.mem_singleton] at hq
          subst hq
          rw [show l.take (j + 1) = l.take j ++ (l[j]?).toList from List.take_add_one, HZ.out] at hx
          have hA := HA.out
          rw [show l.take (j + 1) = l.take j ++ (l[j]?).toList from List.take_add_one, HZ.out] at hA
          have hA' := (List.pairwise_append.1 hA).2.2
          rcases List.mem_append.1 hx with hx | hx
          · have h1 := hA' x hx z (by simp)
            have h2 := HD.out
            omega
          · simp only [Option.toList_some, List.mem_singleton] at hx
            subst hx
            exact HD.out
        case measure => simp [intOf]; omega
      · have hge : y.1 ≤ z.1 := by omega
        clear hd
        go_wp2_with fail
        go_quiet (fail)
        have HK : Hid (Below w.heap.size w (wr.drewN nq)) := Lib.hid (HB.out.trans ⟨rfl, rfl, rfl, Nat.le_refl _, fun _ _ => rfl⟩)
        clear cy0 cz0
        generalize wr.drewN nq = w2 at HK ⊢
        go_wp2_with (go_at_call 34; refine Hid.out ?_)
        refine Lib.hid ?_
        refine (HT.out w2 HK.out).mono ?_
        rintro e w3 ⟨v', rfl, hm, hb3⟩
        have HM := Lib.hid hm
        have HB3 := Lib.hid hb3
        clear hm hb3
        go_wp2
        go_ret
        exact ⟨_, rfl, HM.out, HK.out.trans (HB3.out.mono HK.out.size)⟩
    · have hasc : asc l := by have := HA.out; rwa [List.take_of_length_le (by rw [HL.out]; omega)] at this
      have HN := Lib.hid (nrm_asc hasc)
      clear hasc
      go_wp2
      go_ret
      refine ⟨_, rfl, ?_, HB.out⟩
      rw [HN.out]
      exact HS.out.kept HB.out
end Go.Proofs.Ytcbpkagegdfidaa
