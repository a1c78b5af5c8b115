/- LexAgain: whatever the text, the law answers true. -/
import Derived.Test.YtphjjlmjggjodaaDoorWp
set_option linter.unusedSimpArgs false
set_option linter.unusedVariables false
namespace Go.Proofs.YtphjjlmjggjodaaDoor
open Go.RowKit Ieee

theorem cat_big (x y : List UInt8) (hx : x.length ≤ 20000) (hy : y.length ≤ 20000) (w : World) : (Op.stringOp .add ⟨x.toArray⟩ ⟨y.toArray⟩).run Tryd.prog w = .ok (.string ⟨(x ++ y).toArray⟩) w :=
  run_string_add_lists w x y (by omega) (by omega)
theorem glue_len (s : List UInt8) : ∀ (ts : List Tk) (q : Nat), Places s q ts → (glue ts).length + q ≤ s.length + ts.length
  | [], q, h => h.elim
  | [t], q, h => by
    have h1 := h.2.2.1; have h2 := h.2.2.2; have h3 := h.2.1
    simp [glue, h3]; omega
  | t :: u :: ts, q, h => by
    obtain ⟨h1, h2, h3, h4, h5, h6⟩ := h
    have hl := glue_len s (u :: ts) _ h6
    have e : glue (t :: u :: ts) = t.text ++ [32] ++ glue (u :: ts) := rfl
    rw [e]
    simp only [List.length_cons, List.length_append, List.length_nil] at hl ⊢
    omega
theorem glue_snoc {ts : List Tk} {j : Nat} {t : Tk} (h : ts[j]? = some t) : glue (ts.take (j + 1)) = glue (ts.take j) ++ (t.text ++ [32]) := by
  obtain ⟨hj, he⟩ := List.getElem?_eq_some_iff.1 h
  rw [List.take_succ_eq_append_getElem hj, he]
  unfold glue
  simp
theorem glue_take (ts : List Tk) (j : Nat) : (glue (ts.take j)).length ≤ (glue ts).length := by
  have : glue ts = glue (ts.take j) ++ glue (ts.drop j) := by unfold glue; rw [← List.flatMap_append, List.take_append_drop]
  rw [this]; simp
theorem core_at {ts us : List Tk} (h : us.map core = ts.map core) {j : Nat} {t : Tk} (ht : ts[j]? = some t) : ∃ u, us[j]? = some u ∧ u.kind = t.kind ∧ u.text = t.text ∧ u.re = t.re ∧ u.im = t.im := by
  have h1 : (us.map core)[j]? = (ts.map core)[j]? := by rw [h]
  rw [List.getElem?_map, List.getElem?_map, ht] at h1
  cases hu : us[j]? with
  | none => rw [hu] at h1; simp at h1
  | some u =>
    rw [hu] at h1
    simp [core] at h1
    exact ⟨u, rfl, h1.1, h1.2.1, h1.2.2.1, h1.2.2.2⟩

set_option maxRecDepth 100000 in
set_option maxHeartbeats 8000000 in
theorem wagain (s : ByteArray) (w : World) (hb : Lb w) : Calls Tryd.prog 5 #[.string s] w fun e w' => e = .returned (.bool true) ∧ Below w.heap.size w w' := by
  have HB := Lib.hid hb
  have haw := awake w hb
  clear hb
  by_cases hs : s.size ≤ 1000
  · have hs1 : ¬ (1000 : Int) < (s.size : Int) := by omega
    have hsp := fun w (hb : Lb w) => splitT s (by omega) w hb
    have hpl := spl_places s.data.toList s.data.toList.length s.data.toList 0 (Nat.le_refl _) (Nat.zero_le _) rfl
    cases hr : spl s.data.toList 0 with
    | error q =>
      obtain ⟨p, c⟩ := q
      rw [hr] at hpl
      simp only [hr] at hsp
      obtain ⟨hp, hc⟩ := hpl
      have hcn : ((c : Int) != 0) = true := by simp; omega
      have HSP := Lib.hid hsp
      clear hr hsp hc
      go_enter Tryd.func5, Tryd.ntmps5
      go_wp2_with (go_at_call 9; refine Hid.out ?_)
      refine Lib.hid ?_
      refine haw.mono ?_
      rintro e w1 ⟨rfl, hb1⟩
      have HB1 := Lib.hid hb1
      have hs2 := HSP.out w1 (HB.out.on hb1)
      clear hb1 haw
      go_wp2_with (go_at_call 10; refine Hid.out ?_)
      refine Lib.hid ?_
      refine hs2.mono ?_
      rintro e w2 ⟨rfl, hb2⟩
      have HB2 := Lib.hid hb2
      clear hb2 hs2
      go_wp2
      go_ret
      exact ⟨rfl, below_trans HB1.out HB2.out⟩
    | ok ts =>
      rw [hr] at hpl
      simp only [hr] at hsp
      have HPL : Hid (Places s.data.toList 0 ts) := Lib.hid hpl
      have hn1 := places_len _ _ _ HPL.out
      have hgl := glue_len _ _ _ HPL.out
      rw [size_len] at hn1 hgl
      have HSM := Lib.hid (spl_small _ _ _ _ (Nat.le_refl _) hr)
      obtain ⟨us, hus, hcore⟩ := spl_glue _ _ _ 0 ts (Nat.le_refl _) hr
      have HC := Lib.hid hcore
      have hul : us.length = ts.length := by have := congrArg List.length hcore; simpa using this
      have hsp2 := fun w (hb : Lb w) => splitT ⟨(glue ts).toArray⟩ (by rw [size_mk]; omega) w hb
      have e0 : (⟨(glue ts).toArray⟩ : ByteArray).data.toList = glue ts := rfl
      simp only [e0, hus] at hsp2
      have HSP := Lib.hid hsp
      have HSP2 := Lib.hid hsp2
      have hn0 : 0 < ts.length := List.length_pos_iff.2 (spl_ne hr)
      have hst := store_cx
      clear hr hsp hpl hsp2 e0 hus hcore
      go_enter Tryd.func5, Tryd.ntmps5
      go_wp2_with (go_at_call 9; refine Hid.out ?_)
      refine Lib.hid ?_
      refine haw.mono ?_
      rintro e w1 ⟨rfl, hb1⟩
      have HB1 := Lib.hid hb1
      have hs2 := HSP.out w1 (HB.out.on hb1)
      clear hb1 haw
      go_wp2_with (go_at_call 10; refine Hid.out ?_)
      refine Lib.hid ?_
      refine hs2.mono ?_
      rintro e w2 ⟨g, cap, rfl, hg, htk, hb2⟩
      have HB2 := Lib.hid (below_trans HB1.out hb2)
      have HTK := Lib.hid htk
      clear hb2 hs2 htk
      generalize hN : ts.length = n at *
      have HN := Lib.hid hN
      have HUL := Lib.hid hul
      clear hN hul
      obtain ⟨gl, hgll⟩ : ∃ gl, (glue ts).length = gl := ⟨_, rfl⟩
      rw [hgll] at hgl
      have HGL := Lib.hid hgll
      clear hgll
      go_wp2
      go_loopw [6, 28] (fun x i wr => ∃ (j : Nat) (X : ByteArray), j ≤ n ∧ i = .int .i64 (j : Int) ∧ x = .string X ∧ Below w2.heap.size w2 wr ∧ Hid (X = ⟨(glue (ts.take j)).toArray⟩)) (fun _ i _ => n - (intOf i).toNat)
      case atStart => exact ⟨0, ⟨#[]⟩, Nat.zero_le _, rfl, rfl, Below.refl _ _, Lib.hid rfl⟩
      case round =>
        obtain ⟨j, X, hj, rfl, rfl, hbr, HX⟩ := hrel
        by_cases hlt : j < n
        · obtain ⟨t, ht⟩ : ∃ t, ts[j]? = some t := ⟨ts[j]'(by rw [HN.out]; exact hlt), List.getElem?_eq_getElem _⟩
          obtain ⟨k0, k1, k2, k3⟩ := (HTK.out.on hbr hg) j t ht
          have hsn := glue_snoc ht
          have htl := glue_take ts (j + 1)
          rw [hsn, HGL.out] at htl
          simp only [List.length_append, List.length_cons, List.length_nil] at htl
          obtain ⟨T, hT⟩ : ∃ T : ByteArray, T = ⟨t.text.toArray⟩ := ⟨_, rfl⟩
          obtain ⟨T2, hT2⟩ : ∃ T : ByteArray, T = ⟨(t.text ++ [32]).toArray⟩ := ⟨_, rfl⟩
          obtain ⟨X2, hX2⟩ : ∃ X2 : ByteArray, X2 = ⟨(glue (ts.take (j + 1))).toArray⟩ := ⟨_, rfl⟩
          rw [← hT] at k1
          have c1 : ∀ w : World, (Op.stringOp .add T ⟨#[32]⟩).run Tryd.prog w = .ok (.string T2) w := fun w => by rw [hT, hT2]; exact cat_big t.text [32] (by omega) (by simp) w
          have c2 : ∀ w : World, (Op.stringOp .add X T2).run Tryd.prog w = .ok (.string X2) w := fun w => by rw [HX.out, hT2, hX2, hsn]; exact cat_big _ _ (by omega) (by simp; omega) w
          have HX2 := Lib.hid hX2
          have HBR := Lib.hid hbr
          clear hX2 hT hT2 hsn htl hbr ht HX
          generalize fl false (t.re : Int) = fr at *
          generalize fl false (t.im : Int) = fi at *
          generalize t.kind = kd at *
          generalize t.pos = ps at *
          go_wp2
          go_roundw
          case rel => exact ⟨j + 1, X2, by omega, by go_num, rfl, HBR.out.alloc HBR.out.size _, HX2⟩
          case measure => simp [intOf]; omega
        · obtain rfl : n = j := by omega
          have hXg : X = ⟨(glue ts).toArray⟩ := by rw [HX.out, List.take_of_length_le (by rw [HN.out]; exact Nat.le_refl _)]
          subst hXg
          have HBR := Lib.hid (below_trans HB2.out hbr)
          have HTK2 := Lib.hid (HTK.out.on hbr hg)
          have hg2 : g < wr.heap.size := Nat.lt_of_lt_of_le hg hbr.size
          have hs3 := HSP2.out wr (HB.out.on HBR.out)
          clear hbr HX
          go_wp2_with (go_at_call 10; refine Hid.out ?_)
          refine Lib.hid ?_
          refine hs3.mono ?_
          rintro e w3 ⟨g', cap', rfl, hg', htk', hb3⟩
          have HB3 := Lib.hid (below_trans HBR.out hb3)
          have HB3S := Lib.hid hb3.size
          have HTK3 := Lib.hid (HTK2.out.on hb3 hg2)
          have HTK4 := Lib.hid htk'
          rw [HUL.out]
          clear hb3 hs3 htk'
          have hnn : ((n : Int) != (n : Int)) = false := by simp
          go_wp2
          go_loopw [55] (fun i wr => ∃ (j : Nat) , j ≤ n ∧ i = .int .i64 (j : Int) ∧ Below w3.heap.size w3 wr) (fun i _ => n - (intOf i).toNat)
          case atStart => exact ⟨0, Nat.zero_le _, rfl, Below.refl _ _⟩
          case round =>
            obtain ⟨j, hj, rfl, hbr⟩ := hrel
            have HBR3 := Lib.hid hbr
            clear hbr
            have hg3 : g < w3.heap.size := Nat.lt_of_lt_of_le hg2 HB3S.out
            by_cases hlt : j < n
            · obtain ⟨t, ht⟩ : ∃ t, ts[j]? = some t := ⟨ts[j]'(by rw [HN.out]; exact hlt), List.getElem?_eq_getElem _⟩
              obtain ⟨u, hu, e1, e2, e3, e4⟩ := core_at HC.out ht
              obtain ⟨k0, k1, k2, k3⟩ := (HTK3.out.on HBR3.out hg3) j t ht
              obtain ⟨v0, v1, v2, v3⟩ := (HTK4.out.on HBR3.out hg') j u hu
              obtain ⟨s1, s2⟩ := HSM.out t (List.mem_of_getElem? ht)
              have f1 := ord_fl s1
              have f2 := ord_fl s2
              rw [e1] at v0
              rw [e2] at v1
              rw [e3, e4] at v2
              have b1 : ((t.kind : Int) != (t.kind : Int)) = false := by simp
              clear ht hu e1 e2 e3 e4 s1 s2 k3 v3
              generalize fl false (t.re : Int) = fr at *
              generalize fl false (t.im : Int) = fi at *
              generalize (⟨t.text.toArray⟩ : ByteArray) = T at *
              have b2 : (T.toList != T.toList) = false := by simp
              generalize t.kind = kd at *
              go_wp2
              go_quiet (fail)
              go_wp2
              go_roundw
              case rel => exact ⟨j + 1, by omega, by go_num, below_drewN HBR3.out _⟩
              case measure => simp [intOf]; omega
            · go_wp2
              go_ret
              exact ⟨rfl, below_trans HB3.out HBR3.out⟩
  · have hs1 : (1000 : Int) < (s.size : Int) := by omega
    go_enter Tryd.func5, Tryd.ntmps5
    go_wp2_with (go_at_call 9; refine Hid.out ?_)
    refine Lib.hid ?_
    refine haw.mono ?_
    rintro e w1 ⟨rfl, hb1⟩
    have HB1 := Lib.hid hb1
    clear hb1 haw
    go_wp2
    go_ret
    exact ⟨rfl, HB1.out⟩
end Go.Proofs.YtphjjlmjggjodaaDoor
