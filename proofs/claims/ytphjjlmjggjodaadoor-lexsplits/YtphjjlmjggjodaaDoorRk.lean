/- The document's Token: signs, numbers. -/
import Derived.Test.YtphjjlmjggjodaaDoorRl
set_option linter.unusedSimpArgs false
set_option linter.unusedVariables false
namespace Go.Proofs.YtphjjlmjggjodaaDoor
open Go.RowKit Ieee

set_option maxRecDepth 100000 in
set_option maxHeartbeats 3200000 in
theorem token_sign (s : ByteArray) (h0 : 0 < s.size) (hs : s.size ≤ 20000) (h1 : isDi s[0] = false) (h2 : isWo s[0] = false) (w : World) : Calls Tryd.prog 19 #[.string s] w (TokR w (tok s.data.toList)) := by
  have hd := drop_at h0
  rw [List.drop_zero] at hd
  have hdl : dlen s.data.toList = 0 := by rw [hd]; unfold dlen; simp [h1]
  have ht : Hid (tok s.data.toList = if s.data.toList.take 2 = [61, 61] ∨ s.data.toList.take 2 = [33, 61] then .ok (3, 2, 0, 0) else if isSi s[0] then .ok (3, 1, 0, 0) else .error 1) := Lib.hid (by
    have : tok s.data.toList = tok (s[0] :: s.data.toList.drop 1) := by rw [← hd]
    rw [this]
    unfold tok
    simp only [h1, h2, Bool.false_eq_true, if_false]
    rw [← hd])
  have hw := word_any s[0] true
  rw [wf_true, h1, h2] at hw
  have hl := long_any s true hs
  rw [klen_d, hdl] at hl
  have hsi := signs_any s[0]
  have p1 := prefix_any s ⟨#[61, 61]⟩ _ rfl
  have p2 := prefix_any s ⟨#[33, 61]⟩ _ rfl
  have q1 : Lib.hasPrefix s.data.toList (⟨#[61, 61]⟩ : ByteArray).data.toList = (s.data.toList.take 2 == [61, 61]) := pre_two _ _ _
  have q2 : Lib.hasPrefix s.data.toList (⟨#[33, 61]⟩ : ByteArray).data.toList = (s.data.toList.take 2 == [33, 61]) := pre_two _ _ _
  rw [q1] at p1
  rw [q2] at p2
  have F0 : Hid (fl false ((0 : Nat) : Int) = 0) := Lib.hid fl0
  clear q1 q2 hd h1 h2 hdl
  cases k1 : (s.data.toList.take 2 == [61, 61]) with
  | true =>
    rw [ht.out, if_pos (.inl (by simpa using k1))]
    rw [k1] at p1
    clear k1 ht p2 hsi
    go_enter Tryd.func19, Tryd.ntmps19
    go_wp2_with (first
      | (go_at_call 29; refine (hw _).mono ?_; rintro e w' ⟨rfl, rfl⟩)
      | (go_at_call 30; refine (hl _).mono ?_; rintro e w' ⟨rfl, rfl⟩)
      | (go_at_call 14; refine (p1 _).mono ?_; rintro e w' ⟨rfl, rfl⟩))
    refine bodyPost_ret (v := .tuple #[.int .i64 3, .int .i64 2, .complex .f64 0 0, .int .i64 0]) (by simp [results, Tryd.results19, go_sem]) rfl ⟨?_, rfl⟩
    rw [F0.out]
    rfl
  | false =>
    rw [k1] at p1
    cases k2 : (s.data.toList.take 2 == [33, 61]) with
    | true =>
      rw [ht.out, if_pos (.inr (by simpa using k2))]
      rw [k2] at p2
      clear k1 k2 ht hsi
      go_enter Tryd.func19, Tryd.ntmps19
      go_wp2_with (first
        | (go_at_call 29; refine (hw _).mono ?_; rintro e w' ⟨rfl, rfl⟩)
        | (go_at_call 30; refine (hl _).mono ?_; rintro e w' ⟨rfl, rfl⟩)
        | (go_at_call 14; with_reducible refine (p1 _).mono ?_; rintro e w' ⟨rfl, rfl⟩)
        | (go_at_call 14; with_reducible refine (p2 _).mono ?_; rintro e w' ⟨rfl, rfl⟩))
      refine bodyPost_ret (v := .tuple #[.int .i64 3, .int .i64 2, .complex .f64 0 0, .int .i64 0]) (by simp [results, Tryd.results19, go_sem]) rfl ⟨?_, rfl⟩
      rw [F0.out]
      rfl
    | false =>
      rw [k2] at p2
      have hno : ¬ (s.data.toList.take 2 = [61, 61] ∨ s.data.toList.take 2 = [33, 61]) := by
        rintro (h | h)
        · rw [h] at k1; simp at k1
        · rw [h] at k2; simp at k2
      rw [ht.out, if_neg hno]
      clear k1 k2 ht hno
      cases hsg : isSi s[0] with
      | true =>
        have HSG := Lib.hid hsg
        clear hsg
        show Calls _ _ _ _ (TokR w (.ok (3, 1, 0, 0)))
        go_enter Tryd.func19, Tryd.ntmps19
        go_wp2_with (first
          | (go_at_call 29; refine (hw _).mono ?_; rintro e w' ⟨rfl, rfl⟩)
          | (go_at_call 30; refine (hl _).mono ?_; rintro e w' ⟨rfl, rfl⟩)
          | (go_at_call 14; with_reducible refine (p1 _).mono ?_; rintro e w' ⟨rfl, rfl⟩)
          | (go_at_call 14; with_reducible refine (p2 _).mono ?_; rintro e w' ⟨rfl, rfl⟩)
          | (go_at_call 18; refine Hid.out ?_))
        refine Lib.hid ?_
        refine (hsi _).mono ?_
        rintro e w' ⟨x, rfl, hx, rfl⟩
        rw [HSG.out] at hx
        clear hsi
        go_wp2
        refine bodyPost_ret (v := .tuple #[.int .i64 3, .int .i64 1, .complex .f64 0 0, .int .i64 0]) (by simp [results, Tryd.results19, go_sem]) rfl ⟨?_, rfl⟩
        rw [F0.out]
        rfl
      | false =>
        have HSG := Lib.hid hsg
        clear hsg
        show Calls _ _ _ _ (TokR w (.error 1))
        go_enter Tryd.func19, Tryd.ntmps19
        go_wp2_with (first
          | (go_at_call 29; refine (hw _).mono ?_; rintro e w' ⟨rfl, rfl⟩)
          | (go_at_call 30; refine (hl _).mono ?_; rintro e w' ⟨rfl, rfl⟩)
          | (go_at_call 14; with_reducible refine (p1 _).mono ?_; rintro e w' ⟨rfl, rfl⟩)
          | (go_at_call 14; with_reducible refine (p2 _).mono ?_; rintro e w' ⟨rfl, rfl⟩)
          | (go_at_call 18; refine Hid.out ?_))
        refine Lib.hid ?_
        refine (hsi _).mono ?_
        rintro e w' ⟨x, rfl, hx, rfl⟩
        rw [HSG.out] at hx
        clear hsi
        go_wp2
        refine bodyPost_ret (v := .tuple #[.int .i64 0, .int .i64 0, .complex .f64 0 0, .int .i64 1]) (by simp [results, Tryd.results19, go_sem]) rfl ⟨?_, rfl⟩
        rfl

theorem val_lt (n : Nat) : ∀ l : List UInt8, l.length = n → (∀ b ∈ l, isDg b) → val l < 10 ^ n := by
  induction n with
  | zero => intro l h _; rw [List.length_eq_zero_iff.1 h]; decide
  | succ n ih =>
    intro l hl hd
    have hn : l ≠ [] := by intro e; rw [e] at hl; cases hl
    obtain ⟨m, c, rfl⟩ : ∃ m c, l = m ++ [c] := ⟨l.dropLast, l.getLast hn, (List.dropLast_concat_getLast hn).symm⟩
    have hc : isDg c := hd c (by simp)
    unfold isDg at hc
    have := ih m (by simpa using hl) (fun b hb => hd b (List.mem_append_left _ hb))
    rw [val_snoc, Nat.pow_succ]
    omega
theorem val_bd {s : ByteArray} {n : Nat} (hd : ∀ b ∈ s.data.toList.take n, isDg b) (h7 : n ≤ 7) (hn : n ≤ s.size) (k : Nat) (hk : k ≤ n) : val (s.data.toList.take k) < 10000000 := by
  have hl : (s.data.toList.take k).length = k := by rw [List.length_take, size_len]; omega
  have := val_lt k _ hl (fun b hb => hd b ((List.take_prefix_take_left (by omega)).subset hb))
  have h10 : (10 : Nat) ^ k ≤ 10 ^ 7 := Nat.pow_le_pow_right (by omega) (by omega)
  have : (10 : Nat) ^ 7 = 10000000 := by decide
  omega
theorem val_step {s : ByteArray} {n : Nat} (hd : ∀ b ∈ s.data.toList.take n, isDg b) (hn : n ≤ s.size) (k : Nat) (hk : k < n) : val (s.data.toList.take (k + 1)) = 10 * val (s.data.toList.take k) + (s[k].toNat - 48) ∧ 48 ≤ s[k].toNat ∧ s[k].toNat ≤ 57 := by
  have hks : k < s.data.toList.length := by rw [size_len]; omega
  have e : s.data.toList[k] = s[k] := rfl
  refine ⟨by rw [List.take_succ_eq_append_getElem hks, val_snoc, e], ?_⟩
  have hm : s[k] ∈ s.data.toList.take n := by
    rw [List.mem_take_iff_getElem]
    exact ⟨k, by omega, e⟩
  exact hd _ hm
theorem tok_num {l r : List UInt8} {c : UInt8} (hl : l = c :: r) (h1 : isDi c = true) (hw : woAt l (mlen l) = false) :
    tok l = if okNum l = true then .ok (2, mlen l, if mlen l = dlen l then (val (l.take (dlen l)), 0) else (0, val (l.take (dlen l)))) else .error 6 := by
  subst hl
  unfold tok
  simp only [h1, hw, if_true, Bool.false_eq_true, if_false]
theorem tok_form {l r : List UInt8} {c : UInt8} (hl : l = c :: r) (h1 : isDi c = true) (hw : woAt l (mlen l) = true) : tok l = .error 1 := by
  subst hl
  unfold tok
  simp only [h1, hw, if_true]
theorem wo_at0 {s : ByteArray} {e : Nat} (h : e < s.size) : woAt s.data.toList e = isWo s[e] := by unfold woAt; rw [list_at h]
theorem wo_no0 {s : ByteArray} {e : Nat} (h : ¬ e < s.size) : woAt s.data.toList e = false := by
  unfold woAt; rw [List.getElem?_eq_none (by rw [size_len]; omega)]

set_option maxRecDepth 100000 in
set_option maxHeartbeats 8000000 in
theorem token_num (s : ByteArray) (h0 : 0 < s.size) (hs : s.size ≤ 20000) (h1 : isDi s[0] = true) (w : World) : Calls Tryd.prog 19 #[.string s] w (TokR w (tok s.data.toList)) := by
  have hd := drop_at h0
  rw [List.drop_zero] at hd
  have hw := word_any s[0] true
  rw [wf_true, h1] at hw
  simp only [Bool.not_true, Bool.and_false] at hw
  have hl := long_any s true hs
  rw [klen_d] at hl
  obtain ⟨n, hn⟩ : ∃ n, dlen s.data.toList = n := ⟨_, rfl⟩
  rw [hn] at hl
  have HD := Lib.hid hn
  have hn1 : 1 ≤ n := by rw [← hn, hd]; exact dlen_pos h1
  have hns : n ≤ s.size := by rw [← hn, ← size_len]; exact dlen_le _
  have hds : Hid (∀ b ∈ s.data.toList.take n, isDg b) := Lib.hid (by rw [← hn]; exact digs_dg _)
  have HH : Hid (s.data.toList.head? = some s[0]) := Lib.hid (by rw [hd]; rfl)
  have e48 : ((s[0].toNat : Int) == 48) = (s[0] == 48) := byte_eq s[0] 48 (by decide)
  clear hn
  by_cases hlt : n < s.size
  · have hbe : ((s[n].toNat : Int) == 105) = (s[n] == 105) := byte_eq s[n] 105 (by decide)
    cases h105 : (s[n] == 105) with
    | true =>
      rw [h105] at hbe
      have HMM : Hid (mlen s.data.toList = n + 1) := Lib.hid (mlen_yes HD.out (by rw [list_at hlt]; simpa using h105))
      clear h105
      by_cases h2 : n + 1 < s.size
      · have hww := wo_at0 h2
        have hw2 := word_any s[n + 1] false
        rw [wf_false] at hw2
        cases hwo : isWo s[n + 1] with
        | true =>
          rw [hwo] at hww hw2
          rw [tok_form hd h1 (by rw [HMM.out]; exact hww)]
          clear hww hd hwo h1 HH HD e48
          go_enter Tryd.func19, Tryd.ntmps19
          go_wp2_with (first
            | (go_at_call 29; with_reducible refine (hw _).mono ?_; rintro e w' ⟨rfl, rfl⟩)
            | (go_at_call 29; with_reducible refine (hw2 _).mono ?_; rintro e w' ⟨rfl, rfl⟩)
            | (go_at_call 30; refine (hl _).mono ?_; rintro e w' ⟨rfl, rfl⟩))
          refine bodyPost_ret (v := .tuple #[.int .i64 0, .int .i64 0, .complex .f64 0 0, .int .i64 1]) (by simp [results, Tryd.results19, go_sem]) rfl ⟨?_, rfl⟩
          rfl
        | false =>
          rw [hwo] at hww hw2
          have hwo := hww
          have HTOK : Hid (tok s.data.toList = if okNum s.data.toList = true then .ok (2, n + 1, (0, val (s.data.toList.take n))) else .error 6) := Lib.hid (by
            have := tok_num hd h1 (by rw [HMM.out]; exact hwo)
            rw [this, HMM.out, HD.out]
            rw [if_neg (show ¬ (n + 1 = n) by omega)])
          clear hww hd hwo h1
          by_cases hT : 7 < n ∨ (1 < n ∧ s[0] = 48) ∨ (True ∧ s[0] = 48)
          · have HO : Hid (okNum s.data.toList = false) := Lib.hid (by
              unfold okNum
              rw [HD.out, HMM.out, HH.out]
              simp only [Bool.and_eq_false_iff, Bool.or_eq_false_iff, decide_eq_false_iff_not, bne_eq_false_iff_eq, Option.some.injEq]
              rcases hT with h | ⟨h, h'⟩ | ⟨h, h'⟩
              · exact .inl (.inl (.inl (by omega)))
              · exact .inl (.inl (.inr ⟨by omega, by rw [h']⟩))
              · exact .inl (.inr ⟨by omega, by rw [h']⟩))
            have HR : Hid (tok s.data.toList = .error 6) := Lib.hid (HTOK.out.trans (if_neg (by rw [HO.out]; simp)))
            rw [HR.out]
            have hor : (decide ((7 : Int) < (n : Int)) || decide ((1 : Int) < (n : Int)) && ((s[0].toNat : Int) == 48) || ((s[0].toNat : Int) == 48)) = true := by
              rw [e48]
              simp only [Bool.or_eq_true, Bool.and_eq_true, decide_eq_true_eq, beq_iff_eq]
              rcases hT with h | ⟨h, h'⟩ | ⟨h, h'⟩
              · exact .inl (.inl (by omega))
              · exact .inl (.inr ⟨by omega, h'⟩)
              · exact .inr h'
            clear hT HO HR HTOK e48
            cases x1 : decide ((7 : Int) < (n : Int)) <;> cases x2 : decide ((1 : Int) < (n : Int)) <;> cases x3 : ((s[0].toNat : Int) == 48) <;> rw [x1, x2, x3] at hor <;> (try cases hor) <;> (try clear hor)
            all_goals
              go_enter Tryd.func19, Tryd.ntmps19
              go_wp2_with (first
                | (go_at_call 29; with_reducible refine (hw _).mono ?_; rintro e w' ⟨rfl, rfl⟩)
                | (go_at_call 29; with_reducible refine (hw2 _).mono ?_; rintro e w' ⟨rfl, rfl⟩)
                | (go_at_call 30; refine (hl _).mono ?_; rintro e w' ⟨rfl, rfl⟩))
              refine bodyPost_ret (v := .tuple #[.int .i64 0, .int .i64 0, .complex .f64 0 0, .int .i64 6]) (by simp [results, Tryd.results19, go_sem]) rfl ⟨?_, rfl⟩
              rfl
          · have hn7 : n ≤ 7 := by omega
            have HOK : Hid (okNum s.data.toList = decide (val (s.data.toList.take n) ≤ 1048576)) := Lib.hid (by
              unfold okNum
              rw [HD.out, HMM.out, HH.out]
              have c1 : decide (n ≤ 7) = true := decide_eq_true hn7
              have c2 : (decide (n = 1) || some s[0] != some 48) = true := by
                simp only [Bool.or_eq_true, decide_eq_true_eq, bne_iff_ne, ne_eq, Option.some.injEq]
                by_cases h1 : n = 1
                · exact .inl h1
                · exact .inr (fun h => hT (.inr (.inl ⟨by omega, h⟩)))
              have c3 : (decide (n + 1 = n) || some s[0] != some 48) = true := by
                simp only [Bool.or_eq_true, decide_eq_true_eq, bne_iff_ne, ne_eq, Option.some.injEq]; exact .inr (fun h => hT (.inr (.inr ⟨trivial, h⟩)))
              rw [c1, c2, c3]
              simp)
            have hor : (decide ((7 : Int) < (n : Int)) || decide ((1 : Int) < (n : Int)) && ((s[0].toNat : Int) == 48) || ((s[0].toNat : Int) == 48)) = false := by
              rw [e48]
              simp only [Bool.or_eq_false_iff, Bool.and_eq_false_iff, decide_eq_false_iff_not, beq_eq_false_iff_ne, ne_eq]
              refine ⟨⟨by omega, ?_⟩, fun h => hT (.inr (.inr ⟨trivial, h⟩))⟩
              by_cases h1 : n = 1
              · exact .inl (by omega)
              · exact .inr (fun h => hT (.inr (.inl ⟨by omega, h⟩)))
            have x1 : decide ((7 : Int) < (n : Int)) = false := decide_eq_false (by omega)
            have HV := Lib.hid (val_bd hds.out hn7 hns)
            have HVS := Lib.hid (val_step hds.out hns)
            clear hT e48
            cases x2 : decide ((1 : Int) < (n : Int)) <;> cases x3 : ((s[0].toNat : Int) == 48) <;> rw [x1, x2, x3] at hor <;> (try cases hor) <;> (try clear hor)
            all_goals
              go_enter Tryd.func19, Tryd.ntmps19
              go_wp2_with (first
                | (go_at_call 29; with_reducible refine (hw _).mono ?_; rintro e w' ⟨rfl, rfl⟩)
                | (go_at_call 29; with_reducible refine (hw2 _).mono ?_; rintro e w' ⟨rfl, rfl⟩)
                | (go_at_call 30; refine (hl _).mono ?_; rintro e w' ⟨rfl, rfl⟩))
              go_loop [8, 64] (fun x i => ∃ (k X : Nat), k ≤ n ∧ X < 10000000 ∧ i = .int .i64 (k : Int) ∧ x = .int .i64 (X : Int) ∧ Hid (X = val (s.data.toList.take k))) (fun _ i => n - (intOf i).toNat)
              case atStart => exact ⟨0, 0, Nat.zero_le _, by omega, rfl, rfl, Lib.hid rfl⟩
              case round =>
                obtain ⟨k, X, hk, hX, rfl, rfl, HX⟩ := hrel
                by_cases hlt : k < n
                · have hks : k < s.size := by omega
                  obtain ⟨st, sb, sc⟩ := HVS.out k hlt
                  rw [← HX.out] at st
                  have hb := HV.out (k + 1) (by omega)
                  rw [st] at hb
                  have HST := Lib.hid st
                  clear st
                  go_wp2
                  go_round
                  case rel => exact ⟨k + 1, 10 * X + (s[k].toNat - 48), by omega, hb, by go_num, by go_num, Lib.hid HST.out.symm⟩
                  case measure => simp [intOf]; omega
                · obtain rfl : n = k := by omega
                  have hfl := floatOfInt_fl (X : Int)
                  by_cases hbig : 1048576 < X
                  · have HR : Hid (tok s.data.toList = .error 6) := Lib.hid (HTOK.out.trans (if_neg (by rw [HOK.out, ← HX.out]; simp; omega)))
                    have hb' : (1048576 : Int) < (X : Int) := by omega
                    clear HOK
                    go_wp2
                    refine bodyPost_ret (v := .tuple #[.int .i64 0, .int .i64 0, .complex .f64 0 0, .int .i64 6]) (by simp [results, Tryd.results19, go_sem]) rfl ?_
                    rw [HR.out]
                    exact ⟨rfl, rfl⟩
                  · have HR : Hid (tok s.data.toList = .ok (2, n + 1, (0, X))) := Lib.hid ((HTOK.out.trans (if_pos (by rw [HOK.out, ← HX.out]; simp; omega))).trans (by rw [← HX.out]))
                    have hb' : ¬ (1048576 : Int) < (X : Int) := by omega
                    clear HOK
                    go_wp2
                    refine bodyPost_ret (v := .tuple #[.int .i64 2, .int .i64 ((n : Int) + 1), .complex .f64 0 (fl false (X : Int)), .int .i64 0]) (by simp [results, Tryd.results19, go_sem]) rfl ?_
                    rw [HR.out]
                    refine ⟨?_, rfl⟩
                    have f0 : fl false ((0 : Nat) : Int) = 0 := fl0
                    show _ = Ending.returned (.tuple #[.int .i64 ((2 : Nat) : Int), .int .i64 ((n + 1 : Nat) : Int), .complex .f64 (fl false ((0 : Nat) : Int)) (fl false (X : Int)), .int .i64 0])
                    rw [f0]
                    rfl
      · have hwo := wo_no0 h2
        have hw2 := hw
        have HTOK : Hid (tok s.data.toList = if okNum s.data.toList = true then .ok (2, n + 1, (0, val (s.data.toList.take n))) else .error 6) := Lib.hid (by
          have := tok_num hd h1 (by rw [HMM.out]; exact hwo)
          rw [this, HMM.out, HD.out]
          rw [if_neg (show ¬ (n + 1 = n) by omega)])
        clear hd hwo h1
        by_cases hT : 7 < n ∨ (1 < n ∧ s[0] = 48) ∨ (True ∧ s[0] = 48)
        · have HO : Hid (okNum s.data.toList = false) := Lib.hid (by
            unfold okNum
            rw [HD.out, HMM.out, HH.out]
            simp only [Bool.and_eq_false_iff, Bool.or_eq_false_iff, decide_eq_false_iff_not, bne_eq_false_iff_eq, Option.some.injEq]
            rcases hT with h | ⟨h, h'⟩ | ⟨h, h'⟩
            · exact .inl (.inl (.inl (by omega)))
            · exact .inl (.inl (.inr ⟨by omega, by rw [h']⟩))
            · exact .inl (.inr ⟨by omega, by rw [h']⟩))
          have HR : Hid (tok s.data.toList = .error 6) := Lib.hid (HTOK.out.trans (if_neg (by rw [HO.out]; simp)))
          rw [HR.out]
          have hor : (decide ((7 : Int) < (n : Int)) || decide ((1 : Int) < (n : Int)) && ((s[0].toNat : Int) == 48) || ((s[0].toNat : Int) == 48)) = true := by
            rw [e48]
            simp only [Bool.or_eq_true, Bool.and_eq_true, decide_eq_true_eq, beq_iff_eq]
            rcases hT with h | ⟨h, h'⟩ | ⟨h, h'⟩
            · exact .inl (.inl (by omega))
            · exact .inl (.inr ⟨by omega, h'⟩)
            · exact .inr h'
          clear hT HO HR HTOK e48
          cases x1 : decide ((7 : Int) < (n : Int)) <;> cases x2 : decide ((1 : Int) < (n : Int)) <;> cases x3 : ((s[0].toNat : Int) == 48) <;> rw [x1, x2, x3] at hor <;> (try cases hor) <;> (try clear hor)
          all_goals
            go_enter Tryd.func19, Tryd.ntmps19
            go_wp2_with (first
              | (go_at_call 29; with_reducible refine (hw _).mono ?_; rintro e w' ⟨rfl, rfl⟩)
              | (go_at_call 29; with_reducible refine (hw2 _).mono ?_; rintro e w' ⟨rfl, rfl⟩)
              | (go_at_call 30; refine (hl _).mono ?_; rintro e w' ⟨rfl, rfl⟩))
            refine bodyPost_ret (v := .tuple #[.int .i64 0, .int .i64 0, .complex .f64 0 0, .int .i64 6]) (by simp [results, Tryd.results19, go_sem]) rfl ⟨?_, rfl⟩
            rfl
        · have hn7 : n ≤ 7 := by omega
          have HOK : Hid (okNum s.data.toList = decide (val (s.data.toList.take n) ≤ 1048576)) := Lib.hid (by
            unfold okNum
            rw [HD.out, HMM.out, HH.out]
            have c1 : decide (n ≤ 7) = true := decide_eq_true hn7
            have c2 : (decide (n = 1) || some s[0] != some 48) = true := by
              simp only [Bool.or_eq_true, decide_eq_true_eq, bne_iff_ne, ne_eq, Option.some.injEq]
              by_cases h1 : n = 1
              · exact .inl h1
              · exact .inr (fun h => hT (.inr (.inl ⟨by omega, h⟩)))
            have c3 : (decide (n + 1 = n) || some s[0] != some 48) = true := by
              simp only [Bool.or_eq_true, decide_eq_true_eq, bne_iff_ne, ne_eq, Option.some.injEq]; exact .inr (fun h => hT (.inr (.inr ⟨trivial, h⟩)))
            rw [c1, c2, c3]
            simp)
          have hor : (decide ((7 : Int) < (n : Int)) || decide ((1 : Int) < (n : Int)) && ((s[0].toNat : Int) == 48) || ((s[0].toNat : Int) == 48)) = false := by
            rw [e48]
            simp only [Bool.or_eq_false_iff, Bool.and_eq_false_iff, decide_eq_false_iff_not, beq_eq_false_iff_ne, ne_eq]
            refine ⟨⟨by omega, ?_⟩, fun h => hT (.inr (.inr ⟨trivial, h⟩))⟩
            by_cases h1 : n = 1
            · exact .inl (by omega)
            · exact .inr (fun h => hT (.inr (.inl ⟨by omega, h⟩)))
          have x1 : decide ((7 : Int) < (n : Int)) = false := decide_eq_false (by omega)
          have HV := Lib.hid (val_bd hds.out hn7 hns)
          have HVS := Lib.hid (val_step hds.out hns)
          clear hT e48
          cases x2 : decide ((1 : Int) < (n : Int)) <;> cases x3 : ((s[0].toNat : Int) == 48) <;> rw [x1, x2, x3] at hor <;> (try cases hor) <;> (try clear hor)
          all_goals
            go_enter Tryd.func19, Tryd.ntmps19
            go_wp2_with (first
              | (go_at_call 29; with_reducible refine (hw _).mono ?_; rintro e w' ⟨rfl, rfl⟩)
              | (go_at_call 29; with_reducible refine (hw2 _).mono ?_; rintro e w' ⟨rfl, rfl⟩)
              | (go_at_call 30; refine (hl _).mono ?_; rintro e w' ⟨rfl, rfl⟩))
            go_loop [8, 64] (fun x i => ∃ (k X : Nat), k ≤ n ∧ X < 10000000 ∧ i = .int .i64 (k : Int) ∧ x = .int .i64 (X : Int) ∧ Hid (X = val (s.data.toList.take k))) (fun _ i => n - (intOf i).toNat)
            case atStart => exact ⟨0, 0, Nat.zero_le _, by omega, rfl, rfl, Lib.hid rfl⟩
            case round =>
              obtain ⟨k, X, hk, hX, rfl, rfl, HX⟩ := hrel
              by_cases hlt : k < n
              · have hks : k < s.size := by omega
                obtain ⟨st, sb, sc⟩ := HVS.out k hlt
                rw [← HX.out] at st
                have hb := HV.out (k + 1) (by omega)
                rw [st] at hb
                have HST := Lib.hid st
                clear st
                go_wp2
                go_round
                case rel => exact ⟨k + 1, 10 * X + (s[k].toNat - 48), by omega, hb, by go_num, by go_num, Lib.hid HST.out.symm⟩
                case measure => simp [intOf]; omega
              · obtain rfl : n = k := by omega
                have hfl := floatOfInt_fl (X : Int)
                by_cases hbig : 1048576 < X
                · have HR : Hid (tok s.data.toList = .error 6) := Lib.hid (HTOK.out.trans (if_neg (by rw [HOK.out, ← HX.out]; simp; omega)))
                  have hb' : (1048576 : Int) < (X : Int) := by omega
                  clear HOK
                  go_wp2
                  refine bodyPost_ret (v := .tuple #[.int .i64 0, .int .i64 0, .complex .f64 0 0, .int .i64 6]) (by simp [results, Tryd.results19, go_sem]) rfl ?_
                  rw [HR.out]
                  exact ⟨rfl, rfl⟩
                · have HR : Hid (tok s.data.toList = .ok (2, n + 1, (0, X))) := Lib.hid ((HTOK.out.trans (if_pos (by rw [HOK.out, ← HX.out]; simp; omega))).trans (by rw [← HX.out]))
                  have hb' : ¬ (1048576 : Int) < (X : Int) := by omega
                  clear HOK
                  go_wp2
                  refine bodyPost_ret (v := .tuple #[.int .i64 2, .int .i64 ((n : Int) + 1), .complex .f64 0 (fl false (X : Int)), .int .i64 0]) (by simp [results, Tryd.results19, go_sem]) rfl ?_
                  rw [HR.out]
                  refine ⟨?_, rfl⟩
                  have f0 : fl false ((0 : Nat) : Int) = 0 := fl0
                  show _ = Ending.returned (.tuple #[.int .i64 ((2 : Nat) : Int), .int .i64 ((n + 1 : Nat) : Int), .complex .f64 (fl false ((0 : Nat) : Int)) (fl false (X : Int)), .int .i64 0])
                  rw [f0]
                  rfl
    | false =>
      rw [h105] at hbe
      have HMM : Hid (mlen s.data.toList = n) := Lib.hid (mlen_no HD.out (by rw [list_at hlt]; intro hx; injection hx with hx; rw [hx] at h105; cases h105))
      clear h105
      have hww := wo_at0 hlt
      have hw2 := word_any s[n] false
      rw [wf_false] at hw2
      cases hwo : isWo s[n] with
      | true =>
        rw [hwo] at hww hw2
        rw [tok_form hd h1 (by rw [HMM.out]; exact hww)]
        clear hww hd hwo h1 HH HD e48
        go_enter Tryd.func19, Tryd.ntmps19
        go_wp2_with (first
          | (go_at_call 29; with_reducible refine (hw _).mono ?_; rintro e w' ⟨rfl, rfl⟩)
          | (go_at_call 29; with_reducible refine (hw2 _).mono ?_; rintro e w' ⟨rfl, rfl⟩)
          | (go_at_call 30; refine (hl _).mono ?_; rintro e w' ⟨rfl, rfl⟩))
        refine bodyPost_ret (v := .tuple #[.int .i64 0, .int .i64 0, .complex .f64 0 0, .int .i64 1]) (by simp [results, Tryd.results19, go_sem]) rfl ⟨?_, rfl⟩
        rfl
      | false =>
        rw [hwo] at hww hw2
        have hwo := hww
        have HTOK : Hid (tok s.data.toList = if okNum s.data.toList = true then .ok (2, n, (val (s.data.toList.take n), 0)) else .error 6) := Lib.hid (by
          have := tok_num hd h1 (by rw [HMM.out]; exact hwo)
          rw [this, HMM.out, HD.out]
          rw [if_pos rfl])
        clear hww hd hwo h1
        by_cases hT : 7 < n ∨ (1 < n ∧ s[0] = 48) ∨ (False ∧ s[0] = 48)
        · have HO : Hid (okNum s.data.toList = false) := Lib.hid (by
            unfold okNum
            rw [HD.out, HMM.out, HH.out]
            simp only [Bool.and_eq_false_iff, Bool.or_eq_false_iff, decide_eq_false_iff_not, bne_eq_false_iff_eq, Option.some.injEq]
            rcases hT with h | ⟨h, h'⟩ | ⟨h, h'⟩
            · exact .inl (.inl (.inl (by omega)))
            · exact .inl (.inl (.inr ⟨by omega, by rw [h']⟩))
            · exact h.elim)
          have HR : Hid (tok s.data.toList = .error 6) := Lib.hid (HTOK.out.trans (if_neg (by rw [HO.out]; simp)))
          rw [HR.out]
          have hor : (decide ((7 : Int) < (n : Int)) || decide ((1 : Int) < (n : Int)) && ((s[0].toNat : Int) == 48)) = true := by
            rw [e48]
            simp only [Bool.or_eq_true, Bool.and_eq_true, decide_eq_true_eq, beq_iff_eq]
            rcases hT with h | ⟨h, h'⟩ | ⟨h, h'⟩
            · exact .inl (by omega)
            · exact .inr ⟨by omega, h'⟩
            · exact h.elim
          clear hT HO HR HTOK e48
          cases x1 : decide ((7 : Int) < (n : Int)) <;> cases x2 : decide ((1 : Int) < (n : Int)) <;> cases x3 : ((s[0].toNat : Int) == 48) <;> rw [x1, x2, x3] at hor <;> (try cases hor) <;> (try clear hor)
          all_goals
            go_enter Tryd.func19, Tryd.ntmps19
            go_wp2_with (first
              | (go_at_call 29; with_reducible refine (hw _).mono ?_; rintro e w' ⟨rfl, rfl⟩)
              | (go_at_call 29; with_reducible refine (hw2 _).mono ?_; rintro e w' ⟨rfl, rfl⟩)
              | (go_at_call 30; refine (hl _).mono ?_; rintro e w' ⟨rfl, rfl⟩))
            refine bodyPost_ret (v := .tuple #[.int .i64 0, .int .i64 0, .complex .f64 0 0, .int .i64 6]) (by simp [results, Tryd.results19, go_sem]) rfl ⟨?_, rfl⟩
            rfl
        · have hn7 : n ≤ 7 := by omega
          have HOK : Hid (okNum s.data.toList = decide (val (s.data.toList.take n) ≤ 1048576)) := Lib.hid (by
            unfold okNum
            rw [HD.out, HMM.out, HH.out]
            have c1 : decide (n ≤ 7) = true := decide_eq_true hn7
            have c2 : (decide (n = 1) || some s[0] != some 48) = true := by
              simp only [Bool.or_eq_true, decide_eq_true_eq, bne_iff_ne, ne_eq, Option.some.injEq]
              by_cases h1 : n = 1
              · exact .inl h1
              · exact .inr (fun h => hT (.inr (.inl ⟨by omega, h⟩)))
            have c3 : (decide (n = n) || some s[0] != some 48) = true := by
              simp
            rw [c1, c2, c3]
            simp)
          have hor : (decide ((7 : Int) < (n : Int)) || decide ((1 : Int) < (n : Int)) && ((s[0].toNat : Int) == 48)) = false := by
            rw [e48]
            simp only [Bool.or_eq_false_iff, Bool.and_eq_false_iff, decide_eq_false_iff_not, beq_eq_false_iff_ne, ne_eq]
            refine ⟨by omega, ?_⟩
            by_cases h1 : n = 1
            · exact .inl (by omega)
            · exact .inr (fun h => hT (.inr (.inl ⟨by omega, h⟩)))
          have x1 : decide ((7 : Int) < (n : Int)) = false := decide_eq_false (by omega)
          have HV := Lib.hid (val_bd hds.out hn7 hns)
          have HVS := Lib.hid (val_step hds.out hns)
          clear hT e48
          cases x2 : decide ((1 : Int) < (n : Int)) <;> cases x3 : ((s[0].toNat : Int) == 48) <;> rw [x1, x2, x3] at hor <;> (try cases hor) <;> (try clear hor)
          all_goals
            go_enter Tryd.func19, Tryd.ntmps19
            go_wp2_with (first
              | (go_at_call 29; with_reducible refine (hw _).mono ?_; rintro e w' ⟨rfl, rfl⟩)
              | (go_at_call 29; with_reducible refine (hw2 _).mono ?_; rintro e w' ⟨rfl, rfl⟩)
              | (go_at_call 30; refine (hl _).mono ?_; rintro e w' ⟨rfl, rfl⟩))
            go_loop [8, 64] (fun x i => ∃ (k X : Nat), k ≤ n ∧ X < 10000000 ∧ i = .int .i64 (k : Int) ∧ x = .int .i64 (X : Int) ∧ Hid (X = val (s.data.toList.take k))) (fun _ i => n - (intOf i).toNat)
            case atStart => exact ⟨0, 0, Nat.zero_le _, by omega, rfl, rfl, Lib.hid rfl⟩
            case round =>
              obtain ⟨k, X, hk, hX, rfl, rfl, HX⟩ := hrel
              by_cases hlt : k < n
              · have hks : k < s.size := by omega
                obtain ⟨st, sb, sc⟩ := HVS.out k hlt
                rw [← HX.out] at st
                have hb := HV.out (k + 1) (by omega)
                rw [st] at hb
                have HST := Lib.hid st
                clear st
                go_wp2
                go_round
                case rel => exact ⟨k + 1, 10 * X + (s[k].toNat - 48), by omega, hb, by go_num, by go_num, Lib.hid HST.out.symm⟩
                case measure => simp [intOf]; omega
              · obtain rfl : n = k := by omega
                have hfl := floatOfInt_fl (X : Int)
                by_cases hbig : 1048576 < X
                · have HR : Hid (tok s.data.toList = .error 6) := Lib.hid (HTOK.out.trans (if_neg (by rw [HOK.out, ← HX.out]; simp; omega)))
                  have hb' : (1048576 : Int) < (X : Int) := by omega
                  clear HOK
                  go_wp2
                  refine bodyPost_ret (v := .tuple #[.int .i64 0, .int .i64 0, .complex .f64 0 0, .int .i64 6]) (by simp [results, Tryd.results19, go_sem]) rfl ?_
                  rw [HR.out]
                  exact ⟨rfl, rfl⟩
                · have HR : Hid (tok s.data.toList = .ok (2, n, (X, 0))) := Lib.hid ((HTOK.out.trans (if_pos (by rw [HOK.out, ← HX.out]; simp; omega))).trans (by rw [← HX.out]))
                  have hb' : ¬ (1048576 : Int) < (X : Int) := by omega
                  clear HOK
                  go_wp2
                  refine bodyPost_ret (v := .tuple #[.int .i64 2, .int .i64 ((n : Int)), .complex .f64 (fl false (X : Int)) 0, .int .i64 0]) (by simp [results, Tryd.results19, go_sem]) rfl ?_
                  rw [HR.out]
                  refine ⟨?_, rfl⟩
                  have f0 : fl false ((0 : Nat) : Int) = 0 := fl0
                  show _ = Ending.returned (.tuple #[.int .i64 ((2 : Nat) : Int), .int .i64 (n : Int), .complex .f64 (fl false (X : Int)) (fl false ((0 : Nat) : Int)), .int .i64 0])
                  rw [f0]
                  rfl
  · have HMM : Hid (mlen s.data.toList = n) := Lib.hid (mlen_no HD.out (by rw [List.getElem?_eq_none (by rw [size_len]; omega)]; simp))
    have hwo := wo_no0 hlt
    have hw2 := hw
    have HTOK : Hid (tok s.data.toList = if okNum s.data.toList = true then .ok (2, n, (val (s.data.toList.take n), 0)) else .error 6) := Lib.hid (by
      have := tok_num hd h1 (by rw [HMM.out]; exact hwo)
      rw [this, HMM.out, HD.out]
      rw [if_pos rfl])
    clear hd hwo h1
    by_cases hT : 7 < n ∨ (1 < n ∧ s[0] = 48) ∨ (False ∧ s[0] = 48)
    · have HO : Hid (okNum s.data.toList = false) := Lib.hid (by
        unfold okNum
        rw [HD.out, HMM.out, HH.out]
        simp only [Bool.and_eq_false_iff, Bool.or_eq_false_iff, decide_eq_false_iff_not, bne_eq_false_iff_eq, Option.some.injEq]
        rcases hT with h | ⟨h, h'⟩ | ⟨h, h'⟩
        · exact .inl (.inl (.inl (by omega)))
        · exact .inl (.inl (.inr ⟨by omega, by rw [h']⟩))
        · exact h.elim)
      have HR : Hid (tok s.data.toList = .error 6) := Lib.hid (HTOK.out.trans (if_neg (by rw [HO.out]; simp)))
      rw [HR.out]
      have hor : (decide ((7 : Int) < (n : Int)) || decide ((1 : Int) < (n : Int)) && ((s[0].toNat : Int) == 48)) = true := by
        rw [e48]
        simp only [Bool.or_eq_true, Bool.and_eq_true, decide_eq_true_eq, beq_iff_eq]
        rcases hT with h | ⟨h, h'⟩ | ⟨h, h'⟩
        · exact .inl (by omega)
        · exact .inr ⟨by omega, h'⟩
        · exact h.elim
      clear hT HO HR HTOK e48
      cases x1 : decide ((7 : Int) < (n : Int)) <;> cases x2 : decide ((1 : Int) < (n : Int)) <;> cases x3 : ((s[0].toNat : Int) == 48) <;> rw [x1, x2, x3] at hor <;> (try cases hor) <;> (try clear hor)
      all_goals
        go_enter Tryd.func19, Tryd.ntmps19
        go_wp2_with (first
          | (go_at_call 29; with_reducible refine (hw _).mono ?_; rintro e w' ⟨rfl, rfl⟩)
          | (go_at_call 29; with_reducible refine (hw2 _).mono ?_; rintro e w' ⟨rfl, rfl⟩)
          | (go_at_call 30; refine (hl _).mono ?_; rintro e w' ⟨rfl, rfl⟩))
        refine bodyPost_ret (v := .tuple #[.int .i64 0, .int .i64 0, .complex .f64 0 0, .int .i64 6]) (by simp [results, Tryd.results19, go_sem]) rfl ⟨?_, rfl⟩
        rfl
    · have hn7 : n ≤ 7 := by omega
      have HOK : Hid (okNum s.data.toList = decide (val (s.data.toList.take n) ≤ 1048576)) := Lib.hid (by
        unfold okNum
        rw [HD.out, HMM.out, HH.out]
        have c1 : decide (n ≤ 7) = true := decide_eq_true hn7
        have c2 : (decide (n = 1) || some s[0] != some 48) = true := by
          simp only [Bool.or_eq_true, decide_eq_true_eq, bne_iff_ne, ne_eq, Option.some.injEq]
          by_cases h1 : n = 1
          · exact .inl h1
          · exact .inr (fun h => hT (.inr (.inl ⟨by omega, h⟩)))
        have c3 : (decide (n = n) || some s[0] != some 48) = true := by
          simp
        rw [c1, c2, c3]
        simp)
      have hor : (decide ((7 : Int) < (n : Int)) || decide ((1 : Int) < (n : Int)) && ((s[0].toNat : Int) == 48)) = false := by
        rw [e48]
        simp only [Bool.or_eq_false_iff, Bool.and_eq_false_iff, decide_eq_false_iff_not, beq_eq_false_iff_ne, ne_eq]
        refine ⟨by omega, ?_⟩
        by_cases h1 : n = 1
        · exact .inl (by omega)
        · exact .inr (fun h => hT (.inr (.inl ⟨by omega, h⟩)))
      have x1 : decide ((7 : Int) < (n : Int)) = false := decide_eq_false (by omega)
      have HV := Lib.hid (val_bd hds.out hn7 hns)
      have HVS := Lib.hid (val_step hds.out hns)
      clear hT e48
      cases x2 : decide ((1 : Int) < (n : Int)) <;> cases x3 : ((s[0].toNat : Int) == 48) <;> rw [x1, x2, x3] at hor <;> (try cases hor) <;> (try clear hor)
      all_goals
        go_enter Tryd.func19, Tryd.ntmps19
        go_wp2_with (first
          | (go_at_call 29; with_reducible refine (hw _).mono ?_; rintro e w' ⟨rfl, rfl⟩)
          | (go_at_call 29; with_reducible refine (hw2 _).mono ?_; rintro e w' ⟨rfl, rfl⟩)
          | (go_at_call 30; refine (hl _).mono ?_; rintro e w' ⟨rfl, rfl⟩))
        go_loop [8, 64] (fun x i => ∃ (k X : Nat), k ≤ n ∧ X < 10000000 ∧ i = .int .i64 (k : Int) ∧ x = .int .i64 (X : Int) ∧ Hid (X = val (s.data.toList.take k))) (fun _ i => n - (intOf i).toNat)
        case atStart => exact ⟨0, 0, Nat.zero_le _, by omega, rfl, rfl, Lib.hid rfl⟩
        case round =>
          obtain ⟨k, X, hk, hX, rfl, rfl, HX⟩ := hrel
          by_cases hlt : k < n
          · have hks : k < s.size := by omega
            obtain ⟨st, sb, sc⟩ := HVS.out k hlt
            rw [← HX.out] at st
            have hb := HV.out (k + 1) (by omega)
            rw [st] at hb
            have HST := Lib.hid st
            clear st
            go_wp2
            go_round
            case rel => exact ⟨k + 1, 10 * X + (s[k].toNat - 48), by omega, hb, by go_num, by go_num, Lib.hid HST.out.symm⟩
            case measure => simp [intOf]; omega
          · obtain rfl : n = k := by omega
            have hfl := floatOfInt_fl (X : Int)
            by_cases hbig : 1048576 < X
            · have HR : Hid (tok s.data.toList = .error 6) := Lib.hid (HTOK.out.trans (if_neg (by rw [HOK.out, ← HX.out]; simp; omega)))
              have hb' : (1048576 : Int) < (X : Int) := by omega
              clear HOK
              go_wp2
              refine bodyPost_ret (v := .tuple #[.int .i64 0, .int .i64 0, .complex .f64 0 0, .int .i64 6]) (by simp [results, Tryd.results19, go_sem]) rfl ?_
              rw [HR.out]
              exact ⟨rfl, rfl⟩
            · have HR : Hid (tok s.data.toList = .ok (2, n, (X, 0))) := Lib.hid ((HTOK.out.trans (if_pos (by rw [HOK.out, ← HX.out]; simp; omega))).trans (by rw [← HX.out]))
              have hb' : ¬ (1048576 : Int) < (X : Int) := by omega
              clear HOK
              go_wp2
              refine bodyPost_ret (v := .tuple #[.int .i64 2, .int .i64 ((n : Int)), .complex .f64 (fl false (X : Int)) 0, .int .i64 0]) (by simp [results, Tryd.results19, go_sem]) rfl ?_
              rw [HR.out]
              refine ⟨?_, rfl⟩
              have f0 : fl false ((0 : Nat) : Int) = 0 := fl0
              show _ = Ending.returned (.tuple #[.int .i64 ((2 : Nat) : Int), .int .i64 (n : Int), .complex .f64 (fl false (X : Int)) (fl false ((0 : Nat) : Int)), .int .i64 0])
              rw [f0]
              rfl

theorem token_any (s : ByteArray) (h0 : 0 < s.size) (hs : s.size ≤ 20000) (w : World) : Calls Tryd.prog 19 #[.string s] w (TokR w (tok s.data.toList)) := by
  cases h1 : isDi s[0] with
  | true => exact token_num s h0 hs h1 w
  | false =>
    cases h2 : isWo s[0] with
    | true => exact token_word s h0 hs h1 h2 w
    | false => exact token_sign s h0 hs h1 h2 w
end Go.Proofs.YtphjjlmjggjodaaDoor
