/- lex.tokenAt: the token that begins at a place, or why none does. -/
import Derived.Test.YtgiioflkclkioaaGreatDoorNa
set_option linter.unusedSimpArgs false
set_option linter.unusedVariables false
namespace Go.Proofs.YtgiioflkclkioaaGreatDoor
open Go.RowKit Ieee

theorem tw_at (f : UInt8 → Bool) : ∀ (m : List UInt8) (k : Nat), k ≤ (m.takeWhile f).length → (k < (m.takeWhile f).length ↔ ∃ c, m[k]? = some c ∧ f c = true)
  | [], k, h => by simp
  | c :: r, 0, h => by
    rw [List.takeWhile_cons]
    by_cases hc : f c = true
    · simp [hc]
    · simp [hc]
  | c :: r, k + 1, h => by
    rw [List.takeWhile_cons] at h ⊢
    by_cases hc : f c = true
    · rw [if_pos hc] at h ⊢
      simp only [List.length_cons, Nat.add_lt_add_iff_right, Nat.add_le_add_iff_right, List.getElem?_cons_succ] at h ⊢
      exact tw_at f r k h
    · rw [if_neg hc] at h
      simp at h
theorem drop_get {s : ByteArray} {k j : Nat} (h : j < s.size) (hk : k ≤ j) : (s.data.toList.drop k)[j - k]? = some s[j] := by
  rw [List.getElem?_drop, show k + (j - k) = j by omega, List.getElem?_eq_getElem (by rw [size_len]; exact h)]
  rfl
theorem drop_none {s : ByteArray} {k j : Nat} (h : ¬ j < s.size) (hk : k ≤ j) : (s.data.toList.drop k)[j - k]? = none := by
  rw [List.getElem?_drop, List.getElem?_eq_none (by rw [size_len]; omega)]
theorem run_step (f : UInt8 → Bool) {s : ByteArray} {k e : Nat} (hk : k ≤ e) (h1 : e + 1 < s.size) (h : e - k < ((s.data.toList.drop k).takeWhile f).length) :
    (f s[e + 1] = true → e + 1 - k < ((s.data.toList.drop k).takeWhile f).length) ∧ (f s[e + 1] = false → ((s.data.toList.drop k).takeWhile f).length = e + 1 - k) := by
  have hw := tw_at f (s.data.toList.drop k) (e + 1 - k) (by omega)
  rw [drop_get h1 (by omega)] at hw
  constructor
  · intro hf
    exact hw.2 ⟨_, rfl, hf⟩
  · intro hf
    have : ¬ (e + 1 - k < ((s.data.toList.drop k).takeWhile f).length) := by
      intro hx
      obtain ⟨c, hc, hc'⟩ := hw.1 hx
      injection hc with hc
      rw [← hc, hf] at hc'
      cases hc'
    omega
theorem run_stop (f : UInt8 → Bool) {s : ByteArray} {k e : Nat} (hk : k ≤ e) (h1 : ¬ e + 1 < s.size) (h : e - k < ((s.data.toList.drop k).takeWhile f).length) (hs : e < s.size) : ((s.data.toList.drop k).takeWhile f).length = e + 1 - k := by
  have := tw_len f (s.data.toList.drop k)
  rw [List.length_drop, size_len] at this
  omega
theorem mlen_yes {m : List UInt8} {n : Nat} (hd : dlen m = n) (h : m[n]? = some 105) : mlen m = n + 1 := by unfold mlen; rw [hd, if_pos h]
theorem mlen_no {m : List UInt8} {n : Nat} (hd : dlen m = n) (h : m[n]? ≠ some 105) : mlen m = n := by unfold mlen; rw [hd, if_neg h]
theorem ext_take (s : ByteArray) (k e n : Nat) (h : e - k = n) : s.extract k e = ⟨((s.data.toList.drop k).take n).toArray⟩ := by
  rw [Lib.extract_eq, h]
theorem tat_end (k : Nat) : tat [] k = (⟨0, [], 0, 0, k⟩, 0) := rfl
theorem tat_word {c : UInt8} {r : List UInt8} (h1 : isDi c = false) (h2 : isWo c = true) (k : Nat) : tat (c :: r) k = (⟨1, (c :: r).take (wlen (c :: r)), 0, 0, k⟩, 0) := by
  unfold tat tok
  simp [h1, h2]
theorem tat_sign {c : UInt8} {r : List UInt8} (h1 : isDi c = false) (h2 : isWo c = false) (k : Nat) : tat (c :: r) k = if sgl (c :: r) = 0 then (⟨0, [], 0, 0, 0⟩, 1) else (⟨3, (c :: r).take (sgl (c :: r)), 0, 0, k⟩, 0) := by
  unfold tat tok sgl
  simp only [if_neg (List.cons_ne_nil c r), h1, h2, Bool.false_eq_true, if_false]
  by_cases h3 : (c :: r).take 2 = [61, 61] ∨ (c :: r).take 2 = [33, 61]
  · simp only [if_pos h3]
    rfl
  · simp only [if_neg h3]
    cases h4 : isSi c <;> simp
theorem sgl_le (m : List UInt8) : sgl m ≤ 2 ∧ sgl m ≤ m.length := by
  unfold sgl
  split
  · rename_i h
    refine ⟨by omega, ?_⟩
    rcases h with h | h <;> have := congrArg List.length h <;> simp at this <;> omega
  · split
    · split <;> simp
    · simp

theorem set4 {w w1 : World} (h : Below w.heap.size w w1) (a b c d : Value) : Below w.heap.size w ((((w1.setCell ⟨w.heap.size, 0, Option.none⟩ a).setCell ⟨w.heap.size, 1, Option.none⟩ b).setCell ⟨w.heap.size, 2, Option.none⟩ c).setCell ⟨w.heap.size, 3, Option.none⟩ d) :=
  (((h.setCell (Nat.le_refl _) _).setCell (Nat.le_refl _) _).setCell (Nat.le_refl _) _).setCell (Nat.le_refl _) _
theorem wo_at {s : ByteArray} {m : List UInt8} {k e n : Nat} (hm : s.data.toList.drop k = m) (hk : k ≤ e) (h : e < s.size) (hn : n = e - k) : woAt m n = isWo s[e] := by
  unfold woAt; rw [hn, ← hm, drop_get h hk]
theorem wo_none {s : ByteArray} {m : List UInt8} {k e n : Nat} (hm : s.data.toList.drop k = m) (hk : k ≤ e) (h : ¬ e < s.size) (hn : n = e - k) : woAt m n = false := by
  unfold woAt; rw [hn, ← hm, drop_none h hk]

set_option maxRecDepth 100000 in
set_option maxHeartbeats 8000000 in
theorem tokenAt_any (s : ByteArray) (k : Nat) (hk : k ≤ s.size) (hs : s.size ≤ 16384) (w : World) (hb : Lb w) : Calls Tryz.prog 67 #[.string s, .int .i64 (k : Int)] w (Tok2 w (tat (s.data.toList.drop k) k).1 (tat (s.data.toList.drop k) k).2) := by
  obtain ⟨m, hm⟩ : ∃ m, s.data.toList.drop k = m := ⟨_, rfl⟩
  have hml : m.length = s.size - k := by rw [← hm, List.length_drop, size_len]
  have HM := Lib.hid hm
  have HML := Lib.hid hml
  have HB := Lib.hid hb
  have hst := store_cx3
  rw [hm]
  obtain ⟨t, ht⟩ : ∃ t, tat m k = t := ⟨_, rfl⟩
  have HT := Lib.hid ht
  rw [ht]
  obtain ⟨t, er⟩ := t
  clear hm hb ht hml
  have hdg := isDigit_any
  have hwo := isOfWord_any
  have HNUM : Hid (∀ (E : Nat) (w : World), Lb w → k < s.size → (∀ c r, m = c :: r → isDi c = true) → woAt m (mlen m) = false → mlen m = E - k → Calls Tryz.prog 103 #[.string (s.extract k E), .int .i64 (k : Int)] w (Tok2 w t er)) := Lib.hid (by
    intro E w hb hks hc hw he
    rw [ext_take s k E _ he.symm, HM.out]
    cases m with
    | nil => have := HML.out; simp at this; omega
    | cons c r =>
      have h := numTok_any (hc c r rfl) hw (by rw [HML.out]; omega) k w hb
      rw [HT.out] at h
      exact h)
  go_enter Tryz.func67, Tryz.ntmps67
  go_wp2
  refine scope3 0 1 2 (fun a' w' => w.alloc (.cells #[.int .i64 0, .string ⟨#[]⟩, .complex .f64 0 0, .int .i64 0] 88) = w' ∧ ∃ (e : Nat) (u7 u8 u9 u10 u11 u12 u13 u14 u15 u16 u17 u18 u19 u20 u21 u22 u23 u24 u43 u44 u45 u46 u47 u48 u49 u50 u51 u52 u53 u54 : Value), a' = { tmps := #[.string s, .int .i64 (k : Int), undef, undef, .pointer (some ⟨w.heap.size, 0, Option.none⟩), .int .i64 0, .int .i64 (e : Int), u7, u8, u9, u10, u11, u12, u13, u14, u15, u16, u17, u18, u19, u20, u21, u22, u23, u24, undef, undef, undef, undef, undef, undef, undef, undef, undef, undef, undef, undef, undef, undef, undef, undef, undef, undef, u43, u44, u45, u46, u47, u48, u49, u50, u51, u52, u53, u54, undef, undef, undef, undef, undef, undef, undef, undef, undef, undef, undef, undef, undef, undef, undef, undef, undef, undef, undef, undef, undef, undef, undef, undef, undef, undef, undef, undef, undef, undef, undef, undef, undef, undef, undef, undef, undef, undef, undef, undef, undef, undef, undef, undef, undef, undef, undef], defers := [] } ∧ k ≤ e ∧ e < s.size ∧ Hid (e - k < dlen m ∧ ∀ c r, m = c :: r → isDi c = true))
    (fun a' w' => w.alloc (.cells #[.int .i64 0, .string ⟨#[]⟩, .complex .f64 0 0, .int .i64 0] 88) = w' ∧ ∃ (e : Nat) (u7 u8 u9 u10 u11 u12 u13 u14 u15 u16 u17 u18 u19 u20 u21 u22 u23 u24 u25 u26 u27 u28 u29 u30 u31 u32 u33 u34 u35 u36 : Value), a' = { tmps := #[.string s, .int .i64 (k : Int), undef, undef, .pointer (some ⟨w.heap.size, 0, Option.none⟩), .int .i64 0, .int .i64 (e : Int), u7, u8, u9, u10, u11, u12, u13, u14, u15, u16, u17, u18, u19, u20, u21, u22, u23, u24, u25, u26, u27, u28, u29, u30, u31, u32, u33, u34, u35, u36, undef, undef, undef, undef, undef, undef, undef, undef, undef, undef, undef, undef, undef, undef, undef, undef, undef, undef, undef, undef, undef, undef, undef, undef, undef, undef, undef, undef, undef, undef, undef, undef, undef, undef, undef, undef, undef, undef, undef, undef, undef, undef, undef, undef, undef, undef, undef, undef, undef, undef, undef, undef, undef, undef, undef, undef, undef, undef, undef, undef, undef, undef, undef, undef, undef], defers := [] } ∧ k ≤ e ∧ e < s.size ∧ Hid (e - k < wlen m ∧ ∀ c r, m = c :: r → isDi c = false ∧ isWo c = true))
    (fun a' w' => w.alloc (.cells #[.int .i64 0, .string ⟨#[]⟩, .complex .f64 0 0, .int .i64 0] 88) = w' ∧ ∃ (e : Nat) (u7 u8 u9 u10 u11 u12 u13 u14 u15 u16 u17 u18 u19 u20 u21 u22 u23 u24 : Value), a' = { tmps := #[.string s, .int .i64 (k : Int), undef, undef, .pointer (some ⟨w.heap.size, 0, Option.none⟩), .int .i64 0, .int .i64 (e : Int), u7, u8, u9, u10, u11, u12, u13, u14, u15, u16, u17, u18, u19, u20, u21, u22, u23, u24, undef, undef, undef, undef, undef, undef, undef, undef, undef, undef, undef, undef, undef, undef, undef, undef, undef, undef, undef, undef, undef, undef, undef, undef, undef, undef, undef, undef, undef, undef, undef, undef, undef, undef, undef, undef, undef, undef, undef, undef, undef, undef, undef, undef, undef, undef, undef, undef, undef, undef, undef, undef, undef, undef, undef, undef, undef, undef, undef, undef, undef, undef, undef, undef, undef, undef, undef, undef, undef, undef, undef, undef, undef, undef, undef, undef, undef], defers := [] } ∧ k ≤ e ∧ e < s.size ∧ Hid (e ≤ k ∧ ∀ c r, m = c :: r → isDi c = false ∧ isWo c = false))
    (fun a' _ => s.size - (intOf (a'.tmps.getD 6 undef)).toNat) (fun a' _ => s.size - (intOf (a'.tmps.getD 6 undef)).toNat) (fun a' _ => 0) rfl rfl rfl ?_ ?_ ?_ ?_
  · by_cases hlt : k < s.size
    · have hd := drop_at hlt
      rw [HM.out] at hd
      have hne : (k == s.size) = false := by rw [beq_eq_false_iff_ne]; omega
      have hne' : ((k : Int) == (s.size : Int)) = false := by rw [beq_eq_false_iff_ne]; omega
      cases hdi : isDi s[k] with
      | true =>
        have hg := hdg s[k]
        rw [hdi] at hg
        have HJ : Hid (k - k < dlen m ∧ ∀ c r, m = c :: r → isDi c = true) := Lib.hid (by
          rw [hd]
          refine ⟨by have := dlen_pos (r := s.data.toList.drop (k + 1)) hdi; omega, ?_⟩
          intro c r e
          injection e with e1 e2
          rw [← e1]; exact hdi)
        clear hd hdi hdg hwo
        go_wp2_with (go_at_call 101; refine (hg _).mono ?_; rintro e w' ⟨rfl, rfl⟩)
        go_step3
        exact .inl ⟨rfl, rfl, k, _, _, _, _, _, _, _, _, _, _, _, _, _, _, _, _, _, _, _, _, _, _, _, _, _, _, _, _, _, _, rfl, by omega, hlt, HJ⟩
      | false =>
        have hg := hdg s[k]
        rw [hdi] at hg
        have hg2 := hwo s[k]
        cases hwi : isWo s[k] with
        | true =>
          rw [hwi] at hg2
          have HJ : Hid (k - k < wlen m ∧ ∀ c r, m = c :: r → isDi c = false ∧ isWo c = true) := Lib.hid (by
            rw [hd]
            refine ⟨by have := wlen_pos (r := s.data.toList.drop (k + 1)) hwi; omega, ?_⟩
            intro c r e
            injection e with e1 e2
            rw [← e1]; exact ⟨hdi, hwi⟩)
          clear hd hdi hdg hwo hwi
          go_wp2_with (first
            | (go_at_call 101; refine (hg _).mono ?_; rintro e w' ⟨rfl, rfl⟩)
            | (go_at_call 102; refine (hg2 _).mono ?_; rintro e w' ⟨rfl, rfl⟩))
          go_step3
          exact .inr (.inl ⟨rfl, rfl, k, _, _, _, _, _, _, _, _, _, _, _, _, _, _, _, _, _, _, _, _, _, _, _, _, _, _, _, _, _, _, rfl, by omega, hlt, HJ⟩)
        | false =>
          rw [hwi] at hg2
          have HJ : Hid (k ≤ k ∧ ∀ c r, m = c :: r → isDi c = false ∧ isWo c = false) := Lib.hid (by
            rw [hd]
            refine ⟨Nat.le_refl _, ?_⟩
            intro c r e
            injection e with e1 e2
            rw [← e1]; exact ⟨hdi, hwi⟩)
          clear hd hdi hdg hwo hwi
          go_wp2_with (first
            | (go_at_call 101; refine (hg _).mono ?_; rintro e w' ⟨rfl, rfl⟩)
            | (go_at_call 102; refine (hg2 _).mono ?_; rintro e w' ⟨rfl, rfl⟩))
          go_step3
          exact .inr (.inr ⟨rfl, rfl, k, _, _, _, _, _, _, _, _, _, _, _, _, _, _, _, _, _, _, rfl, by omega, hlt, HJ⟩)
    · have hd := drop_end hlt
      rw [HM.out] at hd
      have hee : ((k : Int) == (s.size : Int)) = true := by rw [beq_iff_eq]; omega
      have hTE : Hid ((⟨0, [], 0, 0, k⟩, 0) = (t, er)) := Lib.hid (by rw [← HT.out, hd, tat_end])
      clear hd hdg hwo
      go_wp2
      simp only [jump3]
      refine bodyPost_ret (v := .tuple #[.agg #[.int .i64 0, .string ⟨#[]⟩, .complex .f64 0 0, .int .i64 (k : Int)], .int .i64 0]) (by simp [results, Tryz.results67, go_sem]) rfl ⟨?_, ?_⟩
      · have := hTE.out
        injection this with e1 e2
        rw [← e1, ← e2]
        unfold tv3
        simp [fl0]
      · exact (Below.refl _ _).alloc (Nat.le_refl _) _
  · rintro a' w' ⟨rfl, e, u7, u8, u9, u10, u11, u12, u13, u14, u15, u16, u17, u18, u19, u20, u21, u22, u23, u24, u43, u44, u45, u46, u47, u48, u49, u50, u51, u52, u53, u54, rfl, hke, hes, HJ⟩
    by_cases h1 : e + 1 < s.size
    · have hst2 := run_step isDi hke h1 (by rw [HM.out]; exact HJ.out.1)
      rw [HM.out] at hst2
      have hg := hdg s[e + 1]
      have hg2 := hwo s[e + 1]
      cases hd : isDi s[e + 1] with
      | true =>
        have HN : Hid (e + 1 - k < dlen m ∧ ∀ c r, m = c :: r → isDi c = true) := Lib.hid ⟨hst2.1 hd, HJ.out.2⟩
        rw [hd] at hg
        clear hst2 hd hdg hwo HJ hg2
        go_wp2_with (go_at_call 101; refine (hg _).mono ?_; rintro e' w' ⟨rfl, rfl⟩)
        go_step3
        refine .inl ⟨rfl, ⟨rfl, e + 1, _, _, _, _, _, _, _, _, _, _, _, _, _, _, _, _, _, _, _, _, _, _, _, _, _, _, _, _, _, _, rfl, by omega, h1, HN⟩, ?_⟩
        simp [intOf]
        omega
      | false =>
        have hdl : dlen m = e + 1 - k := hst2.2 hd
        rw [hd] at hg
        clear hst2 hd
        have hbe : ((s[e + 1].toNat : Int) == 105) = (s[e + 1] == 105) := byte_eq s[e + 1] 105 (by decide)
        cases h105 : (s[e + 1] == 105) with
        | true =>
          rw [h105] at hbe
          have hml : mlen m = e + 2 - k := by
            rw [mlen_yes hdl (by rw [← HM.out, drop_get h1 (by omega)]; simpa using h105)]
            omega
          have HML2 := Lib.hid hml
          clear hdl h105 hg2
          by_cases h2 : e + 1 + 1 < s.size
          · have hww := wo_at HM.out (by omega) h2 hml
            have hg2 := hwo s[e + 1 + 1]
            cases hw : isWo s[e + 1 + 1] with
            | true =>
              rw [hw] at hg2 hww
              have HWF := Lib.hid hww
              clear hml hww hw hdg hwo HML2
              have hTE : Hid ((⟨0, [], 0, 0, 0⟩, 1) = (t, er)) := Lib.hid (by
                cases m with
                | nil => have := HML.out; simp at this; omega
                | cons c r => rw [← HT.out, tat_form (HJ.out.2 c r rfl) HWF.out])
              clear HJ HWF
              go_wp2_with (first
                | (go_at_call 101; with_reducible refine (hg _).mono ?_; rintro e' w' ⟨rfl, rfl⟩)
                | (go_at_call 102; with_reducible refine (hg2 _).mono ?_; rintro e' w' ⟨rfl, rfl⟩))
              simp only [jump3]
              refine bodyPost_ret (v := .tuple #[.agg #[.int .i64 0, .string ⟨#[]⟩, .complex .f64 0 0, .int .i64 0], .int .i64 1]) (by simp [results, Tryz.results67, go_sem]) rfl ⟨?_, ?_⟩
              · have := hTE.out
                injection this with e1 e2
                rw [← e1, ← e2]
                unfold tv3
                simp [fl0]
              · exact (Below.refl _ _).alloc (Nat.le_refl _) _
            | false =>
              rw [hw] at hg2 hww
              have HWF := Lib.hid hww
              clear hml hww hw hdg hwo
              have hnum := HNUM.out (e + 1 + 1) (w.alloc (.cells #[.int .i64 0, .string ⟨#[]⟩, .complex .f64 0 0, .int .i64 0] 88)) (HB.out.on ((Below.refl _ _).alloc (Nat.le_refl _) _)) (by omega) HJ.out.2 HWF.out HML2.out
              clear HJ HWF HML2
              go_wp2_with (first
                | (go_at_call 101; with_reducible refine (hg _).mono ?_; rintro e' w' ⟨rfl, rfl⟩)
                | (go_at_call 102; with_reducible refine (hg2 _).mono ?_; rintro e' w' ⟨rfl, rfl⟩)
                | (go_at_call 103; refine Hid.out ?_))
              refine Lib.hid ?_
              refine hnum.mono ?_
              rintro e' w1 ⟨rfl, hbel⟩
              obtain ⟨hc, hf⟩ := bcell3 hbel
              have HB1 := Lib.hid hbel
              clear hbel hnum
              go_wp2
              simp only [jump3]
              refine bodyPost_ret (v := .tuple #[tv3 t, .int .i64 (er : Int)]) (by simp [results, Tryz.results67, go_sem, hc, hf]) rfl ⟨rfl, ?_⟩
              exact set4 (below_new3 HB1.out) _ _ _ _
          · have hww := wo_none HM.out (by omega) h2 hml
            have HWF := Lib.hid hww
            have hg2 := hwo s[e + 1]
            clear hml hww hdg hwo
            have hnum := HNUM.out (e + 1 + 1) (w.alloc (.cells #[.int .i64 0, .string ⟨#[]⟩, .complex .f64 0 0, .int .i64 0] 88)) (HB.out.on ((Below.refl _ _).alloc (Nat.le_refl _) _)) (by omega) HJ.out.2 HWF.out HML2.out
            clear HJ HWF HML2
            go_wp2_with (first
              | (go_at_call 101; with_reducible refine (hg _).mono ?_; rintro e' w' ⟨rfl, rfl⟩)
              | (go_at_call 102; with_reducible refine (hg2 _).mono ?_; rintro e' w' ⟨rfl, rfl⟩)
              | (go_at_call 103; refine Hid.out ?_))
            refine Lib.hid ?_
            refine hnum.mono ?_
            rintro e' w1 ⟨rfl, hbel⟩
            obtain ⟨hc, hf⟩ := bcell3 hbel
            have HB1 := Lib.hid hbel
            clear hbel hnum
            go_wp2
            simp only [jump3]
            refine bodyPost_ret (v := .tuple #[tv3 t, .int .i64 (er : Int)]) (by simp [results, Tryz.results67, go_sem, hc, hf]) rfl ⟨rfl, ?_⟩
            exact set4 (below_new3 HB1.out) _ _ _ _
        | false =>
          rw [h105] at hbe
          have hml : mlen m = e + 1 - k := mlen_no hdl (by rw [← HM.out, drop_get h1 (by omega)]; intro hx; injection hx with hx; rw [hx] at h105; cases h105)
          have HML2 := Lib.hid hml
          have hww := wo_at HM.out (by omega) h1 hml
          clear hdl h105
          cases hw : isWo s[e + 1] with
          | true =>
            rw [hw] at hg2 hww
            have HWF := Lib.hid hww
            clear hml hww hw hdg hwo HML2
            have hTE : Hid ((⟨0, [], 0, 0, 0⟩, 1) = (t, er)) := Lib.hid (by
              cases m with
              | nil => have := HML.out; simp at this; omega
              | cons c r => rw [← HT.out, tat_form (HJ.out.2 c r rfl) HWF.out])
            clear HJ HWF
            go_wp2_with (first
              | (go_at_call 101; with_reducible refine (hg _).mono ?_; rintro e' w' ⟨rfl, rfl⟩)
              | (go_at_call 102; with_reducible refine (hg2 _).mono ?_; rintro e' w' ⟨rfl, rfl⟩))
            simp only [jump3]
            refine bodyPost_ret (v := .tuple #[.agg #[.int .i64 0, .string ⟨#[]⟩, .complex .f64 0 0, .int .i64 0], .int .i64 1]) (by simp [results, Tryz.results67, go_sem]) rfl ⟨?_, ?_⟩
            · have := hTE.out
              injection this with e1 e2
              rw [← e1, ← e2]
              unfold tv3
              simp [fl0]
            · exact (Below.refl _ _).alloc (Nat.le_refl _) _
          | false =>
            rw [hw] at hg2 hww
            have HWF := Lib.hid hww
            clear hml hww hw hdg hwo
            have hnum := HNUM.out (e + 1) (w.alloc (.cells #[.int .i64 0, .string ⟨#[]⟩, .complex .f64 0 0, .int .i64 0] 88)) (HB.out.on ((Below.refl _ _).alloc (Nat.le_refl _) _)) (by omega) HJ.out.2 HWF.out HML2.out
            clear HJ HWF HML2
            go_wp2_with (first
              | (go_at_call 101; with_reducible refine (hg _).mono ?_; rintro e' w' ⟨rfl, rfl⟩)
              | (go_at_call 102; with_reducible refine (hg2 _).mono ?_; rintro e' w' ⟨rfl, rfl⟩)
              | (go_at_call 103; refine Hid.out ?_))
            refine Lib.hid ?_
            refine hnum.mono ?_
            rintro e' w1 ⟨rfl, hbel⟩
            obtain ⟨hc, hf⟩ := bcell3 hbel
            have HB1 := Lib.hid hbel
            clear hbel hnum
            go_wp2
            simp only [jump3]
            refine bodyPost_ret (v := .tuple #[tv3 t, .int .i64 (er : Int)]) (by simp [results, Tryz.results67, go_sem, hc, hf]) rfl ⟨rfl, ?_⟩
            exact set4 (below_new3 HB1.out) _ _ _ _
    · have hdl : dlen m = e + 1 - k := by
        have := run_stop isDi hke h1 (by rw [HM.out]; exact HJ.out.1) hes
        rw [HM.out] at this
        exact this
      have hml : mlen m = e + 1 - k := mlen_no hdl (by rw [← HM.out, drop_none h1 (by omega)]; simp)
      have HML2 := Lib.hid hml
      have hww := wo_none HM.out (by omega) h1 hml
      have HWF := Lib.hid hww
      have hg := hdg s[e]
      have hg2 := hwo s[e]
      clear hml hww hdg hwo hdl
      have hnum := HNUM.out (e + 1) (w.alloc (.cells #[.int .i64 0, .string ⟨#[]⟩, .complex .f64 0 0, .int .i64 0] 88)) (HB.out.on ((Below.refl _ _).alloc (Nat.le_refl _) _)) (by omega) HJ.out.2 HWF.out HML2.out
      clear HJ HWF HML2
      go_wp2_with (first
        | (go_at_call 101; with_reducible refine (hg _).mono ?_; rintro e' w' ⟨rfl, rfl⟩)
        | (go_at_call 102; with_reducible refine (hg2 _).mono ?_; rintro e' w' ⟨rfl, rfl⟩)
        | (go_at_call 103; refine Hid.out ?_))
      refine Lib.hid ?_
      refine hnum.mono ?_
      rintro e' w1 ⟨rfl, hbel⟩
      obtain ⟨hc, hf⟩ := bcell3 hbel
      have HB1 := Lib.hid hbel
      clear hbel hnum
      go_wp2
      simp only [jump3]
      refine bodyPost_ret (v := .tuple #[tv3 t, .int .i64 (er : Int)]) (by simp [results, Tryz.results67, go_sem, hc, hf]) rfl ⟨rfl, ?_⟩
      exact set4 (below_new3 HB1.out) _ _ _ _
  · rintro a' w' ⟨rfl, e, u7, u8, u9, u10, u11, u12, u13, u14, u15, u16, u17, u18, u19, u20, u21, u22, u23, u24, u25, u26, u27, u28, u29, u30, u31, u32, u33, u34, u35, u36, rfl, hke, hes, HJ⟩
    have HTW : Hid (∀ E, wlen m = E - k → Ending.returned (.tuple #[.agg #[.int .i64 1, .string (s.extract k E), .complex .f64 0 0, .int .i64 (k : Int)], .int .i64 0]) = Ending.returned (.tuple #[tv3 t, .int .i64 (er : Int)])) := Lib.hid (by
      intro E hE
      rw [ext_take s k E _ hE.symm, HM.out]
      have := HT.out
      cases m with
      | nil => have := HML.out; simp at this; omega
      | cons c r =>
        rw [tat_word (HJ.out.2 c r rfl).1 (HJ.out.2 c r rfl).2] at this
        injection this with e1 e2
        rw [← e1, ← e2]
        unfold tv3
        simp [fl0])
    by_cases h1 : e + 1 < s.size
    · have hst2 := run_step isWo hke h1 (by rw [HM.out]; exact HJ.out.1)
      rw [HM.out] at hst2
      have hg2 := hwo s[e + 1]
      cases hd : isWo s[e + 1] with
      | true =>
        have HN : Hid (e + 1 - k < wlen m ∧ ∀ c r, m = c :: r → isDi c = false ∧ isWo c = true) := Lib.hid ⟨hst2.1 hd, HJ.out.2⟩
        rw [hd] at hg2
        clear hst2 hd hdg hwo HJ
        go_wp2_with (go_at_call 102; refine (hg2 _).mono ?_; rintro e' w' ⟨rfl, rfl⟩)
        go_step3
        refine .inr (.inl ⟨rfl, ⟨rfl, e + 1, _, _, _, _, _, _, _, _, _, _, _, _, _, _, _, _, _, _, _, _, _, _, _, _, _, _, _, _, _, _, rfl, by omega, h1, HN⟩, ?_⟩)
        simp [intOf]
        omega
      | false =>
        have hwl : wlen m = e + 1 - k := hst2.2 hd
        have HE := Lib.hid (HTW.out (e + 1) hwl)
        rw [hd] at hg2
        clear hst2 hd hdg hwo HJ hwl
        go_wp2_with (go_at_call 102; refine (hg2 _).mono ?_; rintro e' w' ⟨rfl, rfl⟩)
        simp only [jump3]
        refine bodyPost_ret (v := .tuple #[.agg #[.int .i64 1, .string (s.extract k (e + 1)), .complex .f64 0 0, .int .i64 (k : Int)], .int .i64 0]) (by simp [results, Tryz.results67, go_sem]) rfl ⟨HE.out, ?_⟩
        exact (Below.refl _ _).alloc (Nat.le_refl _) _
    · have hwl : wlen m = e + 1 - k := by
        have := run_stop isWo hke h1 (by rw [HM.out]; exact HJ.out.1) hes
        rw [HM.out] at this
        exact this
      have HE := Lib.hid (HTW.out (e + 1) hwl)
      clear hdg hwo HJ hwl
      go_wp2
      simp only [jump3]
      refine bodyPost_ret (v := .tuple #[.agg #[.int .i64 1, .string (s.extract k (e + 1)), .complex .f64 0 0, .int .i64 (k : Int)], .int .i64 0]) (by simp [results, Tryz.results67, go_sem]) rfl ⟨HE.out, ?_⟩
      exact (Below.refl _ _).alloc (Nat.le_refl _) _
  · rintro a' w' ⟨rfl, e, u7, u8, u9, u10, u11, u12, u13, u14, u15, u16, u17, u18, u19, u20, u21, u22, u23, u24, rfl, hke, hes, HJ⟩
    obtain rfl : k = e := by have := HJ.out.1; omega
    have hx := ext_drop s k
    rw [HM.out] at hx
    have hsz : (s.extract k s.size).size = s.size - k := by rw [← size_len, hx, HML.out]
    have hsg := signSize_any (s.extract k s.size) (by omega)
    rw [hx] at hsg
    have hle := sgl_le m
    rw [HML.out] at hle
    have HTW : Hid (if sgl m = 0 then (⟨0, [], 0, 0, 0⟩, 1) = (t, er) else (⟨3, m.take (sgl m), 0, 0, k⟩, 0) = (t, er)) := Lib.hid (by
      cases m with
      | nil => have := HML.out; simp at this; omega
      | cons c r =>
        rw [← HT.out, tat_sign (HJ.out.2 c r rfl).1 (HJ.out.2 c r rfl).2]
        by_cases h0 : sgl (c :: r) = 0
        · simp only [if_pos h0]
        · simp only [if_neg h0])
    have HEX : Hid (s.extract k (k + sgl m) = ⟨(m.take (sgl m)).toArray⟩) := Lib.hid (by rw [ext_take s k (k + sgl m) (sgl m) (by omega), HM.out])
    clear hx hsz hdg hwo HJ
    generalize sgl m = n at *
    by_cases h0 : n = 0
    · subst h0
      have hTE := Lib.hid HTW.out
      rw [if_pos rfl] at hTE
      have hk0 : ((k : Int) + 0 == (k : Int)) = true := by simp
      clear HTW HEX hle
      go_wp2_with (go_at_call 104; refine (hsg _).mono ?_; rintro e' w' ⟨rfl, rfl⟩)
      simp only [jump3]
      refine bodyPost_ret (v := .tuple #[.agg #[.int .i64 0, .string ⟨#[]⟩, .complex .f64 0 0, .int .i64 0], .int .i64 1]) (by simp [results, Tryz.results67, go_sem]) rfl ⟨?_, ?_⟩
      · have := hTE.out
        injection this with e1 e2
        rw [← e1, ← e2]
        unfold tv3
        simp [fl0]
      · exact (Below.refl _ _).alloc (Nat.le_refl _) _
    · have hTE := Lib.hid HTW.out
      rw [if_neg h0] at hTE
      have hk0 : ((k : Int) + (n : Int) == (k : Int)) = false := by rw [beq_eq_false_iff_ne]; omega
      have hn0 : (n == 0) = false := by simpa using h0
      clear HTW h0
      go_wp2_with (go_at_call 104; refine (hsg _).mono ?_; rintro e' w' ⟨rfl, rfl⟩)
      simp only [jump3]
      refine bodyPost_ret (v := .tuple #[.agg #[.int .i64 3, .string (s.extract k (k + n)), .complex .f64 0 0, .int .i64 (k : Int)], .int .i64 0]) (by simp [results, Tryz.results67, go_sem]) rfl ⟨?_, ?_⟩
      · have := hTE.out
        injection this with e1 e2
        rw [← e1, ← e2, HEX.out]
        unfold tv3
        simp [fl0]
      · exact (Below.refl _ _).alloc (Nat.le_refl _) _
end Go.Proofs.YtgiioflkclkioaaGreatDoor
