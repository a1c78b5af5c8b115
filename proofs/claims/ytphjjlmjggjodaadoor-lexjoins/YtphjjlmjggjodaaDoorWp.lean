/- LexPlaces: whatever the text, the law answers true. -/
import Derived.Test.YtphjjlmjggjodaaDoorTw
import Derived.IntWalk
set_option linter.unusedSimpArgs false
set_option linter.unusedVariables false
namespace Go.Proofs.YtphjjlmjggjodaaDoor
open Go.RowKit Ieee

theorem prefix_q (t p : ByteArray) (b : Bool) (h : Lib.hasPrefix t.data.toList p.data.toList = b) (w : World) : Calls Tryd.prog 14 #[.string t, .string p] w fun e w' => e = .returned (.bool b) ∧ w' = w :=
  (Tryd.strings_HasPrefix t p w).mono fun e w' ⟨he, hw⟩ => ⟨by rw [he, h], hw⟩
/-- No more tokens than bytes, and the end. -/
theorem places_len (s : List UInt8) : ∀ (ts : List Tk) (q : Nat), Places s q ts → ts.length + q ≤ s.length + 1
  | [], q, h => h.elim
  | [t], q, h => by have := h.2.2.1; have := h.2.2.2; simp; omega
  | t :: u :: ts, q, h => by
    obtain ⟨h1, h2, h3, h4, h5, h6⟩ := h
    have hl := places_len s (u :: ts) _ h6
    have : 0 < t.text.length := List.length_pos_iff.2 h5
    simp only [List.length_cons] at hl ⊢
    omega
theorem places_last (s : List UInt8) : ∀ (ts : List Tk) (q : Nat), Places s q ts → ∃ t, ts[ts.length - 1]? = some t ∧ t.pos = s.length
  | [], q, h => h.elim
  | [t], q, h => ⟨t, rfl, h.2.2.1⟩
  | t :: u :: ts, q, h => by
    obtain ⟨v, h1, h2⟩ := places_last s (u :: ts) _ h.2.2.2.2.2
    exact ⟨v, by simpa using h1, h2⟩
/-- What holds of one token, and of those behind it. -/
theorem places_at {s : List UInt8} {ts : List Tk} {i q : Nat} {t : Tk} (h : Places s q (ts.drop i)) (ht : ts[i]? = some t) :
    q ≤ t.pos ∧ t.pos + t.text.length ≤ s.length ∧ Lib.hasPrefix (s.drop t.pos) t.text = true ∧
    (((i + 1 = ts.length) ∧ t.kind = 0 ∧ t.text = []) ∨ (i + 1 < ts.length ∧ t.kind ≠ 0 ∧ t.text ≠ [] ∧ Places s (t.pos + t.text.length) (ts.drop (i + 1)))) := by
  obtain ⟨hi, he⟩ := List.getElem?_eq_some_iff.1 ht
  rw [List.drop_eq_getElem_cons hi, he] at h
  cases hr : ts.drop (i + 1) with
  | nil =>
    rw [hr] at h
    obtain ⟨h1, h2, h3, h4⟩ := h
    have hl : ts.length ≤ i + 1 := by simpa using hr
    refine ⟨h4, by rw [h2, h3]; simp, ?_, .inl ⟨by omega, h1, h2⟩⟩
    rw [h2]
    unfold Lib.hasPrefix
    cases s.drop t.pos <;> rfl
  | cons u us =>
    rw [hr] at h
    obtain ⟨h1, h2, h3, h4, h5, h6⟩ := h
    have hl : i + 1 < ts.length := by
      rcases Nat.lt_or_ge (i + 1) ts.length with h | h
      · exact h
      · rw [List.drop_eq_nil_of_le h] at hr; cases hr
    refine ⟨h1, h2, ?_, .inr ⟨hl, h4, h5, h6⟩⟩
    rw [← Lib.hasPrefix_of_take, h3]
    simp
    omega

set_option maxRecDepth 100000 in
set_option maxHeartbeats 8000000 in
theorem wplaces (s : ByteArray) (w : World) (hb : Lb w) : Calls Tryd.prog 8 #[.string s] w fun e w' => e = .returned (.bool true) ∧ Below w.heap.size w w' := by
  have HB := Lib.hid hb
  have haw := awake w hb
  clear hb
  by_cases hs : s.size ≤ 1000
  · have hs1 : ¬ (1000 : Int) < (s.size : Int) := by omega
    have hpl := spl_places s.data.toList s.data.toList.length s.data.toList 0 (Nat.le_refl _) (Nat.zero_le _) rfl
    have hsp := fun w (hb : Lb w) => splitT s (by omega) w hb
    rw [size_len] at hpl
    cases hr : spl s.data.toList 0 with
    | error q =>
      obtain ⟨p, c⟩ := q
      rw [hr] at hpl
      simp only [hr] at hsp
      obtain ⟨hp, hc⟩ := hpl
      have hcn : ((c : Int) != 0) = true := by simp; omega
      have HSP := Lib.hid hsp
      clear hr hsp hc
      go_enter Tryd.func8, Tryd.ntmps8
      go_wp2_with (go_at_call 9; refine Hid.out ?_)
      refine Lib.hid ?_
      refine haw.mono ?_
      rintro e w1 ⟨rfl, hb1⟩
      have HB1 := Lib.hid hb1
      have hs2 := HSP.out w1 (HB.out.on hb1)
      clear hb1 haw
      go_wp2_with (go_at_call 10; refine Hid.out ?_)
      refine Lib.hid ?_
      refine hs2.mono ?_
      rintro e w2 ⟨rfl, hb2⟩
      have HB2 := Lib.hid hb2
      clear hb2 hs2
      go_wp2
      go_ret
      exact ⟨rfl, below_trans HB1.out HB2.out⟩
    | ok ts =>
      rw [hr] at hpl
      simp only [hr] at hsp
      have HPL := Lib.hid hpl
      have hn1 := places_len _ _ _ hpl
      rw [size_len] at hn1
      have HSP := Lib.hid hsp
      have hn0 : 0 < ts.length := List.length_pos_iff.2 (spl_ne hr)
      clear hr hsp hpl
      go_enter Tryd.func8, Tryd.ntmps8
      go_wp2_with (go_at_call 9; refine Hid.out ?_)
      refine Lib.hid ?_
      refine haw.mono ?_
      rintro e w1 ⟨rfl, hb1⟩
      have HB1 := Lib.hid hb1
      have hs2 := HSP.out w1 (HB.out.on hb1)
      clear hb1 haw
      go_wp2_with (go_at_call 10; refine Hid.out ?_)
      refine Lib.hid ?_
      refine hs2.mono ?_
      rintro e w2 ⟨g, cap, rfl, hg, htk, hb2⟩
      have HB2 := Lib.hid (below_trans HB1.out hb2)
      have HTK := Lib.hid htk
      clear hb2 hs2 htk
      generalize hN : ts.length = n at *
      have HN := Lib.hid hN
      clear hN
      go_wp2
      go_loopw [6, 37] (fun q i wr => ∃ (j p : Nat), j ≤ n ∧ i = .int .i64 (j : Int) ∧ q = .int .i64 (p : Int) ∧ Below w2.heap.size w2 wr ∧ Hid (j < n → Places s.data.toList p (ts.drop j))) (fun _ i _ => n - (intOf i).toNat)
      case atStart => exact ⟨0, 0, Nat.zero_le _, rfl, rfl, Below.refl _ _, Lib.hid (fun _ => HPL.out)⟩
      case round =>
        obtain ⟨j, p, hj, rfl, rfl, hbr, HP⟩ := hrel
        by_cases hlt : j < n
        · obtain ⟨t, ht⟩ : ∃ t, ts[j]? = some t := ⟨ts[j]'(by rw [HN.out]; exact hlt), List.getElem?_eq_getElem _⟩
          have hpp := places_at (HP.out hlt) ht
          rw [HN.out, size_len] at hpp
          obtain ⟨p1, p2, p3, p4⟩ := hpp
          obtain ⟨k0, k1, k2, k3⟩ := (HTK.out.on hbr hg) j t ht
          obtain ⟨T, hT⟩ : ∃ T : ByteArray, T = ⟨t.text.toArray⟩ := ⟨_, rfl⟩
          rw [← hT] at k1
          have HT : Hid (T.data.toList = t.text) := Lib.hid (by rw [hT])
          have htl : T.size = t.text.length := by rw [hT, size_mk]
          have hpre := prefix_q (s.extract t.pos s.size) T true (by rw [ext_drop, HT.out]; exact p3)
          have hlo : decide ((t.pos : Int) < (p : Int)) = false := decide_eq_false (by omega)
          have hst := store_cx
          have hps : t.pos ≤ s.size := by omega
          have HBR := Lib.hid hbr
          clear ht hT p3 hbr
          rcases p4 with ⟨c1, c2, c3⟩ | ⟨c1, c2, c3, c4⟩
          ·
            have hkz : ((t.kind : Int) == 0) = true := by rw [c2]; rfl
            have hjn : ((j : Int) == (n : Int) - 1) = true := by rw [beq_iff_eq]; omega
            have hte : (T.toList == ([] : List UInt8)) = true := by
              rw [ByteArray.toList_eq, HT.out]; simp [c3]
            have hte2 : T.toList.isEmpty = true := by rw [ByteArray.toList_eq, HT.out]; simp [c3]
            have HR : Hid (j + 1 < n → Places s.data.toList (t.pos + t.text.length) (ts.drop (j + 1))) := Lib.hid (fun h => by omega)
            clear c2 c3 HP
            generalize t.kind = kd at *
            generalize t.pos = ps at *
            generalize t.text.length = tl at *
            generalize fl false (t.re : Int) = fr at *
            generalize fl false (t.im : Int) = fi at *
            have q1 : 0 ≤ (n : Int) - 1 := by omega
            have q2 : IntKind.i64.wrap ((n : Int) - 1) = (n : Int) - 1 := IntWalk.i64_in _ (by omega)
            have hlt' : (j : Int) < (n : Int) := by omega
            go_wp2
            go_quiet ((go_at_call 14; exact Calls.quiet_of_same (hpre _)))
            go_wp2
            go_roundw
            case rel => exact ⟨j + 1, ps + tl, by omega, by go_num, by go_num, below_drewN (HBR.out.alloc HBR.out.size _) _, HR⟩
            case measure => simp [intOf]; omega
          ·
            have hkz : ((t.kind : Int) == 0) = false := by rw [beq_eq_false_iff_ne]; omega
            have hjn : ((j : Int) == (n : Int) - 1) = false := by rw [beq_eq_false_iff_ne]; omega
            have hte : (T.toList == ([] : List UInt8)) = false := by
              rw [ByteArray.toList_eq, HT.out]; simp [c3]
            have hte2 : T.toList.isEmpty = false := by rw [ByteArray.toList_eq, HT.out]; simp [c3]
            have HR : Hid (j + 1 < n → Places s.data.toList (t.pos + t.text.length) (ts.drop (j + 1))) := Lib.hid (fun _ => c4)
            clear c2 c3 c4 HP
            generalize t.kind = kd at *
            generalize t.pos = ps at *
            generalize t.text.length = tl at *
            generalize fl false (t.re : Int) = fr at *
            generalize fl false (t.im : Int) = fi at *
            have q1 : 0 ≤ (n : Int) - 1 := by omega
            have q2 : IntKind.i64.wrap ((n : Int) - 1) = (n : Int) - 1 := IntWalk.i64_in _ (by omega)
            have hlt' : (j : Int) < (n : Int) := by omega
            go_wp2
            go_quiet ((go_at_call 14; exact Calls.quiet_of_same (hpre _)))
            go_wp2
            go_roundw
            case rel => exact ⟨j + 1, ps + tl, by omega, by go_num, by go_num, below_drewN (HBR.out.alloc HBR.out.size _) _, HR⟩
            case measure => simp [intOf]; omega
        · obtain rfl : n = j := by omega
          obtain ⟨t, ht, hps⟩ := places_last _ _ _ HPL.out
          rw [HN.out] at ht
          rw [size_len] at hps
          have k3 := ((HTK.out.on hbr hg) _ t ht).2.2.2
          rw [hps] at k3
          have HBR := Lib.hid hbr
          have q1 : 0 ≤ (n : Int) - 1 := by omega
          have q3 : ((n : Int) - 1).toNat = n - 1 := by omega
          clear ht hps hbr
          go_wp2
          go_ret
          exact ⟨rfl, below_trans HB2.out HBR.out⟩
  · have hs1 : (1000 : Int) < (s.size : Int) := by omega
    go_enter Tryd.func8, Tryd.ntmps8
    go_wp2_with (go_at_call 9; refine Hid.out ?_)
    refine Lib.hid ?_
    refine haw.mono ?_
    rintro e w1 ⟨rfl, hb1⟩
    have HB1 := Lib.hid hb1
    clear hb1 haw
    go_wp2
    go_ret
    exact ⟨rfl, HB1.out⟩
end Go.Proofs.YtphjjlmjggjodaaDoor
