/- The document's Split: a text's tokens, by definition. -/
import Derived.Test.YtphjjlmjggjodaaDoorRk
import Derived.Test.YtphjjlmjggjodaaDoorSp
import Derived.Lib.IndexLaws
set_option linter.unusedSimpArgs false
set_option linter.unusedVariables false
namespace Go.Proofs.YtphjjlmjggjodaaDoor
open Go.RowKit Ieee

theorem gap_true_some : ∀ (l : List UInt8) (o : Nat), l[o]? = some 10 → (∀ k, k < o → l[k]? ≠ some 10) → gap true l = o + gap false (l.drop o)
  | [], o, h, _ => by simp at h
  | c :: r, 0, h, _ => by
    simp only [List.getElem?_cons_zero, Option.some.injEq] at h
    subst h
    rw [List.drop_zero, gap, if_pos (by decide), gap, if_pos (by decide)]
    omega
  | c :: r, o + 1, h, hk => by
    have hc : c ≠ 10 := fun e => hk 0 (by omega) (by rw [e]; rfl)
    have ih := gap_true_some r o (by simpa using h) (fun k hko => by have := hk (k + 1) (by omega); simpa using this)
    rw [gap, if_neg (by simpa using hc), ih, List.drop_succ_cons]
    omega
theorem gap_true_none : ∀ (l : List UInt8), (∀ k : Nat, l[k]? ≠ some 10) → gap true l = l.length
  | [], _ => rfl
  | c :: r, hk => by
    have hc : c ≠ 10 := fun e => hk 0 (by rw [e]; rfl)
    have ih := gap_true_none r (fun k => by have := hk (k + 1); simpa using this)
    rw [gap, if_neg (by simpa using hc), ih]
    rfl
theorem gap_pre {l : List UInt8} (h : Lib.hasPrefix l [47, 47] = true) : gap false l = gap true l := by
  cases l with
  | nil => rfl
  | cons c r =>
    obtain ⟨rfl, h1⟩ := gap_in h
    rw [h1, gap_on (by decide)]
theorem spl_note_some {l : List UInt8} {o p : Nat} (h : Lib.hasPrefix l [47, 47] = true) (ho : Lib.indexByte l 10 = (o : Int)) : spl l p = spl (l.drop o) (p + o) := by
  obtain ⟨h1, h2⟩ := Lib.indexByte_some ho
  exact spl_skip (by rw [gap_pre h, gap_true_some l o h1 h2]) rfl
theorem spl_note_none {l : List UInt8} {p : Nat} (h : Lib.hasPrefix l [47, 47] = true) (ho : Lib.indexByte l 10 = -1) : spl l p = spl (l.drop l.length) (p + l.length) := by
  refine spl_skip ?_ rfl
  rw [gap_pre h, gap_true_none l (Lib.indexByte_none ho)]
  simp [gap]
theorem ib_cases (l : List UInt8) : Lib.indexByte l 10 = -1 ∨ ∃ o : Nat, Lib.indexByte l 10 = (o : Int) ∧ 1 ≤ o + l.length ∧ o < l.length := by
  have hge := Lib.indexByte_ge l 10
  by_cases h : Lib.indexByte l 10 = -1
  · exact .inl h
  · right
    obtain ⟨o, ho⟩ : ∃ o : Nat, Lib.indexByte l 10 = (o : Int) := ⟨(Lib.indexByte l 10).toNat, by omega⟩
    have := (List.getElem?_eq_some_iff.1 (Lib.indexByte_some ho).1).1
    exact ⟨o, ho, by omega, this⟩

/-- What holds in each round. -/
structure Sr (s : ByteArray) (w0 w' : World) (k : Nat) (v : Value) (ts : List Tk) : Prop where
  bel : Below w0.heap.size w0 w'
  own : w'.ownsRow w0.heap.size 31 4 v ts.length (tcs ts)
  res : spl s.data.toList 0 = match spl (s.data.toList.drop k) k with
    | .error e => .error e
    | .ok us => .ok (ts ++ us)
theorem Sr.move {s : ByteArray} {w0 w' : World} {k k' : Nat} {v : Value} {ts : List Tk} (h : Sr s w0 w' k v ts) (e : spl (s.data.toList.drop k) k = spl (s.data.toList.drop k') k') : Sr s w0 w' k' v ts :=
  ⟨h.bel, h.own, by rw [h.res, e]⟩
theorem feed_at (t : ByteArray) (x : Int) (h : Lib.indexByte t.data.toList 10 = x) (w : World) : Calls Tryd.prog 18 #[.string t, .int .u8 10] w fun e w' => e = .returned (.int .i64 x) ∧ w = w' :=
  (Tryd.strings_IndexByte t 10 w).mono fun e w' ⟨he, hw⟩ => ⟨by rw [he]; show Ending.returned (.int .i64 (Lib.indexByte t.data.toList 10)) = _; rw [h], hw.symm⟩

set_option maxRecDepth 100000 in
set_option maxHeartbeats 8000000 in
theorem rsplit (s : ByteArray) (hs : s.size ≤ 16384) (w0 : World) : Calls Tryd.prog 11 #[.string s] w0 (SplR w0 (spl s.data.toList 0)) := by
  obtain ⟨R, hR⟩ : ∃ R, spl s.data.toList 0 = R := ⟨_, rfl⟩
  have HR := Lib.hid hR
  rw [hR]
  clear hR
  obtain ⟨i0, hi0, hz0, hz1, hz2⟩ := info_parts tk_info
  have HI := Lib.hid hi0
  have HZ0 := Lib.hid hz0
  have HZ1 := Lib.hid hz1
  have HZ2 := Lib.hid hz2
  clear hi0 hz0 hz1 hz2
  go_enter Tryd.func11, Tryd.ntmps11
  go_wp2
  go_loopw [5, 6] (fun o i wr => ∃ (k : Nat) (ts : List Tk), k ≤ s.size ∧ ts.length ≤ k ∧ i = .int .i64 (k : Int) ∧ Hid (Sr s w0 wr k o ts)) (fun _ i _ => s.size - (intOf i).toNat)
  case atStart =>
    refine ⟨0, [], Nat.zero_le _, by simp, rfl, Lib.hid ⟨Below.refl _ _, World.ownsRow_nil _ _ _ _, ?_⟩⟩
    rw [List.drop_zero]
    cases spl s.data.toList 0 <;> rfl
  case round =>
    obtain ⟨k, ts, hk, htk, rfl, HS⟩ := hrel
    by_cases hlt : k < s.size
    · have hd := drop_at hlt
      have e1 : ((s[k].toNat : Int) == 32) = (s[k] == 32) := byte_eq s[k] 32 (by decide)
      have e2 : ((s[k].toNat : Int) == 9) = (s[k] == 9) := byte_eq s[k] 9 (by decide)
      have e3 : ((s[k].toNat : Int) == 10) = (s[k] == 10) := byte_eq s[k] 10 (by decide)
      have hbl : isBl s[k] = (s[k] == 32 || s[k] == 9 || s[k] == 10) := rfl
      cases hb : isBl s[k] with
      | true =>
        have HN : Hid (Sr s w0 wr (k + 1) u5 ts) := Lib.hid (HS.out.move (by rw [hd]; exact spl_blank hb _ _))
        rw [hb] at hbl
        clear hd hb HS
        cases h1 : (s[k] == 32) <;> cases h2 : (s[k] == 9) <;> cases h3 : (s[k] == 10) <;> rw [h1, h2, h3] at hbl <;> (try cases hbl) <;> rw [h1] at e1 <;> rw [h2] at e2 <;> rw [h3] at e3 <;> clear h1 h2 h3 <;> (try clear hbl)
        all_goals
          go_wp2
          go_roundw
          case rel => exact ⟨k + 1, ts, by omega, by omega, by go_num, HN⟩
          case measure => simp [intOf]; omega
      | false =>
        rw [hb] at hbl
        simp only [Bool.false_eq, Bool.or_eq_false_iff] at hbl
        rw [hbl.1.1] at e1
        rw [hbl.1.2] at e2
        rw [hbl.2] at e3
        clear hbl
        have hx := ext_drop s k
        have hxl : (s.data.toList.drop k).length = s.size - k := by rw [List.length_drop, size_len]
        cases hp : Lib.hasPrefix (s.data.toList.drop k) [47, 47] with
        | true =>
          have hpre := prefix_any (s.extract k s.size) ⟨#[47, 47]⟩ true (by rw [hx]; exact hp)
          rcases ib_cases (s.data.toList.drop k) with ho | ⟨o, ho, _, hol⟩
          · have hfa := feed_at (s.extract k s.size) (-1) (by rw [hx]; exact ho)
            have HN : Hid (Sr s w0 wr s.size u5 ts) := Lib.hid (HS.out.move (by rw [spl_note_none hp ho, List.drop_drop, hxl, show k + (s.size - k) = s.size by omega]))
            clear hd hb HS hx hxl hp ho
            go_wp2_with (first
              | (go_at_call 14; refine (hpre _).mono ?_; rintro e w' ⟨rfl, rfl⟩)
              | (go_at_call 18; refine (hfa _).mono ?_; rintro e w' ⟨rfl, rfl⟩))
            go_roundw
            case rel => exact ⟨s.size, ts, by omega, by omega, by go_num, HN⟩
            case measure => simp [intOf]; omega
          · have hfa := feed_at (s.extract k s.size) (o : Int) (by rw [hx]; exact ho)
            have HN : Hid (Sr s w0 wr (k + o) u5 ts) := Lib.hid (HS.out.move (by rw [spl_note_some hp ho, List.drop_drop]))
            have ho1 : 1 ≤ o := by
              rcases Nat.eq_zero_or_pos o with h0 | h0
              · exfalso
                have := (Lib.indexByte_some ho).1
                rw [h0, hd] at this
                simp only [List.getElem?_cons_zero, Option.some.injEq] at this
                rw [this] at hb
                revert hb; decide
              · exact h0
            rw [hxl] at hol
            have ho0 : decide ((o : Int) < 0) = false := decide_eq_false (by omega)
            clear hd hb HS hx hxl hp ho
            go_wp2_with (first
              | (go_at_call 14; refine (hpre _).mono ?_; rintro e w' ⟨rfl, rfl⟩)
              | (go_at_call 18; refine (hfa _).mono ?_; rintro e w' ⟨rfl, rfl⟩))
            go_roundw
            case rel => exact ⟨k + o, ts, by omega, by omega, by go_num, HN⟩
            case measure => simp [intOf]; omega
        | false =>
          have hpre := prefix_any (s.extract k s.size) ⟨#[47, 47]⟩ false (by rw [hx]; exact hp)
          have hsz : (s.extract k s.size).size = s.size - k := by rw [← size_len, hx, hxl]
          have htok := token_any (s.extract k s.size) (by omega) (by omega) wr
          rw [hx] at htok
          have hg0 : gap false (s.data.toList.drop k) = 0 := by rw [hd] at hp ⊢; exact gap_none hb hp
          have hne : s.data.toList.drop k ≠ [] := by rw [hd]; simp
          cases ht : tok (s.data.toList.drop k) with
          | error c =>
            rw [ht] at htok
            have hsp := spl_err (p := k) (l := s.data.toList.drop k) (by rw [hg0, List.drop_zero]) hne ht
            rw [hg0, Nat.add_zero] at hsp
            have hcode := spl_places s.data.toList s.size (s.data.toList.drop k) k (by omega) (by rw [size_len]; omega) rfl
            rw [hsp] at hcode
            have hc0 : ((c : Int) != 0) = true := by simp; omega
            have hres := HS.out.res
            rw [HR.out, hsp] at hres
            simp only at hres
            subst hres
            have HBE := Lib.hid HS.out.bel
            clear hd hb HS hx hxl hp hsz hg0 hne ht hsp hcode
            go_wp2_with (first
              | (go_at_call 14; refine (hpre _).mono ?_; rintro e w' ⟨rfl, rfl⟩)
              | (go_at_call 19; refine htok.mono ?_; rintro e w' ⟨rfl, rfl⟩))
            go_ret3
            exact ⟨rfl, HBE.out⟩
          | ok q =>
            obtain ⟨kd, n, x, y⟩ := q
            rw [ht] at htok
            have hf := tok_facts (c := s[k]) (r := s.data.toList.drop (k + 1)) (by rw [← hd]; exact ht)
            rw [← hd, hxl] at hf
            obtain ⟨f1, f2, _⟩ := hf
            have hsp := spl_tok (p := k) (l := s.data.toList.drop k) (by rw [hg0, List.drop_zero]) hne ht f1
            rw [hg0, Nat.add_zero, List.drop_drop] at hsp
            obtain ⟨t, hT⟩ : ∃ t : Tk, t = ⟨kd, (s.data.toList.drop k).take n, x, y, k⟩ := ⟨_, rfl⟩
            rw [← hT] at hsp
            have HRES : Hid (spl s.data.toList 0 = match spl (s.data.toList.drop (k + n)) (k + n) with
                | .error e => .error e
                | .ok us => .ok ((ts ++ [t]) ++ us)) := Lib.hid (by
              rw [HS.out.res, hsp]
              cases spl (s.data.toList.drop (k + n)) (k + n) with
              | error e => rfl
              | ok us => simp)
            have HTC : Hid (tc t = [.int .i64 (kd : Int), .string (s.extract k (k + n)), .complex .f64 (fl false (x : Int)) (fl false (y : Int)), .int .i64 (k : Int)]) := Lib.hid (by rw [hT, ext_take s k (k + n) n (by omega)]; rfl)
            have HTO := Lib.hid (tc_one t)
            clear hd hb hx hxl hp hsz hg0 hne ht hsp hT
            go_wp2_with (first
              | (go_at_call 14; refine (hpre _).mono ?_; rintro e w' ⟨rfl, rfl⟩)
              | (go_at_call 19; refine htok.mono ?_; rintro e w' ⟨rfl, rfl⟩)
              | (at_builtin; refine Hid.out ?_))
            refine Lib.hid ?_
            refine wpList_append_own_at _ rfl (.tmp 64) (.tmp 75) 23 rfl w0.heap.size 31 i0 _ 4 48 Tryd.underlying23 HI.out HZ0.out HZ1.out HZ2.out rfl (by decide) u5 ts.length (tcs ts) rfl (HS.out.own.alloc _) ⟨wr.heap.size, 0, Option.none⟩ 1 1 (tc t) rfl (by rw [HTC.out]; rfl)
              (by rw [HTC.out]; exact new_cells' wr _ rfl _ 31) HTO.out (by unfold maxLen; omega) (by omega) (by simp; have := HS.out.bel.size; omega) ?_
            intro v' w4 hown' hgr _ _
            have HN : Hid (Sr s w0 w4 (k + n) v' (ts ++ [t])) := Lib.hid ⟨(HS.out.bel.alloc HS.out.bel.size _).grown hgr (by simp; have := HS.out.bel.size; omega) (fun q hq => (HS.out.own.lt q hq).1), by
              rw [tcs_snoc, List.length_append]; exact hown', HRES.out⟩
            clear hown' hgr HS HTC
            go_wp2
            go_roundw
            case rel => exact ⟨k + n, ts ++ [t], by omega, by simp; omega, by go_num, HN⟩
            case measure => simp [intOf]; omega
    · obtain rfl : k = s.size := by omega
      have hd := drop_end hlt
      have hres := HS.out.res
      rw [HR.out, hd, spl_end (l := []) rfl] at hres
      simp only [gap, Nat.add_zero] at hres
      subst hres
      have HTC : Hid (tc ⟨0, [], 0, 0, s.size⟩ = [.int .i64 0, .string ⟨#[]⟩, .complex .f64 0 0, .int .i64 (s.size : Int)]) := Lib.hid (by unfold tc; simp [fl0])
      have HTO := Lib.hid (tc_one ⟨0, [], 0, 0, s.size⟩)
      clear hd
      go_wp2_with (at_builtin; refine Hid.out ?_)
      refine Lib.hid ?_
      refine wpList_append_own_at _ rfl (.tmp 80) (.tmp 84) 23 rfl w0.heap.size 31 i0 _ 4 48 Tryd.underlying23 HI.out HZ0.out HZ1.out HZ2.out rfl (by decide) u5 ts.length (tcs ts) rfl (HS.out.own.alloc _) ⟨wr.heap.size, 0, Option.none⟩ 1 1 (tc ⟨0, [], 0, 0, s.size⟩) rfl (by rw [HTC.out]; rfl)
        (by rw [HTC.out]; exact new_cells' wr _ rfl _ 31) HTO.out (by unfold maxLen; omega) (by omega) (by simp; have := HS.out.bel.size; omega) ?_
      intro v' w4 hown' hgr _ _
      have HBE : Hid (Below w0.heap.size w0 w4) := Lib.hid ((HS.out.bel.alloc HS.out.bel.size _).grown hgr (by simp; have := HS.out.bel.size; omega) (fun q hq => (HS.out.own.lt q hq).1))
      have HO : Hid (w4.ownsRow w0.heap.size 31 4 v' (ts ++ [(⟨0, [], 0, 0, s.size⟩ : Tk)]).length (tcs (ts ++ [⟨0, [], 0, 0, s.size⟩]))) := Lib.hid (by rw [tcs_snoc, List.length_append]; exact hown')
      clear hown' hgr HS HTC
      go_wp2
      go_ret3
      exact ⟨v', rfl, HO.out, HBE.out⟩
end Go.Proofs.YtphjjlmjggjodaaDoor
