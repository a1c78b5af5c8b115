/- Kinds: what they give, take, name; a kind's word taken. -/
import Derived.Test.YtgiioflkclkioaaGreatDoorWh
import Derived.Test.YtgiioflkclkioaaGreatDoorHm
set_option linter.unusedSimpArgs false
set_option linter.unusedVariables false
namespace Go.Proofs.YtgiioflkclkioaaGreatDoor
open Go.RowKit Ieee

theorem nat17 {P : Nat → Prop} (h0 : P 0) (h1 : P 1) (h2 : P 2) (h3 : P 3) (h4 : P 4) (h5 : P 5) (h6 : P 6) (h7 : P 7) (h8 : P 8) (h9 : P 9) (h10 : P 10) (h11 : P 11) (h12 : P 12) (h13 : P 13) (h14 : P 14) (h15 : P 15) (h16 : P 16) (k : Nat) (hk : k < 17) : P k := by
  have h : k = 0 ∨ k = 1 ∨ k = 2 ∨ k = 3 ∨ k = 4 ∨ k = 5 ∨ k = 6 ∨ k = 7 ∨ k = 8 ∨ k = 9 ∨ k = 10 ∨ k = 11 ∨ k = 12 ∨ k = 13 ∨ k = 14 ∨ k = 15 ∨ k = 16 := by omega
  rcases h with rfl | rfl | rfl | rfl | rfl | rfl | rfl | rfl | rfl | rfl | rfl | rfl | rfl | rfl | rfl | rfl | rfl <;> assumption
theorem gives_any (k : Nat) (hk : k < 17) (w : World) : Calls Tryz.prog 162 #[.int .i64 (k : Int)] w fun e w' => e = .returned (.bool (gives k)) ∧ w = w' := by
  revert k
  refine nat17 ?_ ?_ ?_ ?_ ?_ ?_ ?_ ?_ ?_ ?_ ?_ ?_ ?_ ?_ ?_ ?_ ?_
  all_goals
    go_enter Tryz.func162, Tryz.ntmps162
    go_wp2
    go_ret
    exact ⟨rfl, rfl⟩
theorem takes_any (k : Nat) (hk : k < 17) (w : World) : Calls Tryz.prog 185 #[.int .i64 (k : Int)] w fun e w' => e = .returned (.int .i64 (takes k : Int)) ∧ w = w' := by
  revert k
  refine nat17 ?_ ?_ ?_ ?_ ?_ ?_ ?_ ?_ ?_ ?_ ?_ ?_ ?_ ?_ ?_ ?_ ?_
  all_goals
    go_enter Tryz.func185, Tryz.ntmps185
    go_wp2
    go_ret
    exact ⟨rfl, rfl⟩
theorem named_any (k : Nat) (hk : k < 17) (w : World) : Calls Tryz.prog 159 #[.int .i64 (k : Int)] w fun e w' => e = .returned (.bool (named k)) ∧ w = w' := by
  revert k
  refine nat17 ?_ ?_ ?_ ?_ ?_ ?_ ?_ ?_ ?_ ?_ ?_ ?_ ?_ ?_ ?_ ?_ ?_
  all_goals
    go_enter Tryz.func159, Tryz.ntmps159
    go_wp2
    go_ret
    exact ⟨rfl, rfl⟩
theorem celled_any (k : Nat) (hk : k < 17) (w : World) : Calls Tryz.prog 183 #[.int .i64 (k : Int)] w fun e w' => e = .returned (.bool (celled k)) ∧ w = w' := by
  revert k
  refine nat17 ?_ ?_ ?_ ?_ ?_ ?_ ?_ ?_ ?_ ?_ ?_ ?_ ?_ ?_ ?_ ?_ ?_
  all_goals
    go_enter Tryz.func183, Tryz.ntmps183
    go_wp2
    go_ret
    exact ⟨rfl, rfl⟩
set_option maxRecDepth 100000 in
set_option maxHeartbeats 1600000 in
theorem takeKind_yes (b g : Nat) (t : Tk) (r : List Tk) (d k : Nat) (gv : Bool) (w : World) (h : Rdr w b g (t :: r) d) (hr : r ≠ []) (hk : k < 17) (hg : gives k = gv) : Calls Tryz.prog 169 #[.pointer (some ⟨b, 0, none⟩), .int .i64 (k : Int), .bool gv] w fun e w' => e = .returned (.int .i64 (k : Int)) ∧ Rdr w' b g r d ∧ Kx (· = b) w w' := by
  have HT := Lib.hid (take_any b g t r d w h hr)
  have HG := Lib.hid (gives_any k hk)
  rw [hg] at HG
  unfold tv at HT
  generalize (⟨t.text.toArray⟩ : ByteArray) = T at *
  clear h hg
  cases gv
  all_goals
    go_enter Tryz.func169, Tryz.ntmps169
    go_wp2_with fail
    refine HT.out.mono ?_
    rintro e w1 ⟨rfl, hR, hk1⟩
    have H2 := Lib.hid hR
    have H3 := Lib.hid hk1
    clear hR hk1
    go_wp2_with fail
    refine (HG.out _).mono ?_
    rintro e w2 ⟨rfl, rfl⟩
    go_wp2
    go_ret
    exact ⟨rfl, H2.out, H3.out⟩
set_option maxRecDepth 100000 in
set_option maxHeartbeats 1600000 in
theorem takeKind_no (b g : Nat) (t : Tk) (r : List Tk) (d k : Nat) (gv : Bool) (w : World) (h : Rdr w b g (t :: r) d) (hok : Okt r) (hk : k < 17) (hg : gives k = !gv) : Calls Tryz.prog 169 #[.pointer (some ⟨b, 0, none⟩), .int .i64 (k : Int), .bool gv] w fun e w' => e = pan (hpos r) 9 ∧ Kx (· = b) w w' := by
  obtain ⟨u, r1, rfl⟩ := hok.ne
  have HT := Lib.hid (take_any b g t (u :: r1) d w h (by simp))
  have HG := Lib.hid (gives_any k hk)
  have HF := Lib.hid (fun (w' : World) (hb' : Rdr w' b g (u :: r1) d) => fail_any b g u r1 d 9 w' hb')
  simp only [Int.cast_ofNat_Int] at HF
  have hp : hpos (u :: r1) = u.pos := rfl
  rw [hp]
  unfold pan at HF ⊢
  rw [hg] at HG
  unfold tv at HT
  generalize (⟨t.text.toArray⟩ : ByteArray) = T at *
  clear h hg hp
  cases gv
  all_goals
    simp only [Bool.not_false, Bool.not_true] at HG
    go_enter Tryz.func169, Tryz.ntmps169
    go_wp2_with fail
    refine HT.out.mono ?_
    rintro e w1 ⟨rfl, hR, hk1⟩
    have H2 := Lib.hid hR
    have H3 := Lib.hid hk1
    clear hR hk1
    go_wp2_with fail
    refine (HG.out _).mono ?_
    rintro e w2 ⟨rfl, rfl⟩
    go_wp2_with fail
    refine (HF.out _ H2.out).mono ?_
    rintro e w3 ⟨rfl, hb3⟩
    have HB3 := Lib.hid hb3
    clear hb3
    go_wp2
    exact ⟨rfl, rfl, H3.out.bel HB3.out⟩
/-- The kind behind =. -/
def GvR (b g : Nat) (w : World) (d : Nat) : Rd Nat → Ending → World → Prop
  | .ok (k, ts), e, w' => e = .returned (.int .i64 (k : Int)) ∧ Rdr w' b g ts d ∧ Kx (· = b) w w'
  | .error (p, c), e, w' => e = pan p c ∧ Kx (· = b) w w'
def givenP : List Tk → Rd Nat
  | [] => .error (0, 0)
  | u :: r2 =>
    match kindOf u.text with
    | none => .ok (0, u :: r2)
    | some k => if gives k then .ok (k, r2) else .error (hpos r2, 9)
set_option maxRecDepth 100000 in
set_option maxHeartbeats 1600000 in
theorem given_any (b g : Nat) (ts : List Tk) (d : Nat) (w : World) (h : Rdr w b g ts d) (hok : Okt ts) : Calls Tryz.prog 170 #[.pointer (some ⟨b, 0, none⟩)] w (GvR b g w d (givenP ts)) := by
  obtain ⟨u, r, rfl⟩ := hok.ne
  have hfT := fldT
  have HN := Lib.hid (next_any b g u r d w h)
  have HKO := Lib.hid (fun w' (hb : Below w.heap.size w w') => kindOf_any u.text w' (h.lkk.on hb))
  have HRD := Lib.hid h
  have HOK := Lib.hid hok
  unfold tv at HN
  clear h hok
  cases hk : kindOf u.text with
  | none =>
    rw [show givenP (u :: r) = .ok (0, u :: r) by simp only [givenP, hk]]
    rw [hk] at HKO
    unfold KoR at HKO
    unfold GvR
    simp only at HKO
    clear hk
    generalize (⟨u.text.toArray⟩ : ByteArray) = T at *
    go_enter Tryz.func170, Tryz.ntmps170
    go_wp2_with fail
    refine HN.out.mono ?_
    rintro e w1 ⟨rfl, hb1⟩
    have HB1 := Lib.hid hb1
    clear hb1
    go_wp2_with fail
    refine (HKO.out _ HB1.out).mono ?_
    rintro e w2 ⟨rfl, rfl⟩
    go_wp2
    go_ret
    exact ⟨rfl, HRD.out.on HB1.out, Kx.of HB1.out⟩
  | some k =>
    have hk17 := kindOf_some hk
    have htl := HOK.out.tl (kindOf_ne hk)
    have HTL := Lib.hid htl
    rw [hk] at HKO
    unfold KoR at HKO
    simp only at HKO
    clear htl
    generalize (⟨u.text.toArray⟩ : ByteArray) = T at *
    cases hg : gives k with
    | true =>
      have HTK := Lib.hid (fun w' (hb : Below w.heap.size w w') => takeKind_yes b g u r d k true w' (HRD.out.on hb) HTL.out.2.2 hk17.2.1 hg)
      rw [show givenP (u :: r) = .ok (k, r) by simp only [givenP, hk, hg, if_true]]
      unfold GvR
      clear hg hk17 hk
      go_enter Tryz.func170, Tryz.ntmps170
      go_wp2_with fail
      refine HN.out.mono ?_
      rintro e w1 ⟨rfl, hb1⟩
      have HB1 := Lib.hid hb1
      clear hb1
      go_wp2_with fail
      refine (HKO.out _ HB1.out).mono ?_
      rintro e w2 ⟨rfl, rfl⟩
      go_wp2_with fail
      refine (HTK.out _ HB1.out).mono ?_
      rintro e w2 ⟨rfl, hR, hk1⟩
      have H2 := Lib.hid hR
      have H3 := Lib.hid hk1
      clear hR hk1
      go_wp2
      go_ret
      exact ⟨rfl, H2.out, (Kx.of HB1.out).tr H3.out⟩
    | false =>
      have HTK := Lib.hid (fun w' (hb : Below w.heap.size w w') => takeKind_no b g u r d k true w' (HRD.out.on hb) HTL.out.1 hk17.2.1 hg)
      rw [show givenP (u :: r) = .error (hpos r, 9) by simp only [givenP, hk, hg, Bool.false_eq_true, if_false]]
      unfold GvR
      unfold pan at HTK ⊢
      clear hg hk17 hk
      go_enter Tryz.func170, Tryz.ntmps170
      go_wp2_with fail
      refine HN.out.mono ?_
      rintro e w1 ⟨rfl, hb1⟩
      have HB1 := Lib.hid hb1
      clear hb1
      go_wp2_with fail
      refine (HKO.out _ HB1.out).mono ?_
      rintro e w2 ⟨rfl, rfl⟩
      go_wp2_with fail
      refine (HTK.out _ HB1.out).mono ?_
      rintro e w2 ⟨rfl, hk1⟩
      have H3 := Lib.hid hk1
      clear hk1
      go_wp2
      exact ⟨rfl, rfl, (Kx.of HB1.out).tr H3.out⟩
end Go.Proofs.YtgiioflkclkioaaGreatDoor
