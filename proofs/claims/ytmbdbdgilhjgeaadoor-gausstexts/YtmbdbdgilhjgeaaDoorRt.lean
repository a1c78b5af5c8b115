/- The document's Digits and Text: a number's text. -/
import Derived.Test.YtmbdbdgilhjgeaaDoorPt
set_option linter.unusedSimpArgs false
set_option linter.unusedVariables false
namespace Go.Proofs.YtmbdbdgilhjgeaaDoor
open Go.RowKit

theorem digit_cut : ∀ u : Fin 10, (⟨#[48, 49, 50, 51, 52, 53, 54, 55, 56, 57]⟩ : ByteArray).extract u.val (u.val + 1) = ⟨#[UInt8.ofNat (48 + u.val)]⟩ := by decide
theorem dec_small {u : Nat} (h : u < 10) : Lib.decDigits u = [UInt8.ofNat (48 + u)] := by rw [Lib.decDigits, dif_pos h]
theorem dec_big {u : Nat} (h : ¬ u < 10) : Lib.decDigits u = Lib.decDigits (u / 10) ++ Lib.decDigits (u % 10) := by
  rw [Lib.decDigits, dif_neg h, dec_small (u := u % 10) (by omega)]
theorem dec_len {u : Nat} (h : u < 1000000000) : (Lib.decDigits u).length ≤ 21 := by
  have := Lib.itoa_length_le (u : Int) (by omega) (by omega)
  rw [itoa_pos' (by omega)] at this
  simpa using this

set_option maxRecDepth 100000 in
set_option maxHeartbeats 1600000 in
theorem rdig_lo (u : Nat) (h : u < 10) (w : World) : Calls Tryd.prog 41 #[.int .i64 (u : Int)] w fun e w' => e = .returned (.string ⟨(Lib.decDigits u).toArray⟩) ∧ w = w' := by
  rw [dec_small h]
  have hd := digit_cut ⟨u, h⟩
  simp only at hd
  have h0 : (0 : Int) ≤ (u : Int) := by omega
  have h1 : (u : Int) < 10 := by omega
  have hc : (⟨[UInt8.ofNat (48 + u)].toArray⟩ : ByteArray) = ⟨#[UInt8.ofNat (48 + u)]⟩ := rfl
  rw [hc, ← hd]
  clear hd hc
  go_enter Tryd.func41, Tryd.ntmps41
  go_wp2
  go_ret
  exact ⟨rfl, rfl⟩

set_option maxRecDepth 100000 in
set_option maxHeartbeats 1600000 in
theorem rdig_hi (n : Int) (A B C : List UInt8) (h1 : 10 ≤ n) (h2 : n < 100000000) (i1 : ∀ w : World, Calls Tryd.prog 41 #[.int .i64 (n / 10)] w fun e w' => e = .returned (.string ⟨A.toArray⟩) ∧ w = w')
    (i2 : ∀ w : World, Calls Tryd.prog 41 #[.int .i64 (n % 10)] w fun e w' => e = .returned (.string ⟨B.toArray⟩) ∧ w = w') (hc : ∀ w : World, (Op.stringOp .add ⟨A.toArray⟩ ⟨B.toArray⟩).run Tryd.prog w = .ok (.string ⟨C.toArray⟩) w) (w : World) :
    Calls Tryd.prog 41 #[.int .i64 n] w fun e w' => e = .returned (.string ⟨C.toArray⟩) ∧ w = w' := by
  have I1 := Lib.hid i1
  have I2 := Lib.hid i2
  clear i1 i2
  go_enter Tryd.func41, Tryd.ntmps41
  go_wp2_with fail
  with_reducible refine (I1.out _).mono ?_
  rintro e w' ⟨rfl, rfl⟩
  go_wp2_with fail
  with_reducible refine (I2.out _).mono ?_
  rintro e w' ⟨rfl, rfl⟩
  go_wp2
  go_ret
  exact ⟨rfl, rfl⟩

theorem rdig (u : Nat) (hu : u < 100000000) : ∀ w : World, Calls Tryd.prog 41 #[.int .i64 (u : Int)] w fun e w' => e = .returned (.string ⟨(Lib.decDigits u).toArray⟩) ∧ w = w' := by
  induction u using Nat.strongRecOn with
  | _ u ih =>
    intro w
    by_cases h : u < 10
    · exact rdig_lo u h w
    · have i1 := ih (u / 10) (by omega) (by omega)
      have i2 := ih (u % 10) (by omega) (by omega)
      rw [show ((u / 10 : Nat) : Int) = (u : Int) / 10 by omega] at i1
      rw [show ((u % 10 : Nat) : Int) = (u : Int) % 10 by omega] at i2
      have hc := cat_run (Lib.decDigits (u / 10)) (Lib.decDigits (u % 10)) (by have := dec_len (u := u / 10) (by omega); omega) (by rw [dec_small (by omega)]; simp)
      rw [← dec_big h] at hc
      exact rdig_hi u _ _ _ (by omega) (by omega) i1 i2 hc w

set_option maxRecDepth 100000 in
set_option maxHeartbeats 1600000 in
theorem rdigits {n : Int} (h : Bd 1048576 n) (w : World) : Calls Tryd.prog 41 #[.int .i64 n] w fun e w' => e = .returned (.string ⟨(Lib.itoa n).toArray⟩) ∧ w = w' := by
  unfold Bd at h
  by_cases hn : n < 0
  · rw [itoa_neg' hn]
    have i1 := rdig n.natAbs (by omega)
    rw [show ((n.natAbs : Nat) : Int) = -n by omega] at i1
    have hc : (Op.stringOp .add ⟨#[45]⟩ ⟨(Lib.decDigits n.natAbs).toArray⟩).run Tryd.prog w = .ok (.string ⟨(45 :: Lib.decDigits n.natAbs).toArray⟩) w := cat_run [45] (Lib.decDigits n.natAbs) (by simp) (by have := dec_len (u := n.natAbs) (by omega); omega) w
    have hlo : -1048576 ≤ n := by omega
    clear h
    generalize 45 :: Lib.decDigits n.natAbs = A at *
    go_enter Tryd.func41, Tryd.ntmps41
    go_wp2_with (go_at_call 41; refine Hid.out ?_)
    refine Lib.hid ((i1 _).mono ?_)
    rintro e w' ⟨rfl, rfl⟩
    go_wp2
    go_ret
    exact ⟨rfl, rfl⟩
  · rw [itoa_pos' hn]
    have i1 := rdig n.toNat (by omega) w
    rw [show ((n.toNat : Nat) : Int) = n by omega] at i1
    exact i1

theorem nil_cat (x : List UInt8) (hx : x.length ≤ 1000) (w : World) : (Op.stringOp .add ⟨#[]⟩ ⟨x.toArray⟩).run Tryd.prog w = .ok (.string ⟨x.toArray⟩) w := cat_run [] x (by simp) hx w
theorem cat_plus (x : List UInt8) (hx : x.length ≤ 1000) (w : World) : (Op.stringOp .add ⟨x.toArray⟩ ⟨#[43]⟩).run Tryd.prog w = .ok (.string ⟨(x ++ [43]).toArray⟩) w := cat_run x [43] hx (by simp) w
set_option maxRecDepth 100000 in
set_option maxHeartbeats 1600000 in
theorem rtext {r i : Int} (hr : Bd 1048576 r) (hi : Bd 1048576 i) (w : World) : Calls Tryd.prog 31 #[.int .i64 r, .int .i64 i] w fun e w' => e = .returned (.string ⟨(txt r i).toArray⟩) ∧ w = w' := by
  have l1 := itoa_len (hr.sm (by decide))
  have l2 := itoa_len (hi.sm (by decide))
  have d1 := rdigits hr
  have d2 := rdigits hi
  unfold txt
  by_cases h1 : i = 0
  · rw [if_pos h1]
    have e1 : (i == 0) = true := by simp [h1]
    clear h1 d2
    go_enter Tryd.func31, Tryd.ntmps31
    go_wp2_with (go_at_call 41; refine (d1 _).mono ?_; rintro e w' ⟨rfl, rfl⟩)
    go_ret
    exact ⟨rfl, rfl⟩
  · rw [if_neg h1]
    have e1 : (i == 0) = false := by simp [h1]
    by_cases h2 : r = 0
    · rw [if_pos h2]
      have e2 : (r != 0) = false := by simp [h2]
      have c1 := nil_cat (Lib.itoa i) (by omega)
      have c2 := cat_run_i (Lib.itoa i) (by omega)
      clear h1 h2 d1
      go_enter Tryd.func31, Tryd.ntmps31
      go_wp2_with (go_at_call 41; refine (d2 _).mono ?_; rintro e w' ⟨rfl, rfl⟩)
      go_ret
      exact ⟨rfl, rfl⟩
    · rw [if_neg h2]
      have e2 : (r != 0) = true := by simp [h2]
      by_cases h3 : 0 < i
      · rw [if_pos h3]
        have c1 := cat_plus (Lib.itoa r) (by omega)
        have c2 := cat_run (Lib.itoa r ++ [43]) (Lib.itoa i) (by simp; omega) (by omega)
        have c3 := cat_run_i (Lib.itoa r ++ [43] ++ Lib.itoa i) (by simp; omega)
        have ea : Lib.itoa r ++ ([43] ++ (Lib.itoa i ++ [105])) = Lib.itoa r ++ [43] ++ Lib.itoa i ++ [105] := by simp
        rw [ea]
        clear h1 h2 ea
        generalize Lib.itoa r ++ [43] ++ Lib.itoa i ++ [105] = A4 at *
        generalize Lib.itoa r ++ [43] ++ Lib.itoa i = A3 at *
        generalize Lib.itoa r ++ [43] = A2 at *
        go_enter Tryd.func31, Tryd.ntmps31
        go_wp2_with (go_at_call 41; refine Hid.out ?_)
        refine Lib.hid ((d1 _).mono ?_)
        rintro e w' ⟨rfl, rfl⟩
        go_wp2_with (go_at_call 41; refine Hid.out ?_)
        refine Lib.hid ((d2 _).mono ?_)
        rintro e w' ⟨rfl, rfl⟩
        go_wp2
        go_ret
        exact ⟨rfl, rfl⟩
      · rw [if_neg h3]
        have c2 := cat_run (Lib.itoa r) (Lib.itoa i) (by omega) (by omega)
        have c3 := cat_run_i (Lib.itoa r ++ Lib.itoa i) (by simp; omega)
        have ea : Lib.itoa r ++ (Lib.itoa i ++ [105]) = Lib.itoa r ++ Lib.itoa i ++ [105] := by simp
        rw [ea]
        clear h1 h2 ea
        generalize Lib.itoa r ++ Lib.itoa i ++ [105] = A4 at *
        generalize Lib.itoa r ++ Lib.itoa i = A3 at *
        go_enter Tryd.func31, Tryd.ntmps31
        go_wp2_with (go_at_call 41; refine Hid.out ?_)
        refine Lib.hid ((d1 _).mono ?_)
        rintro e w' ⟨rfl, rfl⟩
        go_wp2_with (go_at_call 41; refine Hid.out ?_)
        refine Lib.hid ((d2 _).mono ?_)
        rintro e w' ⟨rfl, rfl⟩
        go_wp2
        go_ret
        exact ⟨rfl, rfl⟩
end Go.Proofs.YtmbdbdgilhjgeaaDoor
