/- A declaration's number. -/
import Derived.Test.YtgiioflkclkioaaGreatDoorBk
import Derived.Test.YtgiioflkclkioaaGreatDoorAr
import Derived.Laws.ComplexArith
set_option linter.unusedSimpArgs false
set_option linter.unusedVariables false
namespace Go.Proofs.YtgiioflkclkioaaGreatDoor
open Go.RowKit Ieee

theorem sm_of {n : Int} (h : -2000000 ≤ n) (h' : n ≤ 2000000) : Sm n := by unfold Sm; omega
theorem sub0_fl {a : Int} (h : -2000000 ≤ a) (h' : a ≤ 2000000) : floatBits .sub .f64 0 (fl false a) = some (fl false (-a)) := by
  have := sub_fl false false (a := 0) (b := a) (sm_of (by omega) (by omega)) (sm_of h h') (sm_of (by omega) (by omega))
  rw [fl0] at this
  rw [this]
  simp [sg]
theorem add0_fl {a : Int} (h : -2000000 ≤ a) (h' : a ≤ 2000000) : floatBits .add .f64 (fl false a) 0 = some (fl false a) := by
  have := add_fl false false (a := a) (b := 0) (sm_of h h') (sm_of (by omega) (by omega)) (sm_of (by omega) (by omega))
  rw [fl0] at this
  rw [this]
  simp [sg]
theorem add1_fl {a : Int} (h : -2000000 ≤ a) (h' : a ≤ 2000000) : floatBits .add .f64 0 (fl false a) = some (fl false a) := by
  have := add_fl false false (a := 0) (b := a) (sm_of (by omega) (by omega)) (sm_of h h') (sm_of (by omega) (by omega))
  rw [fl0] at this
  rw [this]
  simp [sg]
theorem fl_sg (a : Int) : fl (sg false a) a = fl false a := by
  unfold fl sg
  by_cases h : a = 0
  · simp [h]
  · simp [h]
theorem subr_fl {a : Int} (h : -2000000 ≤ a) (h' : a ≤ 2000000) : floatBits .sub .f64 (fl false a) 0 = some (fl false a) := by
  have := sub_fl false false (a := a) (b := 0) (sm_of h h') (sm_of (by omega) (by omega)) (sm_of (by omega) (by omega))
  rw [fl0] at this
  rw [this, show sg (!false) (-(0 : Int)) = true from rfl, Bool.and_true, Int.sub_zero, fl_sg]
def NuR (b g : Nat) (w : World) (d : Nat) (R : Rd (Int × Int)) (e : Ending) (w' : World) : Prop :=
  match R with
  | .ok ((x, y), ts) => e = .returned (.complex .f64 (fl false x) (fl false y)) ∧ Rdr w' b g ts d ∧ Kx (· = b) w w'
  | .error (p, c) => e = pan p c ∧ Kx (· = b) w w'
set_option maxRecDepth 100000 in
set_option maxHeartbeats 1600000 in
theorem second_yes (b g : Nat) (t : Tk) (r : List Tk) (d : Nat) (w : World) (h : Rdr w b g (t :: r) d) (hok : Okt (t :: r)) (hi : t.im ≠ 0) : Calls Tryz.prog 144 #[.pointer (some ⟨b, 0, none⟩)] w fun e w' => e = .returned (.complex .f64 0 (fl false (t.im : Int))) ∧ Rdr w' b g r d ∧ Kx (· = b) w w' := by
  have hd := hok.hd
  have hk : t.kind ≠ 0 := fun e => hi (hd.2.2.2.2.2.2.1 (by omega)).2
  have htl := hok.tlk hk
  have hre : t.re = 0 := by rcases hd.2.2.2.2.2.2.2 with h | h; exact h; exact absurd h hi
  have hfN := fldN
  have HN := Lib.hid (next_any b g t r d w h)
  have HT := Lib.hid (fun (w' : World) (hb' : Below w.heap.size w w') => take_any b g t r d w' (h.on hb') htl.2.2)
  have e1 := eq_fl0 false (a := (t.im : Int)) (sm_of (by omega) (by omega))
  have q1 : (FloatKind.f64.format.order (fl false (t.im : Int)) 0 == some .eq) = false := by rw [e1]; simp; omega
  unfold tv at HN HT
  have h0 : fl false (((0 : Nat)) : Int) = 0 := fl0
  rw [hre, h0] at HN HT
  generalize (⟨t.text.toArray⟩ : ByteArray) = T at *
  generalize fl false (t.im : Int) = Y at *
  clear h hd htl hre h0 e1
  go_enter Tryz.func144, Tryz.ntmps144
  go_wp2_with fail
  refine HN.out.mono ?_
  rintro e w1 ⟨rfl, hb1⟩
  have HB1 := Lib.hid hb1
  clear hb1
  go_wp2_with fail
  refine (HT.out _ HB1.out).mono ?_
  rintro e w2 ⟨rfl, hR, hk2⟩
  have H2 := Lib.hid hR
  have H3 := Lib.hid hk2
  clear hR hk2
  go_wp2
  go_ret
  exact ⟨rfl, H2.out, (Kx.of HB1.out).tr H3.out⟩
set_option maxRecDepth 100000 in
set_option maxHeartbeats 1600000 in
theorem second_no (b g : Nat) (t : Tk) (r : List Tk) (d : Nat) (w : World) (h : Rdr w b g (t :: r) d) (hi : t.im = 0) : Calls Tryz.prog 144 #[.pointer (some ⟨b, 0, none⟩)] w fun e w' => e = pan t.pos 1 ∧ Below w.heap.size w w' := by
  have hfN := fldN
  have HN := Lib.hid (next_any b g t r d w h)
  have HF := Lib.hid (fun (w' : World) (hb' : Below w.heap.size w w') => fail_any b g t r d 1 w' (h.on hb'))
  simp only [Int.cast_ofNat_Int] at HF
  have q1 : (FloatKind.f64.format.order 0 0 == some .eq) = true := by decide +kernel
  unfold tv at HN
  have h0 : fl false (((0 : Nat)) : Int) = 0 := fl0
  rw [hi, h0] at HN
  unfold pan at HF ⊢
  generalize (⟨t.text.toArray⟩ : ByteArray) = T at *
  clear h hi h0
  go_enter Tryz.func144, Tryz.ntmps144
  go_wp2_with fail
  refine HN.out.mono ?_
  rintro e w1 ⟨rfl, hb1⟩
  have HB1 := Lib.hid hb1
  clear hb1
  go_wp2_with fail
  refine (HF.out _ HB1.out).mono ?_
  rintro e w2 ⟨rfl, hb2⟩
  have HB2 := Lib.hid (below_trans HB1.out hb2)
  clear hb2
  go_wp2
  exact ⟨rfl, rfl, HB2.out⟩
/-- Behind the sign. -/
def num2P (neg : Bool) : List Tk → Rd (Int × Int)
  | [] => .error (0, 0)
  | t :: r =>
    if t.kind = 2 then
      if t.im ≠ 0 then .ok ((0, if neg then - (t.im : Int) else t.im), r)
      else
        match r with
        | [] => .ok ((if neg then - (t.re : Int) else t.re, 0), [])
        | u :: r1 =>
          if u.text = [43] then
            match secondP r1 with
            | .error er => .error er
            | .ok (i, r2) => .ok ((if neg then - (t.re : Int) else t.re, (i : Int)), r2)
          else if u.text = [45] then
            match secondP r1 with
            | .error er => .error er
            | .ok (i, r2) => .ok ((if neg then - (t.re : Int) else t.re, - (i : Int)), r2)
          else .ok ((if neg then - (t.re : Int) else t.re, 0), u :: r1)
    else .error (t.pos, 1)
theorem numP_eq (t : Tk) (r : List Tk) : numP (t :: r) = if t.text = [45] then num2P true r else num2P false (t :: r) := by
  unfold numP
  simp only
  by_cases h : t.text = [45]
  · rw [if_pos h, if_pos h]
    cases r with
    | nil => rfl
    | cons u r => rfl
  · rw [if_neg h, if_neg h]
    rfl

set_option maxRecDepth 100000 in
set_option maxHeartbeats 3200000 in
theorem num_neg (b g : Nat) (s : Tk) (t : Tk) (r : List Tk) (d : Nat) (w : World) (hrd : Rdr w b g (s :: t :: r) d) (hok : Okt (s :: t :: r)) (hs : s.text = [45]) : Calls Tryz.prog 110 #[.pointer (some ⟨b, 0, none⟩)] w (NuR b g w d (num2P true (t :: r))) := by
  have hfK := fldK
  have hfN := fldN
  have HOKT : Hid (Okt (t :: r)) := Lib.hid (hok.tl (by rw [hs]; simp)).1
  have HTI0 := Lib.hid (takeIf_yes b g s (t :: r) d [45] w hrd (by simp) hs)
  have hd := HOKT.out.hd
  obtain ⟨R, hR⟩ : ∃ R, num2P true (t :: r) = R := ⟨_, rfl⟩
  rw [hR]
  have HR := Lib.hid hR
  clear hR hs
  go_enter Tryz.func110, Tryz.ntmps110
  go_wp2_with fail
  refine HTI0.out.mono ?_
  rintro en w1 ⟨rfl, hrd1, hk1⟩
  have HRD := Lib.hid hrd1
  have HK1 := Lib.hid hk1
  clear hrd1 hk1
  have HN := Lib.hid (next_any b g t r d w1 HRD.out)
  unfold tv at HN
  by_cases hk : t.kind = 2
  · have hkn : ((t.kind : Int) != 2) = false := by simp; omega
    have htl := HOKT.out.tlk (by omega)
    have HTL := Lib.hid htl
    have HT := Lib.hid (fun (w' : World) (hb' : Below w1.heap.size w1 w') => take_any b g t r d w' (HRD.out.on hb') htl.2.2)
    unfold tv at HT
    have hbre : t.re ≤ 1048576 := hd.2.2.1
    have hbim : t.im ≤ 1048576 := hd.2.2.2.1
    have hone := hd.2.2.2.2.2.2.2
    obtain ⟨u, r1, hu⟩ := htl.1.ne
    subst hu
    clear htl hd
    have s1 := sub0_fl (a := (t.re : Int)) (by omega) (by omega)
    have s2 := sub0_fl (a := (t.im : Int)) (by omega) (by omega)
    generalize (⟨t.text.toArray⟩ : ByteArray) = T at *
    have HST : Hid (num2P true (t :: u :: r1) = if t.im ≠ 0 then .ok ((0, - (t.im : Int)), u :: r1) else
          if u.text = [43] then
            match secondP r1 with
            | .error er => .error er
            | .ok (i, r2) => .ok ((- (t.re : Int), (i : Int)), r2)
          else if u.text = [45] then
            match secondP r1 with
            | .error er => .error er
            | .ok (i, r2) => .ok ((- (t.re : Int), - (i : Int)), r2)
          else .ok ((- (t.re : Int), 0), u :: r1)) := Lib.hid (by
      rw [num2P, if_pos hk]; simp only [if_true, Bool.false_eq_true, if_false])
    clear hk
    go_wp2_with fail
    refine HN.out.mono ?_
    rintro en w2 ⟨rfl, hb2⟩
    have HB2 := Lib.hid hb2
    clear hb2
    go_wp2_with fail
    refine (HT.out _ HB2.out).mono ?_
    rintro en w3 ⟨rfl, hrd3, hk3⟩
    have HRD3 := Lib.hid hrd3
    have HK3 : Hid (Kx (· = b) w w3) := Lib.hid ((HK1.out.bel HB2.out).tr hk3)
    clear hrd3 hk3
    have e1 := eq_fl0 false (a := - (t.im : Int)) (sm_of (by omega) (by omega))
    by_cases him : t.im = 0
    · have hRe : R = if u.text = [43] then
            match secondP r1 with
            | .error er => .error er
            | .ok (i, r2) => .ok ((- (t.re : Int), (i : Int)), r2)
          else if u.text = [45] then
            match secondP r1 with
            | .error er => .error er
            | .ok (i, r2) => .ok ((- (t.re : Int), - (i : Int)), r2)
          else .ok ((- (t.re : Int), 0), u :: r1) := by rw [← HR.out, HST.out, if_neg (by simpa using him)]
      have HRE := Lib.hid hRe
      have h0 : fl false (- (t.im : Int)) = 0 := by rw [him]; exact fl0
      have h00 : fl false (t.im : Int) = 0 := by rw [him]; exact fl0
      have q1 : (FloatKind.f64.format.order (fl false (- (t.im : Int))) 0 == some .eq) = true := by rw [e1]; simp; omega
      rw [h0] at q1
      have p0 : floatBits .sub .f64 0 0 = some 0 := by decide +kernel
      have a1 := add0_fl (a := - (t.re : Int)) (by omega) (by omega)
      have a2 := subr_fl (a := - (t.re : Int)) (by omega) (by omega)
      rw [h00]
      generalize hX : fl false (- (t.re : Int)) = X at *
      have HXX := Lib.hid hX
      clear hX
      have hop0 := fun ty w => run_complex_sum (P := Tryz.prog) w .sub (Or.inr rfl) ty .f64 0 0 (fl false (t.re : Int)) 0 X 0 (by unfold cSumBits; rw [s1, p0]; rfl)
      clear hRe e1 s2 him h0 h00
      by_cases hp : u.text = [43]
      · have hRe : R = match secondP r1 with
            | .error er => .error er
            | .ok (i, r2) => .ok ((- (t.re : Int), (i : Int)), r2) := by rw [HRE.out, if_pos hp]
        have HRE2 := Lib.hid hRe
        have htl2 := HTL.out.1.tl (by rw [hp]; simp)
        have HTL2 := Lib.hid htl2
        have HTI := Lib.hid (takeIf_yes b g u r1 d [43] w3 HRD3.out htl2.2.2 hp)
        obtain ⟨x, r2, hx⟩ := htl2.1.ne
        subst hx
        clear hRe htl2 hp
        go_wp2_with fail
        refine HTI.out.mono ?_
        rintro en w4 ⟨rfl, hrd4, hk4⟩
        have HK4 := Lib.hid (HK3.out.tr hk4)
        by_cases hxi : x.im = 0
        · have hRe : R = .error (x.pos, 1) := by rw [HRE2.out, secondP, if_pos hxi]
          have HS := Lib.hid (second_no b g x r2 d w4 hrd4 hxi)
          subst hRe
          unfold pan at HS
          clear hrd4 hk4 hxi
          go_wp2_with fail
          refine HS.out.mono ?_
          rintro en w5 ⟨rfl, hb5⟩
          have HB5 := Lib.hid hb5
          clear hb5
          go_wp2
          exact ⟨rfl, rfl, HK4.out.bel HB5.out⟩
        · have hRe : R = .ok ((- (t.re : Int), (x.im : Int)), r2) := by rw [HRE2.out, secondP, if_neg hxi]
          have HS := Lib.hid (second_yes b g x r2 d w4 hrd4 HTL2.out.1 hxi)
          have hxb : x.im ≤ 1048576 := HTL2.out.1.hd.2.2.2.1
          have a3 := add1_fl (a := (x.im : Int)) (by omega) (by omega)
          generalize hY : fl false (x.im : Int) = Y at *
          have HYY := Lib.hid hY
          clear hY
          have hop1 := fun ty w => run_complex_sum (P := Tryz.prog) w .add (Or.inl rfl) ty .f64 X 0 0 Y X Y (by unfold cSumBits; rw [a1, a3]; rfl)
          have HRE3 := Lib.hid hRe
          clear hrd4 hk4 hxi hRe
          go_wp2_with fail
          refine HS.out.mono ?_
          rintro en w5 ⟨rfl, hrd5, hk5⟩
          have HK5 := Lib.hid (HK4.out.tr hk5)
          have HRD5 := Lib.hid hrd5
          clear hrd5 hk5
          go_wp2
          go_ret
          rw [HRE3.out]
          exact ⟨by rw [HXX.out, HYY.out]; rfl, HRD5.out, HK5.out⟩
      · have HTI := Lib.hid (takeIf_no b g u r1 d [43] w3 HRD3.out hp)
        by_cases hm : u.text = [45]
        · have hRe : R = match secondP r1 with
              | .error er => .error er
              | .ok (i, r2) => .ok ((- (t.re : Int), - (i : Int)), r2) := by rw [HRE.out, if_neg hp, if_pos hm]
          have HRE2 := Lib.hid hRe
          have htl2 := HTL.out.1.tl (by rw [hm]; simp)
          have HTL2 := Lib.hid htl2
          have HTJ := Lib.hid (fun w' (hb : Below w3.heap.size w3 w') => takeIf_yes b g u r1 d [45] w' (HRD3.out.on hb) htl2.2.2 hm)
          obtain ⟨x, r2, hx⟩ := htl2.1.ne
          subst hx
          clear hRe htl2 hm hp
          go_wp2_with fail
          refine HTI.out.mono ?_
          rintro en w4' ⟨rfl, hb4'⟩
          have HB4' := Lib.hid hb4'
          clear hb4'
          go_wp2_with fail
          refine (HTJ.out _ HB4'.out).mono ?_
          rintro en w4 ⟨rfl, hrd4, hk4⟩
          have HK4 := Lib.hid ((HK3.out.bel HB4'.out).tr hk4)
          by_cases hxi : x.im = 0
          · have hRe : R = .error (x.pos, 1) := by rw [HRE2.out, secondP, if_pos hxi]
            have HS := Lib.hid (second_no b g x r2 d w4 hrd4 hxi)
            subst hRe
            unfold pan at HS
            clear hrd4 hk4 hxi
            go_wp2_with fail
            refine HS.out.mono ?_
            rintro en w5 ⟨rfl, hb5⟩
            have HB5 := Lib.hid hb5
            clear hb5
            go_wp2
            exact ⟨rfl, rfl, HK4.out.bel HB5.out⟩
          · have hRe : R = .ok ((- (t.re : Int), - (x.im : Int)), r2) := by rw [HRE2.out, secondP, if_neg hxi]
            have HS := Lib.hid (second_yes b g x r2 d w4 hrd4 HTL2.out.1 hxi)
            have hxb : x.im ≤ 1048576 := HTL2.out.1.hd.2.2.2.1
            have a3 := sub0_fl (a := (x.im : Int)) (by omega) (by omega)
            generalize fl false (x.im : Int) = Y at *
            generalize hY : fl false (- (x.im : Int)) = Z at *
            have HYY := Lib.hid hY
            clear hY
            have hop1 := fun ty w => run_complex_sum (P := Tryz.prog) w .sub (Or.inr rfl) ty .f64 X 0 0 Y X Z (by unfold cSumBits; rw [a2, a3]; rfl)
            have HRE3 := Lib.hid hRe
            clear hrd4 hk4 hxi hRe
            go_wp2_with fail
            refine HS.out.mono ?_
            rintro en w5 ⟨rfl, hrd5, hk5⟩
            have HK5 := Lib.hid (HK4.out.tr hk5)
            have HRD5 := Lib.hid hrd5
            clear hrd5 hk5
            go_wp2
            go_ret
            rw [HRE3.out]
            exact ⟨by rw [HXX.out, HYY.out]; rfl, HRD5.out, HK5.out⟩
        · have hRe : R = .ok ((- (t.re : Int), 0), u :: r1) := by rw [HRE.out, if_neg hp, if_neg hm]
          have HTJ := Lib.hid (fun w' (hb : Below w3.heap.size w3 w') => takeIf_no b g u r1 d [45] w' (HRD3.out.on hb) hm)
          have HRE3 := Lib.hid hRe
          have HF0 := Lib.hid fl0
          clear hRe hm hp
          go_wp2_with fail
          refine HTI.out.mono ?_
          rintro en w4' ⟨rfl, hb4'⟩
          have HB4' := Lib.hid hb4'
          clear hb4'
          go_wp2_with fail
          refine (HTJ.out _ HB4'.out).mono ?_
          rintro en w4 ⟨rfl, hb4⟩
          have HB4 := Lib.hid (below_trans HB4'.out hb4)
          clear hb4
          go_wp2
          go_ret
          rw [HRE3.out]
          exact ⟨by rw [HXX.out, HF0.out]; rfl, HRD3.out.on HB4.out, HK3.out.bel HB4.out⟩
    · have hRe : R = .ok ((0, - (t.im : Int)), u :: r1) := by rw [← HR.out, HST.out, if_pos him]
      have hre : t.re = 0 := by rcases hone with h | h; exact h; exact absurd h him
      have h0 : fl false (- (t.re : Int)) = 0 := by rw [hre]; exact fl0
      have h00 : fl false (t.re : Int) = 0 := by rw [hre]; exact fl0
      have q1 : (FloatKind.f64.format.order (fl false (- (t.im : Int))) 0 == some .eq) = false := by rw [e1]; simp; omega
      have q2 : (FloatKind.f64.format.order (fl false (- (t.im : Int))) 0 != some .eq) = true := by rw [bne, q1]; rfl
      have q3 : ¬ FloatKind.f64.format.order (fl false (- (t.im : Int))) 0 = some .eq := by intro e; rw [e] at q1; cases q1
      have p0 : floatBits .sub .f64 0 0 = some 0 := by decide +kernel
      have HRE := Lib.hid hRe
      have HF0 := Lib.hid fl0
      rw [h00]
      generalize hY : fl false (- (t.im : Int)) = Y at *
      have HYY := Lib.hid hY
      clear hY
      have hop0 := fun ty w => run_complex_sum (P := Tryz.prog) w .sub (Or.inr rfl) ty .f64 0 0 0 (fl false (t.im : Int)) 0 Y (by unfold cSumBits; rw [p0, s2]; rfl)
      clear hRe e1 s1 him h0 h00 hre
      go_wp2
      go_ret
      rw [HRE.out]
      exact ⟨by rw [HYY.out, HF0.out]; rfl, HRD3.out, HK3.out⟩
  · have hkn : ((t.kind : Int) != 2) = true := by simp; omega
    have hRe : R = .error (t.pos, 1) := by rw [← HR.out]; unfold num2P; simp only [if_neg hk]
    have HF := Lib.hid (fun (w' : World) (hb' : Below w1.heap.size w1 w') => fail_any b g t r d 1 w' (HRD.out.on hb'))
    simp only [Int.cast_ofNat_Int] at HF
    subst hRe
    unfold pan at HF
    generalize (⟨t.text.toArray⟩ : ByteArray) = T at *
    clear hk hd
    go_wp2_with fail
    refine HN.out.mono ?_
    rintro en w2 ⟨rfl, hb2⟩
    have HB2 := Lib.hid hb2
    clear hb2
    go_wp2_with fail
    refine (HF.out _ HB2.out).mono ?_
    rintro en w3 ⟨rfl, hb3⟩
    have HB3 := Lib.hid (below_trans HB2.out hb3)
    clear hb3
    go_wp2
    exact ⟨rfl, rfl, HK1.out.bel HB3.out⟩

set_option maxRecDepth 100000 in
set_option maxHeartbeats 3200000 in
theorem num_pos (b g : Nat) (t : Tk) (r : List Tk) (d : Nat) (w : World) (hrd : Rdr w b g (t :: r) d) (hok : Okt (t :: r)) (hs : t.text ≠ [45]) : Calls Tryz.prog 110 #[.pointer (some ⟨b, 0, none⟩)] w (NuR b g w d (num2P false (t :: r))) := by
  have hfK := fldK
  have hfN := fldN
  have HOKT : Hid (Okt (t :: r)) := Lib.hid hok
  have HTI0 := Lib.hid (takeIf_no b g t r d [45] w hrd hs)
  have hd := HOKT.out.hd
  obtain ⟨R, hR⟩ : ∃ R, num2P false (t :: r) = R := ⟨_, rfl⟩
  rw [hR]
  have HR := Lib.hid hR
  clear hR hs
  go_enter Tryz.func110, Tryz.ntmps110
  go_wp2_with fail
  refine HTI0.out.mono ?_
  rintro en w1 ⟨rfl, hb1⟩
  have HRD := Lib.hid (hrd.on hb1)
  have HK1 : Hid (Kx (· = b) w w1) := Lib.hid (Kx.of hb1)
  clear hb1
  have HN := Lib.hid (next_any b g t r d w1 HRD.out)
  unfold tv at HN
  by_cases hk : t.kind = 2
  · have hkn : ((t.kind : Int) != 2) = false := by simp; omega
    have htl := HOKT.out.tlk (by omega)
    have HTL := Lib.hid htl
    have HT := Lib.hid (fun (w' : World) (hb' : Below w1.heap.size w1 w') => take_any b g t r d w' (HRD.out.on hb') htl.2.2)
    unfold tv at HT
    have hbre : t.re ≤ 1048576 := hd.2.2.1
    have hbim : t.im ≤ 1048576 := hd.2.2.2.1
    have hone := hd.2.2.2.2.2.2.2
    obtain ⟨u, r1, hu⟩ := htl.1.ne
    subst hu
    clear htl hd
    have s1 := sub0_fl (a := (t.re : Int)) (by omega) (by omega)
    have s2 := sub0_fl (a := (t.im : Int)) (by omega) (by omega)
    generalize (⟨t.text.toArray⟩ : ByteArray) = T at *
    have HST : Hid (num2P false (t :: u :: r1) = if t.im ≠ 0 then .ok ((0,  (t.im : Int)), u :: r1) else
          if u.text = [43] then
            match secondP r1 with
            | .error er => .error er
            | .ok (i, r2) => .ok (( (t.re : Int), (i : Int)), r2)
          else if u.text = [45] then
            match secondP r1 with
            | .error er => .error er
            | .ok (i, r2) => .ok (( (t.re : Int), - (i : Int)), r2)
          else .ok (( (t.re : Int), 0), u :: r1)) := Lib.hid (by
      rw [num2P, if_pos hk]; simp only [if_true, Bool.false_eq_true, if_false])
    clear hk
    go_wp2_with fail
    refine HN.out.mono ?_
    rintro en w2 ⟨rfl, hb2⟩
    have HB2 := Lib.hid hb2
    clear hb2
    go_wp2_with fail
    refine (HT.out _ HB2.out).mono ?_
    rintro en w3 ⟨rfl, hrd3, hk3⟩
    have HRD3 := Lib.hid hrd3
    have HK3 : Hid (Kx (· = b) w w3) := Lib.hid ((HK1.out.bel HB2.out).tr hk3)
    clear hrd3 hk3
    have e1 := eq_fl0 false (a :=  (t.im : Int)) (sm_of (by omega) (by omega))
    by_cases him : t.im = 0
    · have hRe : R = if u.text = [43] then
            match secondP r1 with
            | .error er => .error er
            | .ok (i, r2) => .ok (( (t.re : Int), (i : Int)), r2)
          else if u.text = [45] then
            match secondP r1 with
            | .error er => .error er
            | .ok (i, r2) => .ok (( (t.re : Int), - (i : Int)), r2)
          else .ok (( (t.re : Int), 0), u :: r1) := by rw [← HR.out, HST.out, if_neg (by simpa using him)]
      have HRE := Lib.hid hRe
      have h0 : fl false ( (t.im : Int)) = 0 := by rw [him]; exact fl0
      have h00 : fl false (t.im : Int) = 0 := by rw [him]; exact fl0
      have q1 : (FloatKind.f64.format.order (fl false ( (t.im : Int))) 0 == some .eq) = true := by rw [e1]; simp; omega
      rw [h0] at q1
      have p0 : floatBits .sub .f64 0 0 = some 0 := by decide +kernel
      have a1 := add0_fl (a :=  (t.re : Int)) (by omega) (by omega)
      have a2 := subr_fl (a :=  (t.re : Int)) (by omega) (by omega)
      rw [h00]
      generalize hX : fl false ( (t.re : Int)) = X at *
      have HXX := Lib.hid hX
      clear hX
      have hop0 := True.intro
      clear hRe e1 s2 him h0 h00
      by_cases hp : u.text = [43]
      · have hRe : R = match secondP r1 with
            | .error er => .error er
            | .ok (i, r2) => .ok (( (t.re : Int), (i : Int)), r2) := by rw [HRE.out, if_pos hp]
        have HRE2 := Lib.hid hRe
        have htl2 := HTL.out.1.tl (by rw [hp]; simp)
        have HTL2 := Lib.hid htl2
        have HTI := Lib.hid (takeIf_yes b g u r1 d [43] w3 HRD3.out htl2.2.2 hp)
        obtain ⟨x, r2, hx⟩ := htl2.1.ne
        subst hx
        clear hRe htl2 hp
        go_wp2_with fail
        refine HTI.out.mono ?_
        rintro en w4 ⟨rfl, hrd4, hk4⟩
        have HK4 := Lib.hid (HK3.out.tr hk4)
        by_cases hxi : x.im = 0
        · have hRe : R = .error (x.pos, 1) := by rw [HRE2.out, secondP, if_pos hxi]
          have HS := Lib.hid (second_no b g x r2 d w4 hrd4 hxi)
          subst hRe
          unfold pan at HS
          clear hrd4 hk4 hxi
          go_wp2_with fail
          refine HS.out.mono ?_
          rintro en w5 ⟨rfl, hb5⟩
          have HB5 := Lib.hid hb5
          clear hb5
          go_wp2
          exact ⟨rfl, rfl, HK4.out.bel HB5.out⟩
        · have hRe : R = .ok (( (t.re : Int), (x.im : Int)), r2) := by rw [HRE2.out, secondP, if_neg hxi]
          have HS := Lib.hid (second_yes b g x r2 d w4 hrd4 HTL2.out.1 hxi)
          have hxb : x.im ≤ 1048576 := HTL2.out.1.hd.2.2.2.1
          have a3 := add1_fl (a := (x.im : Int)) (by omega) (by omega)
          generalize hY : fl false (x.im : Int) = Y at *
          have HYY := Lib.hid hY
          clear hY
          have hop1 := fun ty w => run_complex_sum (P := Tryz.prog) w .add (Or.inl rfl) ty .f64 X 0 0 Y X Y (by unfold cSumBits; rw [a1, a3]; rfl)
          have HRE3 := Lib.hid hRe
          clear hrd4 hk4 hxi hRe
          go_wp2_with fail
          refine HS.out.mono ?_
          rintro en w5 ⟨rfl, hrd5, hk5⟩
          have HK5 := Lib.hid (HK4.out.tr hk5)
          have HRD5 := Lib.hid hrd5
          clear hrd5 hk5
          go_wp2
          go_ret
          rw [HRE3.out]
          exact ⟨by rw [HXX.out, HYY.out]; rfl, HRD5.out, HK5.out⟩
      · have HTI := Lib.hid (takeIf_no b g u r1 d [43] w3 HRD3.out hp)
        by_cases hm : u.text = [45]
        · have hRe : R = match secondP r1 with
              | .error er => .error er
              | .ok (i, r2) => .ok (( (t.re : Int), - (i : Int)), r2) := by rw [HRE.out, if_neg hp, if_pos hm]
          have HRE2 := Lib.hid hRe
          have htl2 := HTL.out.1.tl (by rw [hm]; simp)
          have HTL2 := Lib.hid htl2
          have HTJ := Lib.hid (fun w' (hb : Below w3.heap.size w3 w') => takeIf_yes b g u r1 d [45] w' (HRD3.out.on hb) htl2.2.2 hm)
          obtain ⟨x, r2, hx⟩ := htl2.1.ne
          subst hx
          clear hRe htl2 hm hp
          go_wp2_with fail
          refine HTI.out.mono ?_
          rintro en w4' ⟨rfl, hb4'⟩
          have HB4' := Lib.hid hb4'
          clear hb4'
          go_wp2_with fail
          refine (HTJ.out _ HB4'.out).mono ?_
          rintro en w4 ⟨rfl, hrd4, hk4⟩
          have HK4 := Lib.hid ((HK3.out.bel HB4'.out).tr hk4)
          by_cases hxi : x.im = 0
          · have hRe : R = .error (x.pos, 1) := by rw [HRE2.out, secondP, if_pos hxi]
            have HS := Lib.hid (second_no b g x r2 d w4 hrd4 hxi)
            subst hRe
            unfold pan at HS
            clear hrd4 hk4 hxi
            go_wp2_with fail
            refine HS.out.mono ?_
            rintro en w5 ⟨rfl, hb5⟩
            have HB5 := Lib.hid hb5
            clear hb5
            go_wp2
            exact ⟨rfl, rfl, HK4.out.bel HB5.out⟩
          · have hRe : R = .ok (( (t.re : Int), - (x.im : Int)), r2) := by rw [HRE2.out, secondP, if_neg hxi]
            have HS := Lib.hid (second_yes b g x r2 d w4 hrd4 HTL2.out.1 hxi)
            have hxb : x.im ≤ 1048576 := HTL2.out.1.hd.2.2.2.1
            have a3 := sub0_fl (a := (x.im : Int)) (by omega) (by omega)
            generalize fl false (x.im : Int) = Y at *
            generalize hY : fl false (- (x.im : Int)) = Z at *
            have HYY := Lib.hid hY
            clear hY
            have hop1 := fun ty w => run_complex_sum (P := Tryz.prog) w .sub (Or.inr rfl) ty .f64 X 0 0 Y X Z (by unfold cSumBits; rw [a2, a3]; rfl)
            have HRE3 := Lib.hid hRe
            clear hrd4 hk4 hxi hRe
            go_wp2_with fail
            refine HS.out.mono ?_
            rintro en w5 ⟨rfl, hrd5, hk5⟩
            have HK5 := Lib.hid (HK4.out.tr hk5)
            have HRD5 := Lib.hid hrd5
            clear hrd5 hk5
            go_wp2
            go_ret
            rw [HRE3.out]
            exact ⟨by rw [HXX.out, HYY.out]; rfl, HRD5.out, HK5.out⟩
        · have hRe : R = .ok (( (t.re : Int), 0), u :: r1) := by rw [HRE.out, if_neg hp, if_neg hm]
          have HTJ := Lib.hid (fun w' (hb : Below w3.heap.size w3 w') => takeIf_no b g u r1 d [45] w' (HRD3.out.on hb) hm)
          have HRE3 := Lib.hid hRe
          have HF0 := Lib.hid fl0
          clear hRe hm hp
          go_wp2_with fail
          refine HTI.out.mono ?_
          rintro en w4' ⟨rfl, hb4'⟩
          have HB4' := Lib.hid hb4'
          clear hb4'
          go_wp2_with fail
          refine (HTJ.out _ HB4'.out).mono ?_
          rintro en w4 ⟨rfl, hb4⟩
          have HB4 := Lib.hid (below_trans HB4'.out hb4)
          clear hb4
          go_wp2
          go_ret
          rw [HRE3.out]
          exact ⟨by rw [HXX.out, HF0.out]; rfl, HRD3.out.on HB4.out, HK3.out.bel HB4.out⟩
    · have hRe : R = .ok ((0,  (t.im : Int)), u :: r1) := by rw [← HR.out, HST.out, if_pos him]
      have hre : t.re = 0 := by rcases hone with h | h; exact h; exact absurd h him
      have h0 : fl false ( (t.re : Int)) = 0 := by rw [hre]; exact fl0
      have h00 : fl false (t.re : Int) = 0 := by rw [hre]; exact fl0
      have q1 : (FloatKind.f64.format.order (fl false ( (t.im : Int))) 0 == some .eq) = false := by rw [e1]; simp; omega
      have q2 : (FloatKind.f64.format.order (fl false ( (t.im : Int))) 0 != some .eq) = true := by rw [bne, q1]; rfl
      have q3 : ¬ FloatKind.f64.format.order (fl false ( (t.im : Int))) 0 = some .eq := by intro e; rw [e] at q1; cases q1
      have p0 : floatBits .sub .f64 0 0 = some 0 := by decide +kernel
      have HRE := Lib.hid hRe
      have HF0 := Lib.hid fl0
      rw [h00]
      generalize hY : fl false ( (t.im : Int)) = Y at *
      have HYY := Lib.hid hY
      clear hY
      have hop0 := True.intro
      clear hRe e1 s1 him h0 h00 hre
      go_wp2
      go_ret
      rw [HRE.out]
      exact ⟨by rw [HYY.out, HF0.out]; rfl, HRD3.out, HK3.out⟩
  · have hkn : ((t.kind : Int) != 2) = true := by simp; omega
    have hRe : R = .error (t.pos, 1) := by rw [← HR.out]; unfold num2P; simp only [if_neg hk]
    have HF := Lib.hid (fun (w' : World) (hb' : Below w1.heap.size w1 w') => fail_any b g t r d 1 w' (HRD.out.on hb'))
    simp only [Int.cast_ofNat_Int] at HF
    subst hRe
    unfold pan at HF
    generalize (⟨t.text.toArray⟩ : ByteArray) = T at *
    clear hk hd
    go_wp2_with fail
    refine HN.out.mono ?_
    rintro en w2 ⟨rfl, hb2⟩
    have HB2 := Lib.hid hb2
    clear hb2
    go_wp2_with fail
    refine (HF.out _ HB2.out).mono ?_
    rintro en w3 ⟨rfl, hb3⟩
    have HB3 := Lib.hid (below_trans HB2.out hb3)
    clear hb3
    go_wp2
    exact ⟨rfl, rfl, HK1.out.bel HB3.out⟩

theorem num_any (b g : Nat) (ts : List Tk) (d : Nat) (w : World) (hrd : Rdr w b g ts d) (hok : Okt ts) : Calls Tryz.prog 110 #[.pointer (some ⟨b, 0, none⟩)] w (NuR b g w d (numP ts)) := by
  obtain ⟨t, r, rfl⟩ := hok.ne
  rw [numP_eq]
  by_cases h : t.text = [45]
  · rw [if_pos h]
    obtain ⟨u, r1, rfl⟩ := (hok.tl (by rw [h]; simp)).1.ne
    exact num_neg b g t u r1 d w hrd hok h
  · rw [if_neg h]
    exact num_pos b g t r d w hrd hok h
end Go.Proofs.YtgiioflkclkioaaGreatDoor
