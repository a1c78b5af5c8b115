/- The law WireTakes, walked: true at any bytes, any numbers. -/
import Derived.Test.YtpjmefbbfgpaiaaDoorLm
import Derived.Test.YtpjmefbbfgpaiaaDoorBk
namespace Go.Proofs.YtpjmefbbfgpaiaaDoor
open Go.RowKit

theorem lnum_same (A : Option Addr) (n c0 : Nat) (l : List Nat) (w : World) (hn : n = l.length) (hr : Rd w A l) (hl : l.length ≤ 1000100) (hby : ∀ b ∈ l, b < 256) :
    Calls Tryd.prog 22 #[.slice A n c0] w (Three w (vread l)) := by
  subst hn
  exact lnum_any A c0 l w hr hl hby
theorem vgo_err (r : List Nat) : ∀ i n, (vgo i n r).2.2 ≠ 0 → (vgo i n r).1 = 0 ∧ (vgo i n r).2.1 = 0 := by
  induction r with
  | nil => intro i n _; simp [vgo]
  | cons c r ih =>
    intro i n
    rw [vgo]
    split
    · simp
    · split
      · simp
      · exact ih _ _
theorem vread_err {l : List Nat} (h : (vread l).2.2 ≠ 0) : (vread l).1 = 0 ∧ (vread l).2.1 = 0 := vgo_err l 0 0 h

theorem RdI.kept {S : Nat → Prop} {w w' : World} {A : Option Addr} {l : List Int} (h : RdI w A l) (k : Kept S w w') (hn : ∀ g, g < w.heap.size → ¬ S g) : RdI w' A l := fun hl => by
  obtain ⟨ad, rfl, hb, hc⟩ := h hl
  exact ⟨ad, rfl, Nat.lt_of_lt_of_le hb k.size, fun j hj => (k.cell (by rw [add_block]; exact hb) (by rw [add_block]; exact hn _ hb)).trans (hc j hj)⟩

theorem equal_n (A B : Option Addr) (n m c d : Nat) (l : List Nat) (w : World) (hn : l.length = n) (hl : Rd w A l) (hk : Rd w B l) (hb : n ≤ 2000000) (hm : l.length = m) :
    Calls Tryd.prog 14 #[.slice A n c, .slice B m d] w (Told w true) := by
  subst hn hm
  have := equal_any A B c d l l w hl hk hb hb
  rw [sameB_of rfl] at this
  exact this
theorem tdiv2_fits {n : Int} (h : Fits63 n) : -9223372036854775808 ≤ n.tdiv 2 ∧ n.tdiv 2 ≤ 9223372036854775807 := by
  unfold Fits63 at h
  obtain ⟨m, rfl | rfl⟩ := n.eq_nat_or_neg
  · have e : (m : Int).tdiv 2 = ((m / 2 : Nat) : Int) := rfl
    rw [e]; omega
  · have e : (-(m : Int)).tdiv 2 = -((m / 2 : Nat) : Int) := by rw [Int.neg_tdiv]; rfl
    rw [e]; omega

/-- Cut at its left: the address under one name. -/
theorem slice_from (w : World) (A : Option Addr) (cap k : Nat) (L : List Nat) (hk : k ≤ L.length) (hc : L.length ≤ cap) (hr : Rd w A L) :
    ∃ X, (∀ W : World, (Instr.slice 24 (.slice A L.length cap) (some (.int .i64 (k : Int))) none none).run Tryd.prog W = .ok (.slice X (L.length - k) (cap - k)) W) ∧
      (∀ m : Nat, k + m ≤ L.length → ∀ W : World, (Instr.slice 24 (.slice A L.length cap) (some (.int .i64 (k : Int))) (some (.int .i64 ((k : Int) + (m : Int)))) none).run Tryd.prog W = .ok (.slice X m (cap - k)) W) ∧ Rd w X (L.drop k) := by
  refine ⟨if cap = k then A else Option.map (fun x => x.add k) A, fun W => ?_, fun m hm W => ?_, Rd.drop hr k hc⟩
  · have h1 : (k : Int) ≤ (L.length : Int) := by omega
    go_simp
  · have h1 : (k : Int) + (m : Int) ≤ (cap : Int) := by omega
    have h2 : 0 ≤ (k : Int) + (m : Int) := by omega
    have h3 : k ≤ ((k : Int) + (m : Int)).toNat := by omega
    have h4 : ((k : Int) + (m : Int)).toNat - k = m := by omega
    go_simp

/-- A reader of the call's own. -/
structure TInv (w wr : World) (b : Nat) (A : Option Addr) (c : Nat) (L : List Nat) (at_ err : Nat) : Prop where
  rd : Rdr wr b A c L at_ err
  bb : w.heap.size ≤ b
  kp : Kept (fun _ => False) w wr
theorem TInv.took {w wr wr1 : World} {b : Nat} {A : Option Addr} {c : Nat} {L : List Nat} {at_ err at' err' : Nat} (h : TInv w wr b A c L at_ err) (r : Rdr wr1 b A c L at' err') (k : Kept (fun i => i = b) wr wr1) : TInv w wr1 b A c L at' err' :=
  ⟨r, h.bb, h.kp.trans k fun i hi e => absurd hi (by have := h.bb; omega)⟩
theorem TInv.kept {w wr wr1 : World} {b : Nat} {A : Option Addr} {c : Nat} {L : List Nat} {at_ err : Nat} (h : TInv w wr b A c L at_ err) (k : Kept (fun _ => False) wr wr1) : TInv w wr1 b A c L at_ err :=
  ⟨h.rd.kept k id (fun _ _ f => f), h.bb, h.kp.trans k fun _ _ f => f⟩

set_option maxRecDepth 100000 in
set_option maxHeartbeats 6400000 in
theorem takes_any (A0 : Option Addr) (c0 : Nat) (L : List Nat) (A1 : Option Addr) (c1 : Nat) (l : List Int) (w : World) (hr : Rd w A0 L) (hA : A0 = none → c0 = 0) (hby : ∀ b ∈ L, b < 256) (hcap : L.length ≤ c0) (hi : RdI w A1 l) (hfit : ∀ b ∈ l, Fits63 b) (ht : Tab w) :
    Calls Tryd.prog 5 #[.slice A0 L.length c0, .slice A1 l.length c1] w (Yes w) := by
  have HBY := Lib.hid hby
  have HF := Lib.hid hfit
  have HA := Lib.hid hA
  clear hby hfit hA
  go_enter Tryd.func5, Tryd.ntmps5
  go_wp2_with fail
  refine (awake_any w ht).mono ?_
  rintro e w1 ⟨rfl, k1⟩
  have K1 := Lib.hid k1
  have R1 := Lib.hid (hr.kept k1 fun _ _ f => f)
  have I1 := Lib.hid (hi.kept k1 fun _ _ f => f)
  clear k1 hr hi ht
  by_cases h200 : 200 < L.length
  · go_wp2
    go_ret
    exact ⟨rfl, K1.out⟩
  by_cases h40 : 40 < l.length
  · go_wp2
    go_ret
    exact ⟨rfl, K1.out⟩
  have hd200 : decide ((200 : Int) < (L.length : Int)) = false := by simp; omega
  have hd40 : decide ((40 : Int) < (l.length : Int)) = false := by simp; omega
  have hLl : L.length ≤ 200 := by omega
  have hll : l.length ≤ 40 := by omega
  clear h200 h40
  go_wp2_with fail
  refine (read_any A0 c0 L _ R1.out HA.out (by omega)).mono ?_
  rintro e w2 ⟨b, A, c, rfl, hb2, hr2, hg2, hk2⟩
  have I2 : Hid (TInv w1 w2 b A c L 0 0) := ⟨hr2, hb2, hk2⟩
  clear hb2 hr2 hg2 hk2
  go_wp2
  go_loopw [6, 7, 31] (fun x y i wr => ∃ (j at_ err : Nat), j ≤ l.length ∧ i = .int .i64 (j : Int) ∧ x = .int .i64 (at_ : Int) ∧ y = .int .i64 (err : Int) ∧ Hid (TInv w1 wr b A c L at_ err)) (fun _ _ i _ => l.length - (intOf i).toNat)
  case atStart => exact ⟨0, 0, 0, Nat.zero_le _, rfl, rfl, rfl, I2⟩
  case round =>
    obtain ⟨j, at_, err, hj, rfl, rfl, rfl, HI⟩ := hrel
    have hal : at_ ≤ L.length := HI.out.rd.2.2
    by_cases hlt : j < l.length
    · obtain ⟨ad, rfl, hab, hall⟩ := I1.out (by omega)
      have hc := (HI.out.kp.cell (by rw [add_block]; exact hab) id).trans (hall j hlt)
      have hf : Fits63 (l.getD j 0) := HF.out _ (by simp [List.getD, List.getElem?_eq_getElem hlt])
      generalize l.getD j 0 = n at *
      clear hall
      obtain ⟨X, hX, hXm, hXr⟩ := slice_from w1 A0 c0 at_ L hal hcap R1.out
      have XR := Lib.hid hXr
      have XM := Lib.hid hXm
      clear hXr hXm
      by_cases hev : n.tmod 2 = 0
      · have he : (n.tmod 2 == 0) = true := by simpa using hev
        have HE := Lib.hid hev
        clear hev
        have HN := Lib.hid (lnum_same X (L.length - at_) (c0 - at_) (L.drop at_) wr (by simp) (XR.out.kept HI.out.kp (fun _ _ f => f)) (by simp; omega) (fun b hb => HBY.out b (List.mem_of_mem_drop hb)))
        have HM := Lib.hid (fun h => rdnum_any b A c L at_ wr h (by omega) HBY.out)
        have hve := vread_err (l := L.drop at_)
        have hvc := vread_count (L.drop at_)
        rw [List.length_drop] at hvc
        generalize vread (L.drop at_) = r at *
        obtain ⟨x1, x2, x3⟩ := r
        simp only at hve hvc
        have HVE := Lib.hid hve
        clear hve
        go_wp2_with fail
        refine HN.out.mono ?_
        rintro e w3 ⟨rfl, rfl⟩
        by_cases herr : err = 0
        · have hen : ((err : Int) == 0) = true := by simp [herr]
          rw [herr] at HI
          have HERR := Lib.hid herr
          clear herr
          by_cases hx3 : x3 = 0
          · have hxn : ((x3 : Int) != 0) = false := by simp [hx3]
            rw [hx3] at HM
            have HX := Lib.hid hx3
            clear hx3
            obtain ⟨a', ha'⟩ : ∃ a', at_ + x2 = a' := ⟨_, rfl⟩
            have hsum : (at_ : Int) + (x2 : Int) = (a' : Int) := by omega
            have hal' : a' ≤ L.length := by omega
            rw [ha'] at HM
            clear ha'
            go_wp2_with fail
            refine (HM.out HI.out.rd).mono ?_
            rintro e w4 ⟨rfl, hr4, hk4⟩
            have I4 := Lib.hid (HI.out.took hr4 hk4)
            have hx0 : (x3 : Int) = 0 := by have := HX.out; omega
            clear hr4 hk4
            go_wp2_with fail
            refine (at_any _ _ _ _ _ _ _ (by exact I4.out.rd)).mono ?_
            rintro e w5 ⟨rfl, rfl⟩
            go_wp2_with fail
            refine (left_any _ _ _ _ _ _ _ (by exact I4.out.rd) (by omega)).mono ?_
            rintro e w6 ⟨rfl, q, rfl⟩
            rw [show ((L.length - a' : Nat) : Int) = (L.length : Int) - (a' : Int) from by omega]
            go_wp2_with fail
            refine (err_any _ _ _ _ _ _ _ (by exact I4.out.rd)).mono ?_
            rintro e w7 ⟨rfl, rfl⟩
            go_wp2
            go_roundw
            case rel => exact ⟨j + 1, a', 0, by omega, by go_num, by go_num, by go_num, I4.out.kept ((Kept.refl _ _).drewN _)⟩
            case measure => simp [intOf]; omega
          · have hxn : ((x3 : Int) != 0) = true := by rw [bne_iff_ne]; omega
            obtain ⟨hz1, hz2⟩ := HVE.out hx3
            rw [hz1, hz2, Nat.add_zero] at HM
            have HZ := Lib.hid (And.intro hz1 hz2)
            clear hz1 hz2
            go_wp2_with fail
            refine (HM.out HI.out.rd).mono ?_
            rintro e w4 ⟨rfl, hr4, hk4⟩
            have I4 := Lib.hid (HI.out.took hr4 hk4)
            clear hr4 hk4
            go_wp2_with fail
            refine (at_any _ _ _ _ _ _ _ (by exact I4.out.rd)).mono ?_
            rintro e w5 ⟨rfl, rfl⟩
            go_wp2_with fail
            refine (left_any _ _ _ _ _ _ _ (by exact I4.out.rd) (by omega)).mono ?_
            rintro e w6 ⟨rfl, q, rfl⟩
            rw [show ((L.length - at_ : Nat) : Int) = (L.length : Int) - (at_ : Int) from by omega]
            go_wp2_with fail
            refine (err_any _ _ _ _ _ _ _ (by exact I4.out.rd)).mono ?_
            rintro e w7 ⟨rfl, rfl⟩
            go_wp2
            go_roundw
            case rel => exact ⟨j + 1, at_, x3, by omega, by go_num, by go_num, by go_num, I4.out.kept ((Kept.refl _ _).drewN _)⟩
            case measure => simp [intOf]; omega
        · have hen : ((err : Int) == 0) = false := by rw [beq_eq_false_iff_ne]; omega
          have hxn : ((err : Int) != 0) = true := by rw [bne_iff_ne]; omega
          go_wp2_with fail
          refine (rdnum_err b A c L at_ err _ HI.out.rd herr).mono ?_
          rintro e w4 ⟨rfl, hr4, hk4⟩
          have I4 := Lib.hid (HI.out.took hr4 hk4)
          clear hr4 hk4
          go_wp2_with fail
          refine (at_any _ _ _ _ _ _ _ (by exact I4.out.rd)).mono ?_
          rintro e w5 ⟨rfl, rfl⟩
          go_wp2_with fail
          refine (left_any _ _ _ _ _ _ _ (by exact I4.out.rd) (by omega)).mono ?_
          rintro e w6 ⟨rfl, q, rfl⟩
          rw [show ((L.length - at_ : Nat) : Int) = (L.length : Int) - (at_ : Int) from by omega]
          go_wp2_with fail
          refine (err_any _ _ _ _ _ _ _ (by exact I4.out.rd)).mono ?_
          rintro e w7 ⟨rfl, rfl⟩
          go_wp2
          go_roundw
          case rel => exact ⟨j + 1, at_, err, by omega, by go_num, by go_num, by go_num, I4.out.kept ((Kept.refl _ _).drewN _)⟩
          case measure => simp [intOf]; omega
      · have he : (n.tmod 2 == 0) = false := by simpa using hev
        obtain ⟨k, hk⟩ : ∃ k, n.tdiv 2 = k := ⟨_, rfl⟩
        have hw : wrap64 (n.tdiv 2) = k := by
          rw [← hk]
          exact IntWalk.wrap64_in _ (tdiv2_fits hf)
        clear hk hev hf
        by_cases herr : err = 0
        · have hen : ((err : Int) == 0) = true := by simp [herr]
          rw [herr] at HI
          have HERR := Lib.hid herr
          clear herr
          by_cases hbad : k < 0 ∨ ((L.length - at_ : Nat) : Int) < k
          · have HB := Lib.hid (rdraw_bad b A c L at_ k wr HI.out.rd (by omega) hbad)
            by_cases hneg : k < 0
            · clear hbad
              go_wp2_with fail
              refine HB.out.mono ?_
              rintro e w4 ⟨rfl, hr4, hk4⟩
              have I3 := Lib.hid (HI.out.took hr4 hk4)
              clear hr4 hk4
              go_wp2_with fail
              refine (equal_any none none 0 0 [] [] _ (Rd.nil _ _) (Rd.nil _ _) (by simp) (by simp)).mono ?_
              rw [sameB_of rfl]
              rintro e w5 ⟨rfl, q0, hq0⟩
              have I4 : Hid (TInv w1 w5 b A c L at_ 3) := by rw [hq0]; exact I3.out.kept ((Kept.refl _ _).drewN _)
              clear hq0 I3
              go_wp2_with fail
              refine (at_any _ _ _ _ _ _ _ (by exact I4.out.rd)).mono ?_
              rintro e w5 ⟨rfl, rfl⟩
              go_wp2_with fail
              refine (left_any _ _ _ _ _ _ _ (by exact I4.out.rd) (by omega)).mono ?_
              rintro e w6 ⟨rfl, q, rfl⟩
              rw [show ((L.length - at_ : Nat) : Int) = (L.length : Int) - (at_ : Int) from by omega]
              go_wp2_with fail
              refine (err_any _ _ _ _ _ _ _ (by exact I4.out.rd)).mono ?_
              rintro e w7 ⟨rfl, rfl⟩
              go_wp2
              go_roundw
              case rel => exact ⟨j + 1, at_, 3, by omega, by go_num, by go_num, by go_num, I4.out.kept ((Kept.refl _ _).drewN _)⟩
              case measure => simp [intOf]; omega
            · have hbig : (L.length : Int) - (at_ : Int) < k := by omega
              clear hbad
              go_wp2_with fail
              refine HB.out.mono ?_
              rintro e w4 ⟨rfl, hr4, hk4⟩
              have I3 := Lib.hid (HI.out.took hr4 hk4)
              clear hr4 hk4
              go_wp2_with fail
              refine (equal_any none none 0 0 [] [] _ (Rd.nil _ _) (Rd.nil _ _) (by simp) (by simp)).mono ?_
              rw [sameB_of rfl]
              rintro e w5 ⟨rfl, q0, hq0⟩
              have I4 : Hid (TInv w1 w5 b A c L at_ 3) := by rw [hq0]; exact I3.out.kept ((Kept.refl _ _).drewN _)
              clear hq0 I3
              go_wp2_with fail
              refine (at_any _ _ _ _ _ _ _ (by exact I4.out.rd)).mono ?_
              rintro e w5 ⟨rfl, rfl⟩
              go_wp2_with fail
              refine (left_any _ _ _ _ _ _ _ (by exact I4.out.rd) (by omega)).mono ?_
              rintro e w6 ⟨rfl, q, rfl⟩
              rw [show ((L.length - at_ : Nat) : Int) = (L.length : Int) - (at_ : Int) from by omega]
              go_wp2_with fail
              refine (err_any _ _ _ _ _ _ _ (by exact I4.out.rd)).mono ?_
              rintro e w7 ⟨rfl, rfl⟩
              go_wp2
              go_roundw
              case rel => exact ⟨j + 1, at_, 3, by omega, by go_num, by go_num, by go_num, I4.out.kept ((Kept.refl _ _).drewN _)⟩
              case measure => simp [intOf]; omega
          · obtain ⟨m, rfl⟩ := Int.eq_ofNat_of_zero_le (show 0 ≤ k by omega)
            have hm : m ≤ L.length - at_ := by omega
            have hneg : ¬ ((m : Nat) : Int) < 0 := by omega
            have hbig : ¬ ((L.length : Int) - (at_ : Int) < (m : Int)) := by omega
            have hXs := XM.out m (by omega)
            obtain ⟨a', ha'⟩ : ∃ a', at_ + m = a' := ⟨_, rfl⟩
            have hal' : a' ≤ L.length := by omega
            have HB := Lib.hid (rdraw_ok b A c L at_ m wr HI.out.rd (by omega) hm)
            have XT := Lib.hid (XR.out.take m)
            have hlt' : Hid (((L.drop at_).take m).length = m) := by rw [Hid, List.length_take, List.length_drop]; omega
            have hsum : (at_ : Int) + (m : Int) = (a' : Int) := by omega
            simp only [hsum] at hXs
            have HA' := Lib.hid ha'
            clear hbad ha'
            go_wp2_with fail
            refine HB.out.mono ?_
            rintro e w4 ⟨A4, c4, rfl, hr4, ho4, hg4, hn4, hk4⟩
            rw [HA'.out] at hr4
            have I3 := Lib.hid (HI.out.took hr4 hk4)
            have hk5 : Kept (fun _ => False) w1 w4 := I3.out.kp
            have Q4 : Hid (Rd w4 A4 ((L.drop at_).take m) ∧ Rd w4 X ((L.drop at_).take m)) := ⟨by
              refine Rd.of_owns (n := m) (c := c4) (base := 0) ?_
              rw [hlt'.out]
              exact ho4, XT.out.kept hk5 (fun _ _ f => f)⟩
            clear hr4 ho4 hg4 hn4 hk4 hk5
            go_wp2_with fail
            refine (equal_n A4 X m m c4 (c0 - at_) ((L.drop at_).take m) w4 hlt'.out Q4.out.1 Q4.out.2 (by omega) hlt'.out).mono ?_
            rintro e w5 ⟨rfl, q0, hq0⟩
            have I4 : Hid (TInv w1 w5 b A c L a' 0) := by rw [hq0]; exact I3.out.kept ((Kept.refl _ _).drewN _)
            have hE : (err : Int) = 0 := by have := HERR.out; omega
            clear hq0 I3
            go_wp2_with fail
            refine (at_any _ _ _ _ _ _ _ (by exact I4.out.rd)).mono ?_
            rintro e w5 ⟨rfl, rfl⟩
            go_wp2_with fail
            refine (left_any _ _ _ _ _ _ _ (by exact I4.out.rd) (by omega)).mono ?_
            rintro e w6 ⟨rfl, q, rfl⟩
            rw [show ((L.length - a' : Nat) : Int) = (L.length : Int) - (a' : Int) from by omega]
            go_wp2_with fail
            refine (err_any _ _ _ _ _ _ _ (by exact I4.out.rd)).mono ?_
            rintro e w7 ⟨rfl, rfl⟩
            go_wp2
            go_roundw
            case rel => exact ⟨j + 1, a', 0, by omega, by go_num, by go_num, by go_num, I4.out.kept ((Kept.refl _ _).drewN _)⟩
            case measure => simp [intOf]; omega
        · have hen : ((err : Int) == 0) = false := by rw [beq_eq_false_iff_ne]; omega
          go_wp2_with fail
          refine (rdraw_err b A c L at_ err k _ HI.out.rd herr).mono ?_
          rintro e w4 ⟨rfl, hr4, hk4⟩
          have I3 := Lib.hid (HI.out.took hr4 hk4)
          clear hr4 hk4
          go_wp2_with fail
          refine (equal_any none none 0 0 [] [] _ (Rd.nil _ _) (Rd.nil _ _) (by simp) (by simp)).mono ?_
          rw [sameB_of rfl]
          rintro e w5 ⟨rfl, q0, hq0⟩
          have I4 : Hid (TInv w1 w5 b A c L at_ err) := by rw [hq0]; exact I3.out.kept ((Kept.refl _ _).drewN _)
          clear hq0 I3
          go_wp2_with fail
          refine (at_any _ _ _ _ _ _ _ (by exact I4.out.rd)).mono ?_
          rintro e w5 ⟨rfl, rfl⟩
          go_wp2_with fail
          refine (left_any _ _ _ _ _ _ _ (by exact I4.out.rd) (by omega)).mono ?_
          rintro e w6 ⟨rfl, q, rfl⟩
          rw [show ((L.length - at_ : Nat) : Int) = (L.length : Int) - (at_ : Int) from by omega]
          go_wp2_with fail
          refine (err_any _ _ _ _ _ _ _ (by exact I4.out.rd)).mono ?_
          rintro e w7 ⟨rfl, rfl⟩
          go_wp2
          go_roundw
          case rel => exact ⟨j + 1, at_, err, by omega, by go_num, by go_num, by go_num, I4.out.kept ((Kept.refl _ _).drewN _)⟩
          case measure => simp [intOf]; omega
    · go_wp2
      go_ret
      exact ⟨rfl, K1.out.trans HI.out.kp fun _ _ f => f⟩
end Go.Proofs.YtpjmefbbfgpaiaaDoor
