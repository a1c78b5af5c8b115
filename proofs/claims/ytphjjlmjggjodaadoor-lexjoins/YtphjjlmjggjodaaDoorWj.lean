/- LexJoins: whatever the texts, the law answers true. -/
import Derived.Test.YtphjjlmjggjodaaDoorWn
set_option linter.unusedSimpArgs false
set_option linter.unusedVariables false
namespace Go.Proofs.YtphjjlmjggjodaaDoor
open Go.RowKit Ieee

theorem places_pos (s : List UInt8) : ∀ (ts : List Tk) (q : Nat), Places s q ts → ∀ t ∈ ts, t.pos ≤ s.length
  | [], q, h => h.elim
  | [t], q, h => by
    intro u hu
    simp only [List.mem_cons, List.not_mem_nil, or_false] at hu
    subst hu
    have := h.2.2.1; omega
  | t :: u :: ts, q, h => by
    obtain ⟨h1, h2, h3, h4, h5, h6⟩ := h
    intro v hv
    rcases List.mem_cons.1 hv with rfl | hv
    · omega
    · exact places_pos s (u :: ts) _ h6 v hv
theorem spl_pos {l : List UInt8} {ts : List Tk} (h : spl l 0 = .ok ts) : ∀ t ∈ ts, t.pos ≤ l.length := by
  have := spl_places l l.length l 0 (Nat.le_refl _) (Nat.zero_le _) rfl
  rw [h] at this
  exact places_pos _ _ _ this
theorem join_pure (a b : List UInt8) : spl (a ++ [10] ++ b) 0 = cont (spl a 0) (mvs (a.length + 1) (spl b 0)) := by
  have e2 : a ++ [10] ++ b = a ++ 10 :: b := by simp
  rw [e2, spl_join (by decide) _ _ a 0 (Nat.le_refl _) (.inl rfl), spl_blank (by decide), ← spl_move (a.length + 1) b.length b 0 (Nat.le_refl _)]
  congr 2
/-- The tokens of both texts, one by one. -/
theorem join_at {ts us : List Tk} {d j : Nat} (ht : ts ≠ []) (hj : j < ts.length - 1 + us.length) :
    (j < ts.length - 1 ∧ ∃ t, ts[j]? = some t ∧ (ts.dropLast ++ us.map (mv d))[j]? = some t) ∨
    (¬ j < ts.length - 1 ∧ ∃ u, us[j + 1 - ts.length]? = some u ∧ j + 1 - ts.length < us.length ∧ (ts.dropLast ++ us.map (mv d))[j]? = some (mv d u)) := by
  have hp : 0 < ts.length := List.length_pos_iff.2 ht
  by_cases h : j < ts.length - 1
  · left
    refine ⟨h, ts[j]'(by omega), List.getElem?_eq_getElem _, ?_⟩
    rw [List.getElem?_append_left (by rw [List.length_dropLast]; exact h), List.getElem?_dropLast, if_pos h, List.getElem?_eq_getElem]
  · right
    have hr : j + 1 - ts.length < us.length := by omega
    refine ⟨h, us[j + 1 - ts.length], List.getElem?_eq_getElem _, hr, ?_⟩
    rw [List.getElem?_append_right (by rw [List.length_dropLast]; omega), List.length_dropLast, show j - (ts.length - 1) = j + 1 - ts.length by omega, List.getElem?_map, List.getElem?_eq_getElem hr]
    rfl

set_option maxRecDepth 100000 in
set_option maxHeartbeats 8000000 in
theorem wjoins_big (a b : ByteArray) (hs : 500 < a.size ∨ 500 < b.size) (w : World) (hb : Lb w) : Calls Tryd.prog 4 #[.string a, .string b] w fun e w' => e = .returned (.bool true) ∧ Below w.heap.size w w' := by
  have haw := awake w hb
  clear hb
  have hA : decide ((500 : Int) < (a.size : Int)) = decide (500 < a.size) := decide_eq_decide.2 (by omega)
  have hB : decide ((500 : Int) < (b.size : Int)) = decide (500 < b.size) := decide_eq_decide.2 (by omega)
  have hor : (decide (500 < a.size) || decide (500 < b.size)) = true := by
    simp only [Bool.or_eq_true, decide_eq_true_eq] at hs ⊢
    omega
  clear hs
  generalize decide (500 < a.size) = b1 at *
  generalize decide (500 < b.size) = b2 at *
  cases b1 <;> cases b2 <;> (try cases hor) <;> (try clear hor)
  all_goals
    go_enter Tryd.func4, Tryd.ntmps4
    go_wp2_with (go_at_call 9; refine Hid.out ?_)
    refine Lib.hid ?_
    refine haw.mono ?_
    rintro e w1 ⟨rfl, hb1⟩
    have HB1 := Lib.hid hb1
    clear hb1 haw
    go_wp2
    go_ret
    exact ⟨rfl, HB1.out⟩

set_option maxRecDepth 100000 in
set_option maxHeartbeats 16000000 in
theorem wjoins_small (a b : ByteArray) (h1 : a.size ≤ 500) (h2 : b.size ≤ 500) (w : World) (hb : Lb w) : Calls Tryd.prog 4 #[.string a, .string b] w fun e w' => e = .returned (.bool true) ∧ Below w.heap.size w w' := by
  have HB := Lib.hid hb
  have haw := awake w hb
  have g1 : ¬ (500 : Int) < (a.size : Int) := by omega
  have g2 : ¬ (500 : Int) < (b.size : Int) := by omega
  obtain ⟨B1, hB1⟩ : ∃ x, x = catb a ⟨#[10]⟩ := ⟨_, rfl⟩
  obtain ⟨B2, hB2⟩ : ∃ x, x = catb B1 b := ⟨_, rfl⟩
  have z1 : (⟨#[10]⟩ : ByteArray).size = 1 := rfl
  have t1 : B1.size = a.size + 1 := by rw [hB1, catb_size, z1]
  have t2 : B2.size = a.size + 1 + b.size := by rw [hB2, catb_size, t1]
  have r5 := fun w => catb_run a ⟨#[10]⟩ (by omega) (by omega) w
  have r6 := fun w => catb_run B1 b (by omega) (by omega) w
  rw [← hB1] at r5
  rw [← hB2] at r6
  have l2 : B2.data.toList = a.data.toList ++ [10] ++ b.data.toList := by rw [hB2, catb_list, hB1, catb_list]
  have hsA := fun w (hb : Lb w) => splitT a (by omega) w hb
  have hsB := fun w (hb : Lb w) => splitT b (by omega) w hb
  have hsC := fun w (hb : Lb w) => splitT B2 (by omega) w hb
  rw [l2, join_pure, size_len] at hsC
  have HSA := Lib.hid hsA
  have HSB := Lib.hid hsB
  have HSC := Lib.hid hsC
  have hst := store_cx
  clear hB1 hB2 z1 t1 t2 l2 hsA hsB hsC hb
  cases ha : spl a.data.toList 0 with
  | error q =>
    obtain ⟨p, c⟩ := q
    have hcn : ((c : Int) != 0) = true := by have := (spl_code ha).2; simp; omega
    rw [ha] at HSA HSC
    clear ha
    go_enter Tryd.func4, Tryd.ntmps4
    go_wp2_with (go_at_call 9; refine Hid.out ?_)
    refine Lib.hid ?_
    refine haw.mono ?_
    rintro e w1 ⟨rfl, hb1⟩
    have HB1 := Lib.hid hb1
    have hs1 := HSA.out w1 (HB.out.on hb1)
    clear hb1 haw
    go_wp2_with (go_at_call 10; refine Hid.out ?_)
    refine Lib.hid ?_
    refine hs1.mono ?_
    rintro e w2 ⟨rfl, hb2⟩
    have HB2 := Lib.hid (below_trans HB1.out hb2)
    have hs2 := HSB.out w2 (HB.out.on HB2.out)
    clear hb2 hs1
    go_wp2_with (go_at_call 10; refine Hid.out ?_)
    refine Lib.hid ?_
    refine (hs2.mono fun _ _ h => splW_of h).mono ?_
    rintro e w3 ⟨P2, n2, c2, x2, y2, rfl, hb3⟩
    have HB3 := Lib.hid (below_trans HB2.out hb3)
    have hs3 := HSC.out w3 (HB.out.on HB3.out)
    clear hb3 hs2
    go_wp2_with (go_at_call 10; refine Hid.out ?_)
    refine Lib.hid ?_
    refine hs3.mono ?_
    rintro e w4 ⟨rfl, hb4⟩
    have HB4 := Lib.hid (below_trans HB3.out hb4)
    clear hb4 hs3
    go_wp2
    go_ret
    exact ⟨rfl, HB4.out⟩
  | ok ts =>
    cases hbb : spl b.data.toList 0 with
    | error q =>
      obtain ⟨p, c⟩ := q
      have hcn : ((c : Int) != 0) = true := by have := (spl_code hbb).2; simp; omega
      rw [ha] at HSA HSC
      rw [hbb] at HSB HSC
      clear ha hbb
      go_enter Tryd.func4, Tryd.ntmps4
      go_wp2_with (go_at_call 9; refine Hid.out ?_)
      refine Lib.hid ?_
      refine haw.mono ?_
      rintro e w1 ⟨rfl, hb1⟩
      have HB1 := Lib.hid hb1
      have hs1 := HSA.out w1 (HB.out.on hb1)
      clear hb1 haw
      go_wp2_with (go_at_call 10; refine Hid.out ?_)
      refine Lib.hid ?_
      refine hs1.mono ?_
      rintro e w2 ⟨g, cap, rfl, hg, htk, hb2⟩
      have HB2 := Lib.hid (below_trans HB1.out hb2)
      have hs2 := HSB.out w2 (HB.out.on HB2.out)
      clear hb2 hs1 htk
      go_wp2_with (go_at_call 10; refine Hid.out ?_)
      refine Lib.hid ?_
      refine hs2.mono ?_
      rintro e w3 ⟨rfl, hb3⟩
      have HB3 := Lib.hid (below_trans HB2.out hb3)
      have hs3 := HSC.out w3 (HB.out.on HB3.out)
      clear hb3 hs2
      go_wp2_with (go_at_call 10; refine Hid.out ?_)
      refine Lib.hid ?_
      refine hs3.mono ?_
      rintro e w4 ⟨rfl, hb4⟩
      have HB4 := Lib.hid (below_trans HB3.out hb4)
      clear hb4 hs3
      go_wp2
      go_ret
      exact ⟨rfl, HB4.out⟩
    | ok us =>
      have hnt : 0 < ts.length := List.length_pos_iff.2 (spl_ne ha)
      have hnu : 0 < us.length := List.length_pos_iff.2 (spl_ne hbb)
      have HNE := Lib.hid (spl_ne ha)
      have hct := spl_count ha
      have hcu := spl_count hbb
      rw [size_len] at hct hcu
      have HPU := Lib.hid (spl_pos hbb)
      have HMT := Lib.hid (spl_small _ _ _ _ (Nat.le_refl _) ha)
      have HMU := Lib.hid (spl_small _ _ _ _ (Nat.le_refl _) hbb)
      rw [ha] at HSA HSC
      rw [hbb] at HSB HSC
      have hvl : (ts.dropLast ++ us.map (mv (a.size + 1))).length = ts.length - 1 + us.length := by simp
      have HVL := Lib.hid hvl
      have HJA := Lib.hid (fun j => join_at (ts := ts) (us := us) (d := a.size + 1) (j := j) HNE.out)
      clear ha hbb hvl
      have HSC' : Hid (∀ (w : World), Lb w → Calls Tryd.prog 10 #[.string B2] w (SplT w (.ok (ts.dropLast ++ us.map (mv (a.size + 1)))))) := HSC
      clear HSC
      generalize ts.dropLast ++ us.map (mv (a.size + 1)) = vs at *
      generalize hN : ts.length = n at *
      generalize hM : us.length = m at *
      have HN := Lib.hid hN
      have HMM := Lib.hid hM
      clear hN hM
      go_enter Tryd.func4, Tryd.ntmps4
      go_wp2_with (go_at_call 9; refine Hid.out ?_)
      refine Lib.hid ?_
      refine haw.mono ?_
      rintro e w1 ⟨rfl, hb1⟩
      have HB1 := Lib.hid hb1
      have hs1 := HSA.out w1 (HB.out.on hb1)
      clear hb1 haw
      go_wp2_with (go_at_call 10; refine Hid.out ?_)
      refine Lib.hid ?_
      refine hs1.mono ?_
      rintro e w2 ⟨g, cap, rfl, hg, htk, hb2⟩
      have HB2 := Lib.hid (below_trans HB1.out hb2)
      have hs2 := HSB.out w2 (HB.out.on HB2.out)
      have HTK := Lib.hid htk
      rw [HN.out]
      clear hb2 hs1 htk
      go_wp2_with (go_at_call 10; refine Hid.out ?_)
      refine Lib.hid ?_
      refine hs2.mono ?_
      rintro e w3 ⟨g', cap', rfl, hg', htk', hb3⟩
      have HB3 := Lib.hid (below_trans HB2.out hb3)
      have hs3 := HSC'.out w3 (HB.out.on HB3.out)
      have HTK3 := Lib.hid (HTK.out.on hb3 hg)
      have HTK4 := Lib.hid htk'
      have hg3 : g < w3.heap.size := Nat.lt_of_lt_of_le hg hb3.size
      rw [HMM.out]
      clear hb3 hs2 htk'
      go_wp2_with (go_at_call 10; refine Hid.out ?_)
      refine Lib.hid ?_
      refine hs3.mono ?_
      rintro e w4 ⟨g2, cap2, rfl, hg2, htk2, hb4⟩
      have HB4 := Lib.hid (below_trans HB3.out hb4)
      have HT1 := Lib.hid (HTK3.out.on hb4 hg3)
      have HT2 := Lib.hid (HTK4.out.on hb4 hg')
      have HT3 := Lib.hid htk2
      have hg4 : g < w4.heap.size := Nat.lt_of_lt_of_le hg3 hb4.size
      have hg5 : g' < w4.heap.size := Nat.lt_of_lt_of_le hg' hb4.size
      rw [HVL.out]
      clear hb4 hs3 htk2 HTK HTK3 HTK4
      obtain ⟨x, hx⟩ : ∃ x, n - 1 + m = x := ⟨_, rfl⟩
      rw [hx]
      have hxn : (x : Int) = (n : Int) + (m : Int) - 1 := by omega
      have hxx : ((x : Int) != (n : Int) + (m : Int) - 1) = false := by rw [bne_eq_false_iff_eq]; exact hxn
      have HX := Lib.hid hx
      have hx1 : x ≤ 1001 := by omega
      clear hx hxn
      go_wp2
      go_loopw [75] (fun i wr => ∃ (j : Nat) , j ≤ x ∧ i = .int .i64 (j : Int) ∧ Below w4.heap.size w4 wr) (fun i _ => x - (intOf i).toNat)
      case atStart => exact ⟨0, Nat.zero_le _, rfl, Below.refl _ _⟩
      case round =>
        obtain ⟨j, hj, rfl, hbr⟩ := hrel
        have HBR := Lib.hid hbr
        have hgw : g < wr.heap.size := Nat.lt_of_lt_of_le hg4 hbr.size
        have hgw' : g' < wr.heap.size := Nat.lt_of_lt_of_le hg5 hbr.size
        clear hbr
        by_cases hlt : j < x
        · rcases HJA.out j (by rw [HX.out]; exact hlt) with ⟨hjn, t, ht, hv⟩ | ⟨hjn, u, hu, hur, hv⟩
          · obtain ⟨k0, k1, k2, k3⟩ := (HT1.out.on HBR.out hg4) j t ht
            obtain ⟨v0, v1, v2, v3⟩ := (HT3.out.on HBR.out hg2) j t hv
            have hsame := fun w => tk_same w (HMT.out t (List.mem_of_getElem? ht))
            have hjn' : (j : Int) < (n : Int) - 1 := by omega
            have hjl : (j : Int) < (n : Int) := by omega
            clear ht hv hjn
            unfold tv at hsame
            generalize fl false (t.re : Int) = fr at *
            generalize fl false (t.im : Int) = fi at *
            generalize (⟨t.text.toArray⟩ : ByteArray) = T at *
            generalize t.kind = kd at *
            generalize t.pos = ps at *
            go_wp2
            go_roundw
            case rel => exact ⟨j + 1, by omega, by go_num, (HBR.out.alloc HBR.out.size _).alloc (by simp; have := HBR.out.size; omega) _⟩
            case measure => simp [intOf]; omega
          · obtain ⟨r, hr⟩ : ∃ r, j + 1 - n = r := ⟨_, rfl⟩
            rw [hr] at hu hur
            obtain ⟨k0, k1, k2, k3⟩ := (HT2.out.on HBR.out hg5) r u hu
            obtain ⟨v0, v1, v2, v3⟩ := (HT3.out.on HBR.out hg2) j _ hv
            have hum := List.mem_of_getElem? hu
            have hsame := fun w => tk_same w (t := mv (a.size + 1) u) (HMU.out u hum)
            have hup := HPU.out u hum
            rw [size_len] at hup
            have hpc : (((mv (a.size + 1) u).pos : Nat) : Int) = (u.pos : Int) + ((a.size : Int) + 1) := by unfold mv; simp only; omega
            unfold tv at hsame
            rw [hpc] at hsame v3
            have m1 : (mv (a.size + 1) u).kind = u.kind := rfl
            have m2 : (mv (a.size + 1) u).text = u.text := rfl
            have m3 : (mv (a.size + 1) u).re = u.re := rfl
            have m4 : (mv (a.size + 1) u).im = u.im := rfl
            rw [m1] at v0
            rw [m2] at v1
            rw [m3, m4] at v2
            simp only [m1, m2, m3, m4] at hsame
            have hjn' : ¬ (j : Int) < (n : Int) - 1 := by omega
            have hir : (j : Int) - (n : Int) + 1 = (r : Int) := by omega
            have hrm : (r : Int) < (m : Int) := by omega
            clear hu hv hjn hum hpc m1 m2 m3 m4 hr
            generalize fl false (u.re : Int) = fr at *
            generalize fl false (u.im : Int) = fi at *
            generalize (⟨u.text.toArray⟩ : ByteArray) = T at *
            generalize u.kind = kd at *
            generalize u.pos = ps at *
            go_wp2
            go_roundw
            case rel => exact ⟨j + 1, by omega, by go_num, (HBR.out.alloc HBR.out.size _).alloc (by simp; have := HBR.out.size; omega) _⟩
            case measure => simp [intOf]; omega
        · go_wp2
          go_ret
          exact ⟨rfl, below_trans HB4.out HBR.out⟩

theorem wjoins (a b : ByteArray) (w : World) (hb : Lb w) : Calls Tryd.prog 4 #[.string a, .string b] w fun e w' => e = .returned (.bool true) ∧ Below w.heap.size w w' := by
  by_cases h1 : a.size ≤ 500
  · by_cases h2 : b.size ≤ 500
    · exact wjoins_small a b h1 h2 w hb
    · exact wjoins_big a b (.inr (by omega)) w hb
  · exact wjoins_big a b (.inl (by omega)) w hb
end Go.Proofs.YtphjjlmjggjodaaDoor
