/- LexNotes: whatever the texts, the law answers true. -/
import Derived.Test.YtphjjlmjggjodaaDoorCt
set_option linter.unusedSimpArgs false
set_option linter.unusedVariables false
namespace Go.Proofs.YtphjjlmjggjodaaDoor
open Go.RowKit Ieee

set_option maxRecDepth 100000 in
set_option maxHeartbeats 8000000 in
theorem wnotes_big (a n b : ByteArray) (hs : 300 < a.size ∨ 300 < b.size ∨ 100 < n.size ∨ decide (0 ≤ Lib.indexByte n.data.toList 10) = true) (w : World) (hb : Lb w) : Calls Tryd.prog 7 #[.string a, .string n, .string b] w fun e w' => e = .returned (.bool true) ∧ Below w.heap.size w w' := by
  have haw := awake w hb
  clear hb
  have hfe := feed_any n _ rfl
  have hA : decide ((300 : Int) < (a.size : Int)) = decide (300 < a.size) := decide_eq_decide.2 (by omega)
  have hB : decide ((300 : Int) < (b.size : Int)) = decide (300 < b.size) := decide_eq_decide.2 (by omega)
  have hN : decide ((100 : Int) < (n.size : Int)) = decide (100 < n.size) := decide_eq_decide.2 (by omega)
  have hor : (decide (300 < a.size) || decide (300 < b.size) || decide (100 < n.size) || decide (0 ≤ Lib.indexByte n.data.toList 10)) = true := by
    simp only [Bool.or_eq_true, decide_eq_true_eq] at hs ⊢
    omega
  clear hs
  generalize decide (300 < a.size) = b1 at *
  generalize decide (300 < b.size) = b2 at *
  generalize decide (100 < n.size) = b3 at *
  generalize decide (0 ≤ Lib.indexByte n.data.toList 10) = b4 at *
  cases b1 <;> cases b2 <;> cases b3 <;> cases b4 <;> (try cases hor) <;> (try clear hor)
  all_goals
    go_enter Tryd.func7, Tryd.ntmps7
    go_wp2_with (go_at_call 9; refine Hid.out ?_)
    refine Lib.hid ?_
    refine haw.mono ?_
    rintro e w1 ⟨rfl, hb1⟩
    have HB1 := Lib.hid hb1
    clear hb1 haw
    go_wp2_with (go_at_call 13; refine (hfe _).mono ?_; rintro e w' ⟨rfl, rfl⟩)
    go_ret
    exact ⟨rfl, HB1.out⟩

/-- What Split answers, whatever it is. -/
def SplW (w : World) (e : Ending) (w' : World) : Prop := ∃ (A : Option Addr) (n c : Nat) (x y : Int), e = .returned (.tuple #[.slice A n c, .int .i64 x, .int .i64 y]) ∧ Below w.heap.size w w'
theorem splW_of {w : World} {r : Except (Nat × Nat) (List Tk)} {e : Ending} {w' : World} (h : SplT w r e w') : SplW w e w' := by
  cases r with
  | error p => exact ⟨_, _, _, _, _, h.1, h.2⟩
  | ok ts => obtain ⟨g, cap, h1, _, _, h2⟩ := h; exact ⟨_, _, _, _, _, h1, h2⟩

set_option maxRecDepth 100000 in
set_option maxHeartbeats 16000000 in
theorem wnotes_small (a n b : ByteArray) (h1 : a.size ≤ 300) (h2 : b.size ≤ 300) (h3 : n.size ≤ 100) (h4 : decide (0 ≤ Lib.indexByte n.data.toList 10) = false) (w : World) (hb : Lb w) (hm : Mx w) : Calls Tryd.prog 7 #[.string a, .string n, .string b] w fun e w' => e = .returned (.bool true) ∧ Below w.heap.size w w' := by
  have HB := Lib.hid hb
  have HM := Lib.hid hm
  have haw := awake w hb
  have hfe := feed_any n false h4
  have HF := Lib.hid (no_feed h4)
  have g1 : ¬ (300 : Int) < (a.size : Int) := by omega
  have g2 : ¬ (300 : Int) < (b.size : Int) := by omega
  have g3 : ¬ (100 : Int) < (n.size : Int) := by omega
  obtain ⟨A1, hA1⟩ : ∃ x, x = catb a ⟨#[32, 47, 47]⟩ := ⟨_, rfl⟩
  obtain ⟨A2, hA2⟩ : ∃ x, x = catb A1 n := ⟨_, rfl⟩
  obtain ⟨A3, hA3⟩ : ∃ x, x = catb A2 ⟨#[10]⟩ := ⟨_, rfl⟩
  obtain ⟨A4, hA4⟩ : ∃ x, x = catb A3 b := ⟨_, rfl⟩
  obtain ⟨B1, hB1⟩ : ∃ x, x = catb a ⟨#[10]⟩ := ⟨_, rfl⟩
  obtain ⟨B2, hB2⟩ : ∃ x, x = catb B1 b := ⟨_, rfl⟩
  have z3 : (⟨#[32, 47, 47]⟩ : ByteArray).size = 3 := rfl
  have z1 : (⟨#[10]⟩ : ByteArray).size = 1 := rfl
  have s1 : A1.size = a.size + 3 := by rw [hA1, catb_size, z3]
  have s2 : A2.size = a.size + 3 + n.size := by rw [hA2, catb_size, s1]
  have s3 : A3.size = a.size + 3 + n.size + 1 := by rw [hA3, catb_size, s2, z1]
  have s4 : A4.size = a.size + 3 + n.size + 1 + b.size := by rw [hA4, catb_size, s3]
  have t1 : B1.size = a.size + 1 := by rw [hB1, catb_size, z1]
  have t2 : B2.size = a.size + 1 + b.size := by rw [hB2, catb_size, t1]
  have r1 := fun w => catb_run a ⟨#[32, 47, 47]⟩ (by omega) (by omega) w
  have r2 := fun w => catb_run A1 n (by omega) (by omega) w
  have r3 := fun w => catb_run A2 ⟨#[10]⟩ (by omega) (by omega) w
  have r4 := fun w => catb_run A3 b (by omega) (by omega) w
  have r5 := fun w => catb_run a ⟨#[10]⟩ (by omega) (by omega) w
  have r6 := fun w => catb_run B1 b (by omega) (by omega) w
  rw [← hA1] at r1
  rw [← hA2] at r2
  rw [← hA3] at r3
  rw [← hA4] at r4
  rw [← hB1] at r5
  rw [← hB2] at r6
  have l1 : A4.data.toList = a.data.toList ++ [32, 47, 47] ++ n.data.toList ++ [10] ++ b.data.toList := by rw [hA4, catb_list, hA3, catb_list, hA2, catb_list, hA1, catb_list]
  have l2 : B2.data.toList = a.data.toList ++ [10] ++ b.data.toList := by rw [hB2, catb_list, hB1, catb_list]
  have hsA := fun w (hb : Lb w) => splitT A4 (by omega) w hb
  have hsB := fun w (hb : Lb w) => splitT B2 (by omega) w hb
  have HSA := Lib.hid hsA
  have HSB := Lib.hid hsB
  have HS : Hid (Lib.contains a.data.toList [47, 47] = false → Same (spl A4.data.toList 0) (spl B2.data.toList 0)) := Lib.hid (fun hc => by
    rw [l1, l2]
    exact same_notes _ _ _ (contains_no hc) HF.out)
  have hcn := contains_any a (by omega) _ rfl
  have HCN := Lib.hid hcn
  have HQ := Lib.hid s4
  have HQ2 := Lib.hid t2
  have hst := store_cx
  clear hA1 hA2 hA3 hA4 hB1 hB2 z1 z3 s1 s2 s3 s4 t1 t2 l1 l2 hsA hsB hb hm h4 hcn
  cases hcc : Lib.contains a.data.toList [47, 47] with
  | true =>
    rw [hcc] at HCN
    clear hcc HS
    go_enter Tryd.func7, Tryd.ntmps7
    go_wp2_with (go_at_call 9; refine Hid.out ?_)
    refine Lib.hid ?_
    refine haw.mono ?_
    rintro e w1 ⟨rfl, hb1⟩
    have HB1 := Lib.hid hb1
    have hs1 := HSA.out w1 (HB.out.on hb1)
    clear hb1 haw
    go_wp2_with (first
      | (go_at_call 13; refine (hfe _).mono ?_; rintro e w' ⟨rfl, rfl⟩)
      | (go_at_call 10; refine Hid.out ?_))
    refine Lib.hid ?_
    refine (hs1.mono fun _ _ h => splW_of h).mono ?_
    rintro e w2 ⟨P1, n1, c1, x1, y1, rfl, hb2⟩
    have HB2 := Lib.hid (below_trans HB1.out hb2)
    have hs2 := HSB.out w2 (HB.out.on HB2.out)
    clear hb2 hs1
    go_wp2_with (go_at_call 10; refine Hid.out ?_)
    refine Lib.hid ?_
    refine (hs2.mono fun _ _ h => splW_of h).mono ?_
    rintro e w3 ⟨P2, n2, c2, x2, y2, rfl, hb3⟩
    have HB3 := Lib.hid (below_trans HB2.out hb3)
    have hcn := HCN.out w3 (HM.out.on HB3.out)
    clear hb3 hs2
    go_wp2_with (go_at_call 13; refine hcn.mono ?_; rintro e w' ⟨rfl, rfl⟩)
    go_ret
    exact ⟨rfl, HB3.out⟩
  | false =>
    rw [hcc] at HCN
    have hsame := HS.out hcc
    clear hcc HS
    rcases hsame with ⟨p1, p2, c, er1, er2⟩ | ⟨ts, us, ok1, ok2, hcore⟩
    · rw [er1] at HSA
      rw [er2] at HSB
      have hcc : ((c : Int) != (c : Int)) = false := by simp
      clear er1 er2
      go_enter Tryd.func7, Tryd.ntmps7
      go_wp2_with (go_at_call 9; refine Hid.out ?_)
      refine Lib.hid ?_
      refine haw.mono ?_
      rintro e w1 ⟨rfl, hb1⟩
      have HB1 := Lib.hid hb1
      have hs1 := HSA.out w1 (HB.out.on hb1)
      clear hb1 haw
      go_wp2_with (first
        | (go_at_call 13; refine (hfe _).mono ?_; rintro e w' ⟨rfl, rfl⟩)
        | (go_at_call 10; refine Hid.out ?_))
      refine Lib.hid ?_
      refine hs1.mono ?_
      rintro e w2 ⟨rfl, hb2⟩
      have HB2 := Lib.hid (below_trans HB1.out hb2)
      have hs2 := HSB.out w2 (HB.out.on HB2.out)
      clear hb2 hs1
      go_wp2_with (go_at_call 10; refine Hid.out ?_)
      refine Lib.hid ?_
      refine hs2.mono ?_
      rintro e w3 ⟨rfl, hb3⟩
      have HB3 := Lib.hid (below_trans HB2.out hb3)
      have hcn := HCN.out w3 (HM.out.on HB3.out)
      clear hb3 hs2
      go_wp2_with (go_at_call 13; refine hcn.mono ?_; rintro e w' ⟨rfl, rfl⟩)
      go_loopw [72] (fun i wr => i = .int .i64 0 ∧ wr = w3) (fun _ _ => 0)
      case atStart => exact ⟨rfl, rfl⟩
      case round =>
        obtain ⟨rfl, rfl⟩ := hrel
        go_wp2
        go_ret
        exact ⟨rfl, HB3.out⟩
    · rw [ok1] at HSA
      rw [ok2] at HSB
      have HC := Lib.hid hcore
      have hul : us.length = ts.length := by have := congrArg List.length hcore; simpa using this
      have HSM := Lib.hid (spl_small _ _ _ _ (Nat.le_refl _) ok1)
      have hct := spl_count ok1
      rw [size_len, HQ.out] at hct
      clear ok1 ok2 hcore
      generalize hN : ts.length = m at *
      have HN := Lib.hid hN
      have HUL := Lib.hid hul
      clear hN hul
      go_enter Tryd.func7, Tryd.ntmps7
      go_wp2_with (go_at_call 9; refine Hid.out ?_)
      refine Lib.hid ?_
      refine haw.mono ?_
      rintro e w1 ⟨rfl, hb1⟩
      have HB1 := Lib.hid hb1
      have hs1 := HSA.out w1 (HB.out.on hb1)
      clear hb1 haw
      go_wp2_with (first
        | (go_at_call 13; refine (hfe _).mono ?_; rintro e w' ⟨rfl, rfl⟩)
        | (go_at_call 10; refine Hid.out ?_))
      refine Lib.hid ?_
      refine hs1.mono ?_
      rintro e w2 ⟨g, cap, rfl, hg, htk, hb2⟩
      have HB2 := Lib.hid (below_trans HB1.out hb2)
      have hs2 := HSB.out w2 (HB.out.on HB2.out)
      have HTK := Lib.hid htk
      rw [HN.out]
      clear hb2 hs1 htk
      go_wp2_with (go_at_call 10; refine Hid.out ?_)
      refine Lib.hid ?_
      refine hs2.mono ?_
      rintro e w3 ⟨g', cap', rfl, hg', htk', hb3⟩
      have HB3 := Lib.hid (below_trans HB2.out hb3)
      have HTK3 := Lib.hid (HTK.out.on hb3 hg)
      have HTK4 := Lib.hid htk'
      have hg3 : g < w3.heap.size := Nat.lt_of_lt_of_le hg hb3.size
      have hcn := HCN.out w3 (HM.out.on HB3.out)
      rw [HUL.out]
      have hmm : ((m : Int) != (m : Int)) = false := by simp
      clear hb3 hs2 htk'
      go_wp2_with (go_at_call 13; refine hcn.mono ?_; rintro e w' ⟨rfl, rfl⟩)
      go_loopw [72] (fun i wr => ∃ (j : Nat) , j ≤ m ∧ i = .int .i64 (j : Int) ∧ Below w3.heap.size w3 wr) (fun i _ => m - (intOf i).toNat)
      case atStart => exact ⟨0, Nat.zero_le _, rfl, Below.refl _ _⟩
      case round =>
        obtain ⟨j, hj, rfl, hbr⟩ := hrel
        have HBR3 := Lib.hid hbr
        clear hbr
        by_cases hlt : j < m
        · obtain ⟨t, ht⟩ : ∃ t, ts[j]? = some t := ⟨ts[j]'(by rw [HN.out]; exact hlt), List.getElem?_eq_getElem _⟩
          obtain ⟨u, hu, e1, e2, e3, e4⟩ := core_at HC.out ht
          obtain ⟨k0, k1, k2, k3⟩ := (HTK3.out.on HBR3.out hg3) j t ht
          obtain ⟨v0, v1, v2, v3⟩ := (HTK4.out.on HBR3.out hg') j u hu
          obtain ⟨s1, s2⟩ := HSM.out t (List.mem_of_getElem? ht)
          have f1 := ord_fl s1
          have f2 := ord_fl s2
          rw [e1] at v0
          rw [e2] at v1
          rw [e3, e4] at v2
          have b1 : ((t.kind : Int) != (t.kind : Int)) = false := by simp
          clear ht hu e1 e2 e3 e4 s1 s2 k3 v3 hcn
          generalize fl false (t.re : Int) = fr at *
          generalize fl false (t.im : Int) = fi at *
          generalize (⟨t.text.toArray⟩ : ByteArray) = T at *
          have b2 : (T.toList != T.toList) = false := by simp
          generalize t.kind = kd at *
          go_wp2
          go_quiet (fail)
          go_wp2
          go_roundw
          case rel => exact ⟨j + 1, by omega, by go_num, below_drewN HBR3.out _⟩
          case measure => simp [intOf]; omega
        · go_wp2
          go_ret
          exact ⟨rfl, below_trans HB3.out HBR3.out⟩

theorem wnotes (a n b : ByteArray) (w : World) (hb : Lb w) (hm : Mx w) : Calls Tryd.prog 7 #[.string a, .string n, .string b] w fun e w' => e = .returned (.bool true) ∧ Below w.heap.size w w' := by
  by_cases h1 : a.size ≤ 300
  · by_cases h2 : b.size ≤ 300
    · by_cases h3 : n.size ≤ 100
      · cases h4 : decide (0 ≤ Lib.indexByte n.data.toList 10) with
        | true => exact wnotes_big a n b (.inr (.inr (.inr h4))) w hb
        | false => exact wnotes_small a n b h1 h2 h3 h4 w hb hm
      · exact wnotes_big a n b (.inr (.inr (.inl (by omega)))) w hb
    · exact wnotes_big a n b (.inr (.inl (by omega))) w hb
  · exact wnotes_big a n b (.inl (by omega)) w hb
end Go.Proofs.YtphjjlmjggjodaaDoor
