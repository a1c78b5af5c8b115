/- LexSplits: whatever the text, the law answers true. -/
import Derived.Test.YtphjjlmjggjodaaDoorRs
import Derived.Test.YtphjjlmjggjodaaDoorEq
import Derived.Test.YtphjjlmjggjodaaDoorCt
set_option linter.unusedSimpArgs false
set_option linter.unusedVariables false
namespace Go.Proofs.YtphjjlmjggjodaaDoor
open Go.RowKit Ieee

theorem rsplitT (s : ByteArray) (hs : s.size ≤ 16384) (w0 : World) : Calls Tryd.prog 11 #[.string s] w0 (SplT w0 (spl s.data.toList 0)) :=
  (rsplit s hs w0).mono fun e w' h => splT_of h

set_option maxRecDepth 100000 in
set_option maxHeartbeats 8000000 in
theorem wsplits (s : ByteArray) (w : World) (hb : Lb w) : Calls Tryd.prog 3 #[.string s] w fun e w' => e = .returned (.bool true) ∧ Below w.heap.size w w' := by
  have HB := Lib.hid hb
  have haw := awake w hb
  clear hb
  by_cases hs : s.size ≤ 1000
  · have hs1 : ¬ (1000 : Int) < (s.size : Int) := by omega
    have hsp := fun w (hb : Lb w) => splitT s (by omega) w hb
    have hrf := fun w => rsplitT s (by omega) w
    cases hr : spl s.data.toList 0 with
    | error q =>
      obtain ⟨p, c⟩ := q
      simp only [hr] at hsp hrf
      have HSP := Lib.hid hsp
      have HRF := Lib.hid hrf
      have c1 : ((c : Int) == (c : Int)) = true := by simp
      have c2 : ((p : Int) == (p : Int)) = true := by simp
      clear hr hsp hrf
      go_enter Tryd.func3, Tryd.ntmps3
      go_wp2_with (go_at_call 9; refine Hid.out ?_)
      refine Lib.hid ?_
      refine haw.mono ?_
      rintro e w1 ⟨rfl, hb1⟩
      have HB1 := Lib.hid hb1
      have hs2 := HSP.out w1 (HB.out.on hb1)
      clear hb1 haw
      go_wp2_with (go_at_call 10; refine Hid.out ?_)
      refine Lib.hid ?_
      refine hs2.mono ?_
      rintro e w2 ⟨rfl, hb2⟩
      have HB2 := Lib.hid (below_trans HB1.out hb2)
      have hs3 := HRF.out w2
      clear hb2 hs2
      go_wp2_with (go_at_call 11; refine Hid.out ?_)
      refine Lib.hid ?_
      refine hs3.mono ?_
      rintro e w3 ⟨rfl, hb3⟩
      have HB3 := Lib.hid (below_trans HB2.out hb3)
      have heq := equal_nil w3
      clear hb3 hs3
      go_wp2_with (go_at_call 12; refine Hid.out ?_)
      refine Lib.hid ?_
      refine heq.mono ?_
      rintro e w4 ⟨rfl, hb4⟩
      have HB4 := Lib.hid (below_trans HB3.out hb4)
      clear hb4 heq
      go_wp2
      go_ret
      exact ⟨rfl, HB4.out⟩
    | ok ts =>
      have hct := spl_count hr
      rw [size_len] at hct
      have HSM := Lib.hid (spl_small _ _ _ _ (Nat.le_refl _) hr)
      simp only [hr] at hsp hrf
      have HSP := Lib.hid hsp
      have HRF := Lib.hid hrf
      clear hr hsp hrf
      go_enter Tryd.func3, Tryd.ntmps3
      go_wp2_with (go_at_call 9; refine Hid.out ?_)
      refine Lib.hid ?_
      refine haw.mono ?_
      rintro e w1 ⟨rfl, hb1⟩
      have HB1 := Lib.hid hb1
      have hs2 := HSP.out w1 (HB.out.on hb1)
      clear hb1 haw
      go_wp2_with (go_at_call 10; refine Hid.out ?_)
      refine Lib.hid ?_
      refine hs2.mono ?_
      rintro e w2 ⟨g, cap, rfl, hg, htk, hb2⟩
      have HB2 := Lib.hid (below_trans HB1.out hb2)
      have hs3 := HRF.out w2
      have HTK := Lib.hid htk
      clear hb2 hs2 htk
      go_wp2_with (go_at_call 11; refine Hid.out ?_)
      refine Lib.hid ?_
      refine hs3.mono ?_
      rintro e w3 ⟨g', cap', rfl, hg', htk', hb3⟩
      have HB3 := Lib.hid (below_trans HB2.out hb3)
      have heq := equal_toks g g' cap cap' ts (by omega) w3 (HTK.out.on hb3 hg) htk' (Nat.lt_of_lt_of_le hg hb3.size) hg' HSM.out
      clear hb3 hs3 htk'
      go_wp2_with (go_at_call 12; refine Hid.out ?_)
      refine Lib.hid ?_
      refine heq.mono ?_
      rintro e w4 ⟨rfl, hb4⟩
      have HB4 := Lib.hid (below_trans HB3.out hb4)
      clear hb4 heq
      go_wp2
      go_ret
      exact ⟨rfl, HB4.out⟩
  · have hs1 : (1000 : Int) < (s.size : Int) := by omega
    go_enter Tryd.func3, Tryd.ntmps3
    go_wp2_with (go_at_call 9; refine Hid.out ?_)
    refine Lib.hid ?_
    refine haw.mono ?_
    rintro e w1 ⟨rfl, hb1⟩
    have HB1 := Lib.hid hb1
    clear hb1 haw
    go_wp2
    go_ret
    exact ⟨rfl, HB1.out⟩
end Go.Proofs.YtphjjlmjggjodaaDoor
