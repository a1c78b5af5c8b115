/- The law GaussParses, walked: true at any text. -/
import Derived.Test.YtmbdbdgilhjgeaaDoorPp
import Derived.Test.YtmbdbdgilhjgeaaDoorNs
set_option linter.unusedSimpArgs false
set_option linter.unusedVariables false
namespace Go.Proofs.YtmbdbdgilhjgeaaDoor
open Go.RowKit Ieee

set_option maxRecDepth 100000 in
set_option maxHeartbeats 3200000 in
theorem parses_any (l : List UInt8) (hmax : l.length ≤ 9223372036854775807) (w : World) (hb : Lb w) : Calls Tryd.prog 8 #[.string ⟨l.toArray⟩] w (Yes w) := by
  have haw := awake_any w hb.tb
  have HB := Lib.hid hb
  clear hb
  go_enter Tryd.func8, Tryd.ntmps8
  go_wp2_with (go_at_call 13; refine Hid.out ?_)
  refine Lib.hid ?_
  refine haw.mono ?_
  rintro e w1 ⟨rfl, k1⟩
  have K1 := Lib.hid k1
  clear k1 haw
  by_cases hl : l.length ≤ 60
  · have hp := parse_any l hl w1 (HB.out.on K1.out)
    have hlz : decide ((60 : Nat) < l.length) = false := by simp; omega
    have hlz' : decide ((60 : Int) < (l.length : Int)) = false := by simp; omega
    go_wp2_with (go_at_call 30; refine Hid.out ?_)
    refine Lib.hid ?_
    refine hp.mono ?_
    rintro e w2 ⟨h | h, k2⟩
    · obtain ⟨r, i, B1, B2, hlt, _, rfl⟩ := h
      have K2 := Lib.hid (below_trans K1.out k2)
      have s1 := B1.sm (by decide)
      have s2 := B2.sm (by decide)
      have hok := ok2_of B1 B2
      have htx := text_any false false s1 s2 hok w2 (HB.out.on K2.out).tb
      rw [← hlt] at htx
      clear hlt k2 hp K1
      go_wp2_with (first
        | (go_at_call 23; refine (fits_fl _ _ s1 s2 _).mono ?_; rintro e w' ⟨rfl, rfl⟩)
        | (go_at_call 27; refine Hid.out ?_))
      refine Lib.hid ?_
      refine htx.mono ?_
      rintro e w3 ⟨rfl, k3⟩
      have K3 := Lib.hid (below_trans K2.out k3)
      clear k3 htx
      go_wp2_with (go_at_call 32; refine (minus_any s1 s2 _).mono ?_; rintro e w' ⟨rfl, rfl⟩)
      go_ret
      exact ⟨rfl, K3.out⟩
    · obtain ⟨_, rfl⟩ := h
      have K2 := Lib.hid (below_trans K1.out k2)
      have o2 : (FloatKind.f64.format.order 0 0 == some .eq) = true := by decide +kernel
      clear k2 hp K1
      go_wp2
      go_ret
      exact ⟨rfl, K2.out⟩
  · have hlz : decide ((60 : Nat) < l.length) = true := by simp; omega
    have hlz' : decide ((60 : Int) < (l.length : Int)) = true := by simp; omega
    go_wp2
    go_ret
    exact ⟨rfl, K1.out⟩
theorem parses_str (s : ByteArray) (h : s.size ≤ maxLen) (w : World) (hb : Lb w) : Calls Tryd.prog 8 #[.string s] w (Yes w) := by
  obtain ⟨⟨l⟩⟩ := s
  have hl : l.length ≤ maxLen := h
  unfold maxLen at hl
  exact parses_any l (by omega) w hb
end Go.Proofs.YtmbdbdgilhjgeaaDoor
