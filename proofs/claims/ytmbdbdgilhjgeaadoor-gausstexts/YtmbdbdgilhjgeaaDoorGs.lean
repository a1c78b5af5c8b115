/- The law GaussTexts, walked: true at any pair. -/
import Derived.Test.YtmbdbdgilhjgeaaDoorPp
import Derived.Test.YtmbdbdgilhjgeaaDoorRt
import Derived.Test.YtmbdbdgilhjgeaaDoorGa
set_option linter.unusedSimpArgs false
set_option linter.unusedVariables false
namespace Go.Proofs.YtmbdbdgilhjgeaaDoor
open Go.RowKit Ieee

theorem txt_len {r i : Int} (hr : Bd 1048576 r) (hi : Bd 1048576 i) : (txt r i).length ≤ 60 := by
  have l1 := itoa_len (hr.sm (by decide))
  have l2 := itoa_len (hi.sm (by decide))
  unfold txt
  split
  · omega
  · split
    · simp; omega
    · split
      · simp; omega
      · simp; omega

set_option maxRecDepth 100000 in
set_option maxHeartbeats 3200000 in
theorem texts_any (a b : Int) (ha : I32 a) (hb : I32 b) (w : World) (hlb : Lb w) : Calls Tryd.prog 7 #[pr a b] w (Yes w) := by
  have HB := Lib.hid hlb
  clear hlb
  go_enter Tryd.func7, Tryd.ntmps7
  go_wp2_with (go_at_call 13; refine Hid.out ?_)
  have k0 : Below w.heap.size w (w.alloc (.cells #[.int .i32 a, .int .i32 b] 23)) := below_alloc _ _
  have ht0 := (HB.out.on k0).tb
  refine Lib.hid ((awake_any _ ht0).mono ?_)
  rintro e w1 ⟨rfl, k1⟩
  obtain ⟨c1, f1⟩ := bcell k1
  have z1 : w.heap.size < w1.heap.size := by have := k1.size; simp at this; omega
  have K1 := Lib.hid (below_trans k0 k1)
  clear k0 k1 ht0
  go_wp2_with (go_at_call 14; refine Hid.out ?_)
  refine Lib.hid ((near_any a b ha hb _).mono ?_)
  rintro e w2 ⟨rfl, k2⟩
  obtain ⟨c2, f2⟩ := bcell k2
  have K2 := Lib.hid (below_trans K1.out k2)
  clear k2 K1
  have r1 : Bd 1049999 (a.tmod 1050000) := tmod_bd a 1050000 (by omega)
  have r2 : Bd 1049999 (b.tmod 1050000) := tmod_bd b 1050000 (by omega)
  generalize a.tmod 1050000 = r at *
  generalize b.tmod 1050000 = i at *
  have Z : Bd 1049999 0 := by unfold Bd; decide
  obtain ⟨a1, a2⟩ := ha
  obtain ⟨u1, v1⟩ := inb r1
  obtain ⟨u2, v2⟩ := inb r2
  by_cases h0 : a.tmod 5 = 0
  · have g0 : (a.tmod 5 == 0) = true := by rw [h0]; rfl
    clear h0
    go_wp2_with (go_at_call 16; refine Hid.out ?_)
    refine Lib.hid ?_
    clear g0 c1 f1 c2 f2 z1 a1 a2 u1 v1
    have B1 := Z
    have B2 := r2
    clear Z r1 r2
    have s1 := B1.sm (by decide)
    have s2 := B2.sm (by decide)
    cases hok : ok2 0 i with
    | false =>
      have htn := text_none false false s1 s2 hok
      clear B1 B2
      go_wp2_with (first
        | (go_at_call 16; refine (refFits_any _ _ _).mono ?_; rintro e w' ⟨rfl, rfl⟩)
        | (go_at_call 15; refine (number_any _ _ _).mono ?_; rintro e w' ⟨rfl, rfl⟩)
        | (go_at_call 27; refine (htn _).mono ?_; rintro e w' ⟨rfl, rfl⟩))
      go_ret
      exact ⟨rfl, K2.out⟩
    | true =>
      have b1 := (ok2_bd hok).1
      have b2 := (ok2_bd hok).2
      have htx := text_any false false s1 s2 hok w2 (HB.out.on K2.out).tb
      have hlen := txt_len b1 b2
      have hrt := rtext b1 b2
      have PI : Hid (∀ r' i', Bd 1048576 r' → Bd 1048576 i' → txt 0 i = txt r' i' → True) := Lib.hid (fun _ _ _ _ _ => trivial)
      have T0 : Hid (txt 0 i = txt 0 i) := Lib.hid rfl
      have q1 : (FloatKind.f64.format.order (fl false 0) (fl false 0) == some .eq) = true := by rw [eq_fl false false s1 s1]; simp
      have q2 : (FloatKind.f64.format.order (fl false i) (fl false i) == some .eq) = true := by rw [eq_fl false false s2 s2]; simp
      clear B1 B2 PI
      generalize hl : txt 0 i = l at *
      have HLT := Lib.hid hl
      clear hl T0
      go_wp2_with (first
        | (go_at_call 16; refine (refFits_any _ _ _).mono ?_; rintro e w' ⟨rfl, rfl⟩)
        | (go_at_call 15; refine (number_any _ _ _).mono ?_; rintro e w' ⟨rfl, rfl⟩)
        | (go_at_call 27; refine Hid.out ?_))
      refine Lib.hid ?_
      refine htx.mono ?_
      rintro e w3 ⟨rfl, k3⟩
      have K3 := Lib.hid (below_trans K2.out k3)
      have hp := parse_any l hlen w3 (HB.out.on K3.out)
      clear k3 htx K2
      go_wp2_with (go_at_call 30; refine Hid.out ?_)
      refine Lib.hid ?_
      refine hp.mono ?_
      rintro e w4 ⟨h | h, k4⟩
      · obtain ⟨r', i', _, _, _, hu, rfl⟩ := h
        obtain ⟨u1, u2⟩ := hu 0 i b1 b2 HLT.out.symm
        subst u1 u2
        have K4 := Lib.hid (below_trans K3.out k4)
        clear k4 hp hu K3
        go_wp2_with (first
          | (go_at_call 31; refine (hrt _).mono ?_; rintro e w' ⟨rfl, rfl⟩)
          | (go_at_call 15; refine (number_any _ _ _).mono ?_; rintro e w' ⟨rfl, rfl⟩)
          | (go_at_call 32; refine (minus_any s1 s2 _).mono ?_; rintro e w' ⟨rfl, rfl⟩))
        go_ret
        exact ⟨rfl, K4.out⟩
      · exact absurd HLT.out.symm (h.1 0 i b1 b2)
  · have g0 : (a.tmod 5 == 0) = false := by simpa using h0
    by_cases h1 : a.tmod 5 = 1
    · have g1 : (a.tmod 5 == 1) = true := by rw [h1]; rfl
      clear h0 h1
      go_wp2_with (go_at_call 16; refine Hid.out ?_)
      refine Lib.hid ?_
      clear g0 g1 c1 f1 c2 f2 z1 a1 a2 u2 v2
      have B1 := r1
      have B2 := Z
      clear Z r1 r2
      have s1 := B1.sm (by decide)
      have s2 := B2.sm (by decide)
      cases hok : ok2 r 0 with
      | false =>
        have htn := text_none false false s1 s2 hok
        clear B1 B2
        go_wp2_with (first
          | (go_at_call 16; refine (refFits_any _ _ _).mono ?_; rintro e w' ⟨rfl, rfl⟩)
          | (go_at_call 15; refine (number_any _ _ _).mono ?_; rintro e w' ⟨rfl, rfl⟩)
          | (go_at_call 27; refine (htn _).mono ?_; rintro e w' ⟨rfl, rfl⟩))
        go_ret
        exact ⟨rfl, K2.out⟩
      | true =>
        have b1 := (ok2_bd hok).1
        have b2 := (ok2_bd hok).2
        have htx := text_any false false s1 s2 hok w2 (HB.out.on K2.out).tb
        have hlen := txt_len b1 b2
        have hrt := rtext b1 b2
        have PI : Hid (∀ r' i', Bd 1048576 r' → Bd 1048576 i' → txt r 0 = txt r' i' → True) := Lib.hid (fun _ _ _ _ _ => trivial)
        have T0 : Hid (txt r 0 = txt r 0) := Lib.hid rfl
        have q1 : (FloatKind.f64.format.order (fl false r) (fl false r) == some .eq) = true := by rw [eq_fl false false s1 s1]; simp
        have q2 : (FloatKind.f64.format.order (fl false 0) (fl false 0) == some .eq) = true := by rw [eq_fl false false s2 s2]; simp
        clear B1 B2 PI
        generalize hl : txt r 0 = l at *
        have HLT := Lib.hid hl
        clear hl T0
        go_wp2_with (first
          | (go_at_call 16; refine (refFits_any _ _ _).mono ?_; rintro e w' ⟨rfl, rfl⟩)
          | (go_at_call 15; refine (number_any _ _ _).mono ?_; rintro e w' ⟨rfl, rfl⟩)
          | (go_at_call 27; refine Hid.out ?_))
        refine Lib.hid ?_
        refine htx.mono ?_
        rintro e w3 ⟨rfl, k3⟩
        have K3 := Lib.hid (below_trans K2.out k3)
        have hp := parse_any l hlen w3 (HB.out.on K3.out)
        clear k3 htx K2
        go_wp2_with (go_at_call 30; refine Hid.out ?_)
        refine Lib.hid ?_
        refine hp.mono ?_
        rintro e w4 ⟨h | h, k4⟩
        · obtain ⟨r', i', _, _, _, hu, rfl⟩ := h
          obtain ⟨u1, u2⟩ := hu r 0 b1 b2 HLT.out.symm
          subst u1 u2
          have K4 := Lib.hid (below_trans K3.out k4)
          clear k4 hp hu K3
          go_wp2_with (first
            | (go_at_call 31; refine (hrt _).mono ?_; rintro e w' ⟨rfl, rfl⟩)
            | (go_at_call 15; refine (number_any _ _ _).mono ?_; rintro e w' ⟨rfl, rfl⟩)
            | (go_at_call 32; refine (minus_any s1 s2 _).mono ?_; rintro e w' ⟨rfl, rfl⟩))
          go_ret
          exact ⟨rfl, K4.out⟩
        · exact absurd HLT.out.symm (h.1 r 0 b1 b2)
    · have g1 : (a.tmod 5 == 1) = false := by simpa using h1
      by_cases h2 : a.tmod 5 = 2
      · have g2 : (a.tmod 5 == 2) = true := by rw [h2]; rfl
        have B1 : Bd 1049999 (r.tmod 9) := (tmod_bd r 9 (by omega)).le (by omega)
        have B2 : Bd 1049999 (i.tmod 9) := (tmod_bd i 9 (by omega)).le (by omega)
        clear h0 h1 h2
        go_wp2_with (go_at_call 16; refine Hid.out ?_)
        refine Lib.hid ?_
        clear g0 g1 g2 c1 f1 c2 f2 z1 a1 a2 u1 v1 u2 v2 Z r1 r2
        generalize r.tmod 9 = r at *
        generalize i.tmod 9 = i at *
        have s1 := B1.sm (by decide)
        have s2 := B2.sm (by decide)
        cases hok : ok2 r i with
        | false =>
          have htn := text_none false false s1 s2 hok
          clear B1 B2
          go_wp2_with (first
            | (go_at_call 16; refine (refFits_any _ _ _).mono ?_; rintro e w' ⟨rfl, rfl⟩)
            | (go_at_call 15; refine (number_any _ _ _).mono ?_; rintro e w' ⟨rfl, rfl⟩)
            | (go_at_call 27; refine (htn _).mono ?_; rintro e w' ⟨rfl, rfl⟩))
          go_ret
          exact ⟨rfl, K2.out⟩
        | true =>
          have b1 := (ok2_bd hok).1
          have b2 := (ok2_bd hok).2
          have htx := text_any false false s1 s2 hok w2 (HB.out.on K2.out).tb
          have hlen := txt_len b1 b2
          have hrt := rtext b1 b2
          have PI : Hid (∀ r' i', Bd 1048576 r' → Bd 1048576 i' → txt r i = txt r' i' → True) := Lib.hid (fun _ _ _ _ _ => trivial)
          have T0 : Hid (txt r i = txt r i) := Lib.hid rfl
          have q1 : (FloatKind.f64.format.order (fl false r) (fl false r) == some .eq) = true := by rw [eq_fl false false s1 s1]; simp
          have q2 : (FloatKind.f64.format.order (fl false i) (fl false i) == some .eq) = true := by rw [eq_fl false false s2 s2]; simp
          clear B1 B2 PI
          generalize hl : txt r i = l at *
          have HLT := Lib.hid hl
          clear hl T0
          go_wp2_with (first
            | (go_at_call 16; refine (refFits_any _ _ _).mono ?_; rintro e w' ⟨rfl, rfl⟩)
            | (go_at_call 15; refine (number_any _ _ _).mono ?_; rintro e w' ⟨rfl, rfl⟩)
            | (go_at_call 27; refine Hid.out ?_))
          refine Lib.hid ?_
          refine htx.mono ?_
          rintro e w3 ⟨rfl, k3⟩
          have K3 := Lib.hid (below_trans K2.out k3)
          have hp := parse_any l hlen w3 (HB.out.on K3.out)
          clear k3 htx K2
          go_wp2_with (go_at_call 30; refine Hid.out ?_)
          refine Lib.hid ?_
          refine hp.mono ?_
          rintro e w4 ⟨h | h, k4⟩
          · obtain ⟨r', i', _, _, _, hu, rfl⟩ := h
            obtain ⟨u1, u2⟩ := hu r i b1 b2 HLT.out.symm
            subst u1 u2
            have K4 := Lib.hid (below_trans K3.out k4)
            clear k4 hp hu K3
            go_wp2_with (first
              | (go_at_call 31; refine (hrt _).mono ?_; rintro e w' ⟨rfl, rfl⟩)
              | (go_at_call 15; refine (number_any _ _ _).mono ?_; rintro e w' ⟨rfl, rfl⟩)
              | (go_at_call 32; refine (minus_any s1 s2 _).mono ?_; rintro e w' ⟨rfl, rfl⟩))
            go_ret
            exact ⟨rfl, K4.out⟩
          · exact absurd HLT.out.symm (h.1 r i b1 b2)
      · have g2 : (a.tmod 5 == 2) = false := by simpa using h2
        clear h0 h1 h2
        go_wp2_with (go_at_call 16; refine Hid.out ?_)
        refine Lib.hid ?_
        clear g0 g1 g2 c1 f1 c2 f2 z1 a1 a2 u1 v1 u2 v2 Z
        have B1 := r1
        have B2 := r2
        clear r1 r2
        have s1 := B1.sm (by decide)
        have s2 := B2.sm (by decide)
        cases hok : ok2 r i with
        | false =>
          have htn := text_none false false s1 s2 hok
          clear B1 B2
          go_wp2_with (first
            | (go_at_call 16; refine (refFits_any _ _ _).mono ?_; rintro e w' ⟨rfl, rfl⟩)
            | (go_at_call 15; refine (number_any _ _ _).mono ?_; rintro e w' ⟨rfl, rfl⟩)
            | (go_at_call 27; refine (htn _).mono ?_; rintro e w' ⟨rfl, rfl⟩))
          go_ret
          exact ⟨rfl, K2.out⟩
        | true =>
          have b1 := (ok2_bd hok).1
          have b2 := (ok2_bd hok).2
          have htx := text_any false false s1 s2 hok w2 (HB.out.on K2.out).tb
          have hlen := txt_len b1 b2
          have hrt := rtext b1 b2
          have PI : Hid (∀ r' i', Bd 1048576 r' → Bd 1048576 i' → txt r i = txt r' i' → True) := Lib.hid (fun _ _ _ _ _ => trivial)
          have T0 : Hid (txt r i = txt r i) := Lib.hid rfl
          have q1 : (FloatKind.f64.format.order (fl false r) (fl false r) == some .eq) = true := by rw [eq_fl false false s1 s1]; simp
          have q2 : (FloatKind.f64.format.order (fl false i) (fl false i) == some .eq) = true := by rw [eq_fl false false s2 s2]; simp
          clear B1 B2 PI
          generalize hl : txt r i = l at *
          have HLT := Lib.hid hl
          clear hl T0
          go_wp2_with (first
            | (go_at_call 16; refine (refFits_any _ _ _).mono ?_; rintro e w' ⟨rfl, rfl⟩)
            | (go_at_call 15; refine (number_any _ _ _).mono ?_; rintro e w' ⟨rfl, rfl⟩)
            | (go_at_call 27; refine Hid.out ?_))
          refine Lib.hid ?_
          refine htx.mono ?_
          rintro e w3 ⟨rfl, k3⟩
          have K3 := Lib.hid (below_trans K2.out k3)
          have hp := parse_any l hlen w3 (HB.out.on K3.out)
          clear k3 htx K2
          go_wp2_with (go_at_call 30; refine Hid.out ?_)
          refine Lib.hid ?_
          refine hp.mono ?_
          rintro e w4 ⟨h | h, k4⟩
          · obtain ⟨r', i', _, _, _, hu, rfl⟩ := h
            obtain ⟨u1, u2⟩ := hu r i b1 b2 HLT.out.symm
            subst u1 u2
            have K4 := Lib.hid (below_trans K3.out k4)
            clear k4 hp hu K3
            go_wp2_with (first
              | (go_at_call 31; refine (hrt _).mono ?_; rintro e w' ⟨rfl, rfl⟩)
              | (go_at_call 15; refine (number_any _ _ _).mono ?_; rintro e w' ⟨rfl, rfl⟩)
              | (go_at_call 32; refine (minus_any s1 s2 _).mono ?_; rintro e w' ⟨rfl, rfl⟩))
            go_ret
            exact ⟨rfl, K4.out⟩
          · exact absurd HLT.out.symm (h.1 r i b1 b2)
end Go.Proofs.YtmbdbdgilhjgeaaDoor
