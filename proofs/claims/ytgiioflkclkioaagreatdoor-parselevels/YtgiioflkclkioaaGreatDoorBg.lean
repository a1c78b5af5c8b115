/- lex.behindGap: the place behind all blanks and notes. -/
import Derived.Test.YtgiioflkclkioaaGreatDoorLa
import Derived.Test.YtgiioflkclkioaaGreatDoorSc
set_option linter.unusedSimpArgs false
set_option linter.unusedVariables false
namespace Go.Proofs.YtgiioflkclkioaaGreatDoor
open Go.RowKit

theorem size_len (s : ByteArray) : s.data.toList.length = s.size := by simp
theorem drop_at {s : ByteArray} {k : Nat} (h : k < s.size) : s.data.toList.drop k = s[k] :: s.data.toList.drop (k + 1) := by
  rw [List.drop_eq_getElem_cons (by rw [size_len]; exact h)]
  rfl
theorem drop_end {s : ByteArray} {k : Nat} (h : ¬ k < s.size) : s.data.toList.drop k = [] := List.drop_eq_nil_of_le (by rw [size_len]; omega)
theorem ext_drop (s : ByteArray) (k : Nat) : (s.extract k s.size).data.toList = s.data.toList.drop k := by
  rw [Lib.extract_eq]
  show (s.data.toList.drop k).take (s.size - k) = _
  rw [List.take_of_length_le (by rw [List.length_drop, size_len]; omega)]
theorem prefix_any (t p : ByteArray) (b : Bool) (h : Lib.hasPrefix t.data.toList p.data.toList = b) (w : World) : Calls Tryz.prog 53 #[.string t, .string p] w fun e w' => e = .returned (.bool b) ∧ w = w' :=
  (Tryz.strings_HasPrefix t p w).mono fun e w' ⟨he, hw⟩ => ⟨by rw [he, h], hw.symm⟩
theorem pre_two (l : List UInt8) (x y : UInt8) : Lib.hasPrefix l [x, y] = (l.take 2 == [x, y]) := by
  rw [← Lib.hasPrefix_of_take]
  match l with
  | [] => rfl
  | [a] => simp
  | a :: b :: r => simp
theorem gap_blank {c : UInt8} {r : List UInt8} (h : isBl c = true) : gap false (c :: r) = gap false r + 1 := by rw [gap, if_pos h]
theorem gap_none {c : UInt8} {r : List UInt8} (h : isBl c = false) (h2 : Lib.hasPrefix (c :: r) [47, 47] = false) : gap false (c :: r) = 0 := by
  rw [gap, if_neg (by simp [h]), if_neg]
  rw [pre_two] at h2
  intro h3
  simp only [Bool.and_eq_true, beq_iff_eq] at h3
  obtain ⟨rfl, h3⟩ := h3
  cases r with
  | nil => simp at h3
  | cons d r => simp at h3 h2; exact h2 h3
theorem gap_in {c : UInt8} {r : List UInt8} (h2 : Lib.hasPrefix (c :: r) [47, 47] = true) : c = 47 ∧ gap false (c :: r) = gap true r + 1 := by
  rw [pre_two] at h2
  cases r with
  | nil => simp at h2
  | cons d r =>
    simp at h2
    obtain ⟨rfl, rfl⟩ := h2
    exact ⟨rfl, by rw [gap, if_neg (by decide), if_pos (by simp)]⟩
theorem gap_on {c : UInt8} {r : List UInt8} (h : (c == 10) = false) : gap true (c :: r) = gap true r + 1 := by rw [gap, if_neg (by simp [h])]
theorem gap_off {c : UInt8} {r : List UInt8} (h : (c == 10) = true) : gap true (c :: r) = gap false (c :: r) := by
  have : c = 10 := by simpa using h
  subst this
  rw [gap, if_pos (by decide), gap, if_pos (by decide)]
theorem gap_nil (b : Bool) : gap b [] = 0 := by cases b <;> rfl

/-- One number comes back, the world as it was. -/
def Num (w : World) (n : Nat) (e : Ending) (w' : World) : Prop := e = .returned (.int .i64 (n : Int)) ∧ w = w'
theorem Num.of {w : World} {n : Nat} {x : Int} (h : x = n) : Num w n (.returned (.int .i64 x)) w := by subst h; exact ⟨rfl, rfl⟩

set_option maxRecDepth 100000 in
set_option maxHeartbeats 3200000 in
theorem behindGap_any (s : ByteArray) (k0 : Nat) (hk0 : k0 ≤ s.size) (hs : s.size ≤ 20000) (w : World) : Calls Tryz.prog 66 #[.string s, .int .i64 (k0 : Int)] w (Num w (k0 + gap false (s.data.toList.drop k0))) := by
  obtain ⟨G, hG⟩ : ∃ G, k0 + gap false (s.data.toList.drop k0) = G := ⟨_, rfl⟩
  have HG := Lib.hid hG
  rw [hG]
  clear hG
  go_enter Tryz.func66, Tryz.ntmps66
  go_wp2
  refine scope3h 0 1 1 (fun a' w' => w = w' ∧ ∃ (k : Nat) (u5 u6 u7 u8 u9 u10 u11 u12 u13 u14 u15 u16 u17 u18 u19 u20 u21 u22 u23 u24 u25 u26 u27 u28 u29 u30 u31 u32 u33 u34 : Value), a' = { tmps := #[.string s, .int .i64 (k : Int), undef, undef, .int .i64 0, u5, u6, u7, u8, u9, u10, u11, u12, u13, u14, u15, u16, u17, u18, u19, u20, u21, u22, u23, u24, u25, u26, u27, u28, u29, u30, u31, u32, u33, u34], defers := [] } ∧ k ≤ s.size ∧ Hid (k + gap false (s.data.toList.drop k) = G))
    (fun a' w' => w = w' ∧ ∃ (k : Nat) (u5 u6 u7 u8 u9 u10 u11 u12 u13 u14 u15 u16 u17 u18 u19 u20 u21 u22 u23 u24 u25 u26 u27 u28 u29 u30 u31 u32 u33 u34 : Value), a' = { tmps := #[.string s, .int .i64 (k : Int), undef, undef, .int .i64 0, u5, u6, u7, u8, u9, u10, u11, u12, u13, u14, u15, u16, u17, u18, u19, u20, u21, u22, u23, u24, u25, u26, u27, u28, u29, u30, u31, u32, u33, u34], defers := [] } ∧ k ≤ s.size ∧ Hid (k + gap true (s.data.toList.drop k) = G))
    (fun _ _ => False) (fun a' _ => 2 * (s.size - (intOf (a'.tmps.getD 1 undef)).toNat)) (fun a' _ => 2 * (s.size - (intOf (a'.tmps.getD 1 undef)).toNat) + 1) (fun _ _ => 0) rfl rfl ?_ ?_ ?_ (fun _ _ h => h.elim)
  · exact ⟨rfl, k0, _, _, _, _, _, _, _, _, _, _, _, _, _, _, _, _, _, _, _, _, _, _, _, _, _, _, _, _, _, _, rfl, hk0, HG⟩
  · rintro a' w' ⟨rfl, k, u5, u6, u7, u8, u9, u10, u11, u12, u13, u14, u15, u16, u17, u18, u19, u20, u21, u22, u23, u24, u25, u26, u27, u28, u29, u30, u31, u32, u33, u34, rfl, hk, HG⟩
    by_cases hlt : k < s.size
    · have hd := drop_at hlt
      have hbl := isBlank_any s[k] w
      cases hb : isBl s[k] with
      | true =>
        have HN : Hid (k + 1 + gap false (s.data.toList.drop (k + 1)) = G) := Lib.hid (by have := HG.out; rw [hd, gap_blank hb] at this; omega)
        rw [hb] at hbl
        clear hd hb HG
        go_wp2_with (go_at_call 100; refine hbl.mono ?_; rintro e w' ⟨rfl, rfl⟩)
        go_step3
        refine .inl ⟨rfl, ⟨rfl, k + 1, _, _, _, _, _, _, _, _, _, _, _, _, _, _, _, _, _, _, _, _, _, _, _, _, _, _, _, _, _, _, rfl, by omega, HN⟩, ?_⟩
        simp [intOf]
        omega
      | false =>
        rw [hb] at hbl
        have hx := ext_drop s k
        cases hp : Lib.hasPrefix (s.data.toList.drop k) [47, 47] with
        | false =>
          have hpre := prefix_any (s.extract k s.size) ⟨#[47, 47]⟩ false (by rw [hx]; exact hp) w
          have HN : Hid (k = G) := Lib.hid (by have := HG.out; rw [hd] at this hp; rw [gap_none hb hp] at this; omega)
          clear hd hb HG hx hp
          go_wp2_with (first
            | (go_at_call 100; refine hbl.mono ?_; rintro e w' ⟨rfl, rfl⟩)
            | (go_at_call 53; refine hpre.mono ?_; rintro e w' ⟨rfl, rfl⟩))
          simp only [jump3]
          go_ret
          exact Num.of (by rw [HN.out])
        | true =>
          have hpre := prefix_any (s.extract k s.size) ⟨#[47, 47]⟩ true (by rw [hx]; exact hp) w
          rw [hd] at hp
          obtain ⟨h47, hg⟩ := gap_in hp
          have HN : Hid (k + 1 + gap true (s.data.toList.drop (k + 1)) = G) := Lib.hid (by have := HG.out; rw [hd, hg] at this; omega)
          have hne : ((s[k].toNat : Int) != 10) = true := by rw [h47]; decide
          clear hd hb HG hx hp h47 hg
          go_wp2_with (first
            | (go_at_call 100; refine hbl.mono ?_; rintro e w' ⟨rfl, rfl⟩)
            | (go_at_call 53; refine hpre.mono ?_; rintro e w' ⟨rfl, rfl⟩))
          go_step3
          go_wp2
          go_step3
          refine .inr (.inl ⟨rfl, ⟨rfl, k + 1, _, _, _, _, _, _, _, _, _, _, _, _, _, _, _, _, _, _, _, _, _, _, _, _, _, _, _, _, _, _, rfl, by omega, HN⟩, ?_⟩)
          simp [intOf]
          omega
    · have hd := drop_end hlt
      have hx := ext_drop s k
      have hpre := prefix_any (s.extract k s.size) ⟨#[47, 47]⟩ false (by rw [hx, hd]; rfl) w
      have HN : Hid (k = G) := Lib.hid (by have := HG.out; rw [hd, gap_nil] at this; omega)
      clear hd hx HG
      go_wp2_with (go_at_call 53; refine hpre.mono ?_; rintro e w' ⟨rfl, rfl⟩)
      simp only [jump3]
      go_ret
      exact Num.of (by rw [HN.out])
  · rintro a' w' ⟨rfl, k, u5, u6, u7, u8, u9, u10, u11, u12, u13, u14, u15, u16, u17, u18, u19, u20, u21, u22, u23, u24, u25, u26, u27, u28, u29, u30, u31, u32, u33, u34, rfl, hk, HG⟩
    by_cases hlt : k < s.size
    · have hd := drop_at hlt
      have hne : ((s[k].toNat : Int) != 10) = (s[k] != 10) := byte_ne s[k] 10 (by decide)
      cases hb : (s[k] == 10) with
      | true =>
        have HN : Hid (k + gap false (s.data.toList.drop k) = G) := Lib.hid (by have := HG.out; rw [hd, gap_off hb] at this; rw [hd]; exact this)
        have hb' : (s[k] != 10) = false := by simp only [bne, hb, Bool.not_true]
        rw [hb'] at hne
        clear hd hb HG hb'
        go_wp2
        go_step3
        refine .inl ⟨rfl, ⟨rfl, k, _, _, _, _, _, _, _, _, _, _, _, _, _, _, _, _, _, _, _, _, _, _, _, _, _, _, _, _, _, _, rfl, by omega, HN⟩, ?_⟩
        simp [intOf]
      | false =>
        have HN : Hid (k + 1 + gap true (s.data.toList.drop (k + 1)) = G) := Lib.hid (by have := HG.out; rw [hd, gap_on hb] at this; omega)
        have hb' : (s[k] != 10) = true := by simp only [bne, hb, Bool.not_false]
        rw [hb'] at hne
        clear hd hb HG hb'
        go_wp2
        go_step3
        refine .inr (.inl ⟨rfl, ⟨rfl, k + 1, _, _, _, _, _, _, _, _, _, _, _, _, _, _, _, _, _, _, _, _, _, _, _, _, _, _, _, _, _, _, rfl, by omega, HN⟩, ?_⟩)
        simp [intOf]
        omega
    · have hd := drop_end hlt
      have HN : Hid (k + gap false (s.data.toList.drop k) = G) := Lib.hid (by have := HG.out; rw [hd, gap_nil] at this; rw [hd, gap_nil]; exact this)
      clear hd HG
      go_wp2
      go_step3
      refine .inl ⟨rfl, ⟨rfl, k, _, _, _, _, _, _, _, _, _, _, _, _, _, _, _, _, _, _, _, _, _, _, _, _, _, _, _, _, _, _, rfl, by omega, HN⟩, ?_⟩
      simp [intOf]
end Go.Proofs.YtgiioflkclkioaaGreatDoor
