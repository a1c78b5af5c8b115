/- gauss.parts, whole, Parse: a text read as a number. -/
import Derived.Test.YtgiioflkclkioaaGreatDoorPt
import Derived.Test.YtgiioflkclkioaaGreatDoorLl
set_option linter.unusedSimpArgs false
set_option linter.unusedVariables false
namespace Go.Proofs.YtgiioflkclkioaaGreatDoor
open Go.RowKit Ieee

/-- What the library's package variables hold, as far as it is read. -/
structure Lb (w : World) : Prop where
  tb : Tb w
  ut : Ut w
  es : ∃ tp p, w.var? Tryz.prog "strconv.ErrSyntax" = some #[.iface tp p]
  er : ∃ tp p, w.var? Tryz.prog "strconv.ErrRange" = some #[.iface tp p]
theorem gSyn : Tryz.prog.globalNamed "strconv.ErrSyntax" = some 11 := by kernel_rfl
theorem gRan : Tryz.prog.globalNamed "strconv.ErrRange" = some 12 := by kernel_rfl
theorem Lb.on {w w' : World} (h : Lb w) (hb : Below w.heap.size w w') : Lb w' := by
  obtain ⟨tp, p, h1⟩ := h.es
  obtain ⟨tq, q, h2⟩ := h.er
  exact ⟨h.tb.on hb, h.ut.on hb, ⟨tp, p, Joins.var_stays gSyn h1 hb (Nat.le_refl _)⟩, ⟨tq, q, Joins.var_stays gRan h2 hb (Nat.le_refl _)⟩⟩

theorem li_any (s : ByteArray) (hs : s.size ≤ 16384) (w : World) (hu : Ut w) : Calls Tryz.prog 178 #[.string s, .string ⟨#[43, 45]⟩] w (Li w s.data.toList) := by
  by_cases h1 : s.size = 1
  · exact li_one s h1 w
  · by_cases h8 : s.size ≤ 8
    · exact li_short s h8 h1 w hu
    · exact li_long s (by omega) hs w

/-- A text parted: two texts; of a number's text those that its parts are read of. -/
def Pa (w : World) (l : List UInt8) (e : Ending) (w' : World) : Prop := ∃ a b : List UInt8, e = .returned (.tuple #[.string ⟨a.toArray⟩, .string ⟨b.toArray⟩]) ∧ a.length ≤ 16384 ∧ b.length ≤ 16384 ∧
  (∀ r i, Bd 1048576 r → Bd 1048576 i → l = txt r i → Lib.atoiAll a = .ok r ∧ Lib.atoiAll b = .ok i) ∧ Below w.heap.size w w'

set_option maxRecDepth 100000 in
set_option maxHeartbeats 1600000 in
theorem parts_any (l : List UInt8) (hl : l.length ≤ 16384) (w : World) (hu : Ut w) : Calls Tryz.prog 164 #[.string ⟨l.toArray⟩] w (Pa w l) := by
  have hcut := Tryz.strings_CutSuffix ⟨l.toArray⟩ ⟨#[105]⟩ w (by show l.toArray.size ≤ _; simp; omega)
  have hX : (Lib.trimSuffix l [105]).length ≤ 16384 := Nat.le_trans (Lib.trimSuffix_le l [105]) hl
  have ec : (⟨l.toArray⟩ : ByteArray).data.toList = l := rfl
  have ei : (⟨#[105]⟩ : ByteArray).data.toList = [105] := rfl
  rw [ec, ei] at hcut
  cases hh : Lib.hasSuffix l [105] with
  | false =>
    rw [hh] at hcut
    have P1 : Hid (∀ r i, Bd 1048576 r → Bd 1048576 i → l = txt r i → Lib.atoiAll l = .ok r ∧ Lib.atoiAll [48] = .ok i) := Lib.hid (fun r i hr hi e => part_none hh hr hi e)
    clear ec ei hX hh
    go_enter Tryz.func164, Tryz.ntmps164
    go_wp2_with (go_at_call 177; refine hcut.mono ?_; rintro e w' ⟨rfl, hw⟩; rw [hw])
    go_ret2
    exact ⟨l, [48], rfl, hl, by decide, P1.out, Below.refl _ _⟩
  | true =>
    rw [hh] at hcut
    have P1 : Hid (∀ k : Int, SgPost (Lib.trimSuffix l [105]) k → k ≤ 0 → ∀ r i, Bd 1048576 r → Bd 1048576 i → l = txt r i → Lib.atoiAll [48] = .ok r ∧ Lib.atoiAll (Lib.trimSuffix l [105]) = .ok i) := Lib.hid (fun k hk h0 r i hr hi e => part_zero hh hk h0 hr hi e)
    have P2 : Hid (∀ k : Nat, SgPost (Lib.trimSuffix l [105]) (k : Int) → 0 < k → ∀ r i, Bd 1048576 r → Bd 1048576 i → l = txt r i → Lib.atoiAll ((Lib.trimSuffix l [105]).take k) = .ok r ∧ Lib.atoiAll ((Lib.trimSuffix l [105]).drop k) = .ok i) := Lib.hid (fun k hk h0 r i hr hi e => part_two hh hk h0 hr hi e)
    generalize Lib.trimSuffix l [105] = X at *
    have hli := li_any ⟨X.toArray⟩ (by show X.toArray.size ≤ _; simpa using hX) w hu
    have ex : (⟨X.toArray⟩ : ByteArray).data.toList = X := rfl
    rw [ex] at hli
    clear ec ei ex hh
    go_enter Tryz.func164, Tryz.ntmps164
    go_wp2_with (go_at_call 177; refine hcut.mono ?_; rintro e w' ⟨rfl, hw⟩; rw [hw])
    refine hli.mono ?_
    rintro e w1 ⟨k, rfl, hk, hb⟩
    have KB := Lib.hid hb
    have HK := Lib.hid hk
    clear hb hk hli hcut
    by_cases hk0 : k ≤ 0
    · go_wp2
      go_ret2
      exact ⟨[48], X, rfl, by decide, hX, P1.out k HK.out hk0, KB.out⟩
    · obtain ⟨j, rfl⟩ : ∃ j : Nat, k = (j : Int) := ⟨k.toNat, by omega⟩
      have hj : (j : Int) < X.length := HK.out.2.1 (by omega)
      have hj0 : 0 < j := by omega
      have hjz : (0 : Int) < (j : Int) := by omega
      have hjl : (j : Int) ≤ (X.length : Int) := by omega
      go_wp2
      go_quiet (fail)
      go_wp2
      go_ret2
      refine ⟨X.take j, X.drop j, ?_, by simp; omega, by simp; omega, P2.out j HK.out hj0, below_drewN KB.out _⟩
      have x1 : (⟨X.toArray⟩ : ByteArray).extract 0 j = ⟨(X.take j).toArray⟩ := by rw [Lib.extract_eq]; simp
      have x2 : (⟨X.toArray⟩ : ByteArray).extract j X.length = ⟨(X.drop j).toArray⟩ := by rw [Lib.extract_eq]; show ByteArray.mk ((X.drop j).take (X.length - j)).toArray = _; rw [List.take_of_length_le (by simp)]
      show Ending.returned (.tuple #[.string ((⟨X.toArray⟩ : ByteArray).extract 0 j), .string ((⟨X.toArray⟩ : ByteArray).extract j X.length)]) = _
      rw [x1, x2]

/-- What a numeral is read as. -/
def Wh (w : World) (l : List UInt8) (e : Ending) (w' : World) : Prop := ∃ (v : Int) (ok : Bool), e = .returned (.tuple #[.float .f64 (fl false v), .bool ok]) ∧ -9223372036854775808 ≤ v ∧ v ≤ 9223372036854775807 ∧
  (∀ u, Lib.atoiAll l = .ok u → ok = true ∧ v = u) ∧ Below w.heap.size w w'
theorem atoi_range {l : List UInt8} {v : Int} (h : Lib.atoiAll l = .ok v) : -9223372036854775808 ≤ v ∧ v ≤ 9223372036854775807 := by
  unfold Lib.atoiAll at h
  split at h
  · cases h
  · simp only at h
    split at h
    · cases h
    · cases h
    · split at h
      · cases h
      · split at h
        · cases h
        · injection h with h
          subst h
          split <;> omega

set_option maxRecDepth 100000 in
set_option maxHeartbeats 1600000 in
theorem whole_text (l : List UInt8) (hl : l.length ≤ 16384) (w : World) (hb : Lb w) : Calls Tryz.prog 165 #[.string ⟨l.toArray⟩] w (Wh w l) := by
  have hsz : (⟨l.toArray⟩ : ByteArray).size ≤ 16384 := by show l.toArray.size ≤ _; simpa using hl
  have ec : (⟨l.toArray⟩ : ByteArray).data.toList = l := rfl
  cases ha : Lib.atoiAll l
  · rename_i v
    have hA := Tryz.strconv_Atoi_ok ⟨l.toArray⟩ (by omega) v (by rw [ec]; exact ha) w
    have hr := atoi_range ha
    have P1 : Hid (∀ u, Lib.atoiAll l = .ok u → v = u) := Lib.hid (fun u h => by rw [ha] at h; injection h)
    have hf := floatOfInt_fl v
    clear ha ec hsz
    go_enter Tryz.func165, Tryz.ntmps165
    go_wp2_with (go_at_call 179; refine Hid.out ?_)
    refine Lib.hid ?_
    refine hA.mono ?_
    rintro e w1 ⟨rfl, hw⟩
    have KB : Hid (Below w.heap.size w w1) := Lib.hid (by
      rcases hw with rfl | ⟨t, rfl⟩
      · exact Below.refl _ _
      · exact Lib.bytesWorld_below _ _ _)
    clear hw hA
    go_wp2
    go_ret2
    exact ⟨v, true, rfl, hr.1, hr.2, fun u h => ⟨rfl, P1.out u h⟩, KB.out⟩
  · obtain ⟨tp, p, hv⟩ := hb.es
    have hA := Any.strconv_Atoi_syntax_var Tryz.laysC172 ⟨l.toArray⟩ (by omega) (by rw [ec]; exact ha) tp p w hv
    have P1 : Hid (∀ u, Lib.atoiAll l = .ok u → False) := Lib.hid (fun u h => by rw [ha] at h; cases h)
    clear ha ec hsz hv hb
    go_enter Tryz.func165, Tryz.ntmps165
    go_wp2_with (go_at_call 179; refine Hid.out ?_)
    refine Lib.hid ?_
    refine hA.mono ?_
    rintro e w1 ⟨N, rfl, _, _, hk⟩
    have KB := Lib.hid hk
    clear hk hA
    go_wp2
    go_ret2
    exact ⟨0, false, by rw [fl0]; rfl, by omega, by omega, fun u h => (P1.out u h).elim, KB.out⟩
  · obtain ⟨tp, p, hv⟩ := hb.er
    have hA := Any.strconv_Atoi_range_var Tryz.laysC172 ⟨l.toArray⟩ (by omega) (by rw [ec]; exact ha) tp p w hv
    have P1 : Hid (∀ u, Lib.atoiAll l = .ok u → False) := Lib.hid (fun u h => by rw [ha] at h; cases h)
    clear ha ec hsz hv hb
    go_enter Tryz.func165, Tryz.ntmps165
    go_wp2_with (go_at_call 179; refine Hid.out ?_)
    refine Lib.hid ?_
    refine hA.mono ?_
    rintro e w1 ⟨N, rfl, _, _, hk⟩
    have KB := Lib.hid hk
    clear hk hA
    go_wp2
    go_ret2
    exact ⟨0, false, by rw [fl0]; rfl, by omega, by omega, fun u h => (P1.out u h).elim, KB.out⟩
end Go.Proofs.YtgiioflkclkioaaGreatDoor
