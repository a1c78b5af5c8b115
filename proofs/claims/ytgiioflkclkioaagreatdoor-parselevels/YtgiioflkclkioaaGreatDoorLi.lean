/- strings.LastIndexAny at "+-": a place within the text, or none; of ASCII texts the last sign's. -/
import Derived.Test.YtgiioflkclkioaaGreatDoorIr
import Derived.Test.YtgiioflkclkioaaGreatDoorPs
import Derived.Lib.TrimU
import Derived.Lib.SmallJoins
set_option linter.unusedSimpArgs false
set_option linter.unusedVariables false
namespace Go.Proofs.YtgiioflkclkioaaGreatDoor
open Go.RowKit

/-- Where a rune stands in "+-". -/
def ixv (r : Nat) : Int := if r = 43 then 0 else if r = 45 then 1 else -1
theorem ixv_lo : ∀ r : Fin 128, Lib.indexByte [43, 45] (r.val.toUInt8) = ixv r.val := by decide
def Ix (w : World) (r : Nat) (e : Ending) (w' : World) : Prop := e = .returned (.int .i64 (ixv r)) ∧ Below w.heap.size w w'
theorem ixr_any (r : Nat) (h : r ≤ 1114111) (w : World) : Calls Tryz.prog 191 #[.string ⟨#[43, 45]⟩, .int .i32 (r : Int)] w (Ix w r) := by
  by_cases h1 : r < 128
  · refine (Tryz.strings_IndexRune_ascii ⟨#[43, 45]⟩ (r : Int) w (by omega) (by omega)).mono ?_
    rintro e w' ⟨rfl, rfl⟩
    refine ⟨?_, Below.refl _ _⟩
    have := ixv_lo ⟨r, h1⟩
    rw [Int.toNat_natCast]
    show Ending.returned (.int .i64 (Lib.indexByte [43, 45] r.toUInt8)) = _
    rw [this]
  · have e : ixv r = -1 := by unfold ixv; rw [if_neg (by omega), if_neg (by omega)]
    unfold Ix
    rw [e]
    by_cases h2 : r = 65533
    · subst h2; exact ixrune_err w
    · have h3 : ((r : Int) == 65533) = false := by simp; omega
      cases hv : Utf8.valid (r : Int) with
      | false => exact ixrune_bad r (by omega) (by omega) h3 hv w
      | true => exact ixrune_hi r (by omega) (by omega) h3 hv w
set_option maxRecDepth 100000 in
theorem ixv_sg (b : UInt8) : (0 ≤ ixv b.toNat) ↔ isSg b = true := by
  have k : ∀ x : Fin 256, (decide (0 ≤ ixv x.val)) = isSg (UInt8.ofNat x.val) := by decide
  have := k ⟨b.toNat, UInt8.toNat_lt b⟩
  simp only [UInt8.ofNat_toNat] at this
  rw [← this, decide_eq_true_eq]

/-- What comes of looking for a sign. -/
def Li (w : World) (l : List UInt8) (e : Ending) (w' : World) : Prop := ∃ k : Int, e = .returned (.int .i64 k) ∧ SgPost l k ∧ Below w.heap.size w w'
def Ut (w : World) : Prop := Lib.Utf8Tabs 3 4 w
theorem Ut.on {w w' : World} (h : Ut w) (hb : Below w.heap.size w w') : Ut w' := by
  have lt : ∀ {a : Addr} {v : Value}, w.cell? a = some v → w'.cell? a = some v := by
    intro a v hc
    have hl : a.block < w.heap.size := by
      rcases Nat.lt_or_ge a.block w.heap.size with hlt | hge
      · exact hlt
      · simp [World.cell?, Array.getElem?_eq_none hge] at hc
    exact (hb.cell hl).trans hc
  exact ⟨fun c hc => lt (h.1 c hc), fun i hi => ⟨lt (h.2 i hi).1, lt (h.2 i hi).2⟩⟩
theorem below_trans' {a b c : World} (h : Below a.heap.size a b) (k : Below b.heap.size b c) : Below a.heap.size a c := h.trans (k.mono h.size)

theorem nosg_drop {l : List UInt8} {j : Nat} {b : UInt8} (hb : l[j]? = some b) (hs : isSg b = false) (h : NoSg (l.drop (j + 1))) : NoSg (l.drop j) := by
  have hj : j < l.length := (List.getElem?_eq_some_iff.1 hb).1
  have e : l[j] = b := (List.getElem?_eq_some_iff.1 hb).2
  rw [List.drop_eq_getElem_cons hj, e]
  intro c hc
  rcases List.mem_cons.1 hc with rfl | hc
  · exact hs
  · exact h c hc
theorem sg_hit {l : List UInt8} {j : Nat} {b : UInt8} (hb : l[j]? = some b) (hs : isSg b = true) (h : Asc l → NoSg (l.drop (j + 1))) : SgPost l (j : Int) := by
  have hj : j < l.length := (List.getElem?_eq_some_iff.1 hb).1
  exact ⟨by omega, fun _ => by omega, fun ha => .inr ⟨j, rfl, ⟨b, hb, hs⟩, h ha⟩⟩
theorem sg_miss {l : List UInt8} (h : Asc l → NoSg l) : SgPost l (-1) := ⟨by omega, fun h => by omega, fun ha => .inl ⟨rfl, h ha⟩⟩

theorem one_list {s : ByteArray} (h : s.size = 1) (hi : 0 < s.size) : s.data.toList = [s[0]'hi] := by
  obtain ⟨⟨l⟩⟩ := s
  have hl : l.length = 1 := h
  match l, hl with
  | [a], _ => rfl

set_option maxRecDepth 100000 in
set_option maxHeartbeats 1600000 in
theorem li_one (s : ByteArray) (h1 : s.size = 1) (w : World) : Calls Tryz.prog 178 #[.string s, .string ⟨#[43, 45]⟩] w (Li w s.data.toList) := by
  have hi : 0 < s.size := by omega
  have hl := one_list h1 hi
  obtain ⟨b, hx⟩ : ∃ x : UInt8, s[0]'hi = x := ⟨_, rfl⟩
  rw [hx] at hl
  rw [hl]
  have e1 : ((s.size : Int) == 1) = true := by rw [h1]; rfl
  have z0 : (0 : Int) < (s.size : Int) := by omega
  have hbl := UInt8.toNat_lt b
  clear hl h1
  by_cases hb : b.toNat < 128
  · have hb' : decide ((128 : Int) ≤ (b.toNat : Int)) = false := by simp; omega
    by_cases hs : isSg b = true
    · have hx2 : (0 : Int) ≤ ixv b.toNat := (ixv_sg b).2 hs
      have S : Hid (SgPost [b] 0) := Lib.hid (sg_hit (j := 0) (b := b) rfl hs (fun _ => by intro c hc; simp at hc))
      clear hs
      go_enter Tryz.func178, Tryz.ntmps178
      go_wp2_with (go_at_call 191; refine Hid.out ?_)
      refine Lib.hid ?_
      refine (ixr_any b.toNat (by omega) _).mono ?_
      rintro e w' ⟨rfl, hk⟩
      have K := Lib.hid hk
      clear hk
      go_wp2
      go_ret
      exact ⟨_, rfl, S.out, K.out⟩
    · have hx2 : ¬ (0 : Int) ≤ ixv b.toNat := fun h => hs ((ixv_sg b).1 h)
      have S : Hid (SgPost [b] (-1)) := Lib.hid (sg_miss (fun _ => by
        intro c hc
        simp only [List.mem_cons, List.not_mem_nil, or_false] at hc
        subst hc
        simpa using hs))
      clear hs
      go_enter Tryz.func178, Tryz.ntmps178
      go_wp2_with (go_at_call 191; refine Hid.out ?_)
      refine Lib.hid ?_
      refine (ixr_any b.toNat (by omega) _).mono ?_
      rintro e w' ⟨rfl, hk⟩
      have K := Lib.hid hk
      clear hk
      go_wp2
      go_ret
      exact ⟨_, rfl, S.out, K.out⟩
  · have hb' : decide ((128 : Int) ≤ (b.toNat : Int)) = true := by simp; omega
    have S : Hid (SgPost [b] (-1)) := Lib.hid (sg_miss (fun ha => absurd (ha b (by simp)) hb))
    go_enter Tryz.func178, Tryz.ntmps178
    go_wp2_with (go_at_call 191; refine Hid.out ?_)
    refine Lib.hid ?_
    refine (ixrune_err _).mono ?_
    rintro e w' ⟨rfl, hk⟩
    have K := Lib.hid hk
    clear hk
    go_wp2
    go_ret
    exact ⟨_, rfl, S.out, K.out⟩
end Go.Proofs.YtgiioflkclkioaaGreatDoor
