/- strings.IndexRune at "+-", of a rune beyond ASCII: none. -/
import Derived.Test.YtgiioflkclkioaaGreatDoorSi
import Derived.Test.YtgiioflkclkioaaGreatDoorSj
import Derived.WalkKit
import Derived.WalkSpells
import Derived.WalkLawsBesides
import Derived.WalkMore
import Derived.ScopeJumps
import Derived.Lib.Hide
import Derived.Deep.QuietTactic
import Derived.BigQuiet
import Derived.Laws.Runes
set_option linter.unusedSimpArgs false
set_option linter.unusedVariables false
namespace Go.Proofs.YtgiioflkclkioaaGreatDoor
open Go.RowKit

set_option maxRecDepth 100000 in
set_option maxHeartbeats 1600000 in
theorem ixrune_err (w : World) : Calls Tryz.prog 191 #[.string ⟨#[43, 45]⟩, .int .i32 65533] w fun e w' => e = .returned (.int .i64 (-1)) ∧ Below w.heap.size w w' := by
  go_enter Tryz.func191, Tryz.ntmps191
  go_wp2

  go_wp2
  go_loopw [5] (fun _ wr => ∃ pos, pos ≤ 2 ∧ wr = w.iter ⟨#[43, 45]⟩ pos) (fun _ wr => 2 - wr.iterPos w.heap.size)
  case atStart => exact ⟨0, by omega, rfl⟩
  case round =>
    obtain ⟨pos, hp, rfl⟩ := hrel
    rcases (by omega : pos = 0 ∨ pos = 1 ∨ pos = 2) with rfl | rfl | rfl
    · have hn : ∀ ty, (Instr.next (.pointer (some ⟨w.heap.size, 0, none⟩)) true ty).run Tryz.prog (w.iter ⟨#[43, 45]⟩ 0) = .ok (.tuple #[.bool true, .int .i64 0, .int .i32 43]) (w.iter ⟨#[43, 45]⟩ 1) := fun ty => run_next_ascii (P := Tryz.prog) w ⟨#[43, 45]⟩ 0 ty (by decide) (by decide)
      go_wp2
      go_roundw
      case rel => exact ⟨1, by omega, rfl⟩
      case measure => simp [World.iterPos, World.iter_heap]
    · have hn : ∀ ty, (Instr.next (.pointer (some ⟨w.heap.size, 0, none⟩)) true ty).run Tryz.prog (w.iter ⟨#[43, 45]⟩ 1) = .ok (.tuple #[.bool true, .int .i64 1, .int .i32 45]) (w.iter ⟨#[43, 45]⟩ 2) := fun ty => run_next_ascii (P := Tryz.prog) w ⟨#[43, 45]⟩ 1 ty (by decide) (by decide)
      go_wp2
      go_roundw
      case rel => exact ⟨2, by omega, rfl⟩
      case measure => simp [World.iterPos, World.iter_heap]
    · have hn : ∀ ty, (Instr.next (.pointer (some ⟨w.heap.size, 0, none⟩)) true ty).run Tryz.prog (w.iter ⟨#[43, 45]⟩ 2) = .ok (.tuple #[.bool false]) (w.iter ⟨#[43, 45]⟩ 2) := fun ty => run_next_end (P := Tryz.prog) w ⟨#[43, 45]⟩ 2 ty (by decide)
      go_wp2
      go_ret
      exact ⟨rfl, (Below.refl _ _).alloc (Nat.le_refl _) _⟩

theorem valid_any (r : Int) (h0 : 128 ≤ r) (h1 : r ≤ 1114111) (w : World) : Calls Tryz.prog 206 #[.int .i32 r] w fun e w' => e = .returned (.bool (Utf8.valid r)) ∧ w = w' := by
  by_cases h2 : r < 55296
  · have hv : Utf8.valid r = true := by unfold Utf8.valid; simp; omega
    rw [hv]
    go_enter Tryz.func206, Tryz.ntmps206
    go_wp2
    go_ret
    exact ⟨rfl, rfl⟩
  · by_cases h3 : 57343 < r
    · have hv : Utf8.valid r = true := by unfold Utf8.valid; simp; omega
      rw [hv]
      go_enter Tryz.func206, Tryz.ntmps206
      go_wp2
      go_ret
      exact ⟨rfl, rfl⟩
    · have hv : Utf8.valid r = false := by unfold Utf8.valid; simp; omega
      rw [hv]
      go_enter Tryz.func206, Tryz.ntmps206
      go_wp2
      go_ret
      exact ⟨rfl, rfl⟩

set_option maxRecDepth 100000 in
set_option maxHeartbeats 1600000 in
theorem ixrune_bad (r : Int) (h0 : 128 ≤ r) (h1 : r ≤ 1114111) (hr : (r == 65533) = false) (hv : Utf8.valid r = false) (w : World) : Calls Tryz.prog 191 #[.string ⟨#[43, 45]⟩, .int .i32 r] w fun e w' => e = .returned (.int .i64 (-1)) ∧ Below w.heap.size w w' := by
  go_enter Tryz.func191, Tryz.ntmps191
  go_wp2_with (go_at_call 206; refine (valid_any r h0 h1 _).mono ?_; rintro e w' ⟨rfl, rfl⟩)
  go_ret
  exact ⟨rfl, Below.refl _ _⟩

theorem ixbyte_none (t : ByteArray) (c : Int) (h : t.data.toList = []) (w : World) : Calls Tryz.prog 73 #[.string t, .int .u8 c] w fun e w' => e = .returned (.int .i64 (-1)) ∧ w' = w := by
  exact (Tryz.strings_IndexByte t c w).mono fun e w' ⟨he, hw⟩ => ⟨by rw [he, h]; rfl, hw⟩
theorem below_drewN {w w2 : World} (h : Below w.heap.size w w2) (n : Nat) : Below w.heap.size w (w2.drewN n) := ⟨h.os, h.tape, h.output, h.size, h.block⟩
theorem two_bytes {s : ByteArray} (h : s.size = 2) : ∃ a b, s = ⟨#[a, b]⟩ := by
  obtain ⟨⟨l⟩⟩ := s
  have hl : l.length = 2 := h
  match l, hl with
  | [a, b], _ => exact ⟨a, b, rfl⟩

set_option maxRecDepth 100000 in
set_option maxHeartbeats 1600000 in
theorem ixrune_hi (r : Int) (h0 : 128 ≤ r) (h1 : r ≤ 1114111) (hr : (r == 65533) = false) (hv : Utf8.valid r = true) (w : World) : Calls Tryz.prog 191 #[.string ⟨#[43, 45]⟩, .int .i32 r] w fun e w' => e = .returned (.int .i64 (-1)) ∧ Below w.heap.size w w' := by
  obtain ⟨q1, q2, q3⟩ := encode_facts r hv h0
  have hd : decide (r < 128) = false := by simp; omega
  have hq3 := Lib.hid q3
  clear q3
  go_enter Tryz.func191, Tryz.ntmps191
  go_wp2_with (go_at_call 206; refine (valid_any r h0 h1 _).mono ?_; rintro e w' ⟨rfl, rfl⟩)
  go_step3
  go_wp2
  generalize Utf8.encode r = rs at *
  go_loop [9] (fun i => i = .int .i64 (↑rs.size - 1)) (fun _ => 0)
  case atStart => rfl
  case round =>
    subst hrel
    by_cases h2 : rs.size = 2
    · obtain ⟨a, b, rfl⟩ := two_bytes h2
      have hc : 128 ≤ b.toNat := hq3.out (by show 2 - 1 < 2; omega)
      have hb : ((((⟨#[43, 45]⟩ : ByteArray)[1]'(by decide)).toNat : Int) != (((⟨#[a, b]⟩ : ByteArray)[1]'(by show 1 < 2; omega)).toNat : Int)) = true := by
        show ((45 : Int) != (b.toNat : Int)) = true
        simp; omega
      have hbl := UInt8.toNat_lt b
      clear hq3 h2
      go_wp2
      go_step3
      go_wp2
      go_quiet (fail)
      have K : Hid (Below w.heap.size w (w.drewN nq)) := Lib.hid ⟨rfl, rfl, rfl, Nat.le_refl _, fun _ _ => rfl⟩
      generalize w.drewN nq = w2 at *
      go_wp2
      go_quiet ((go_at_call 73; exact Calls.quiet_of_same (ixbyte_none _ _ (by decide) _)))
      go_wp2
      rw [Exit.noGoto_ret]
      go_wp2
      try rw [Exit.noGoto_ret]
      go_ret
      exact ⟨rfl, below_drewN K.out nq⟩
    · go_wp2
      go_ret
      exact ⟨rfl, Below.refl _ _⟩
end Go.Proofs.YtgiioflkclkioaaGreatDoor
