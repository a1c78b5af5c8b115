/- slices.Equal at tokens: of two slices with the same tokens it answers true. -/
import Derived.Test.YtphjjlmjggjodaaDoorTw
set_option linter.unusedSimpArgs false
set_option linter.unusedVariables false
namespace Go.Proofs.YtphjjlmjggjodaaDoor
open Go.RowKit Ieee

theorem equal_nil (w : World) : Calls Tryd.prog 12 #[.slice none 0 0, .slice none 0 0] w fun e w' => e = .returned (.bool true) ∧ Below w.heap.size w w' := by
  go_enter Tryd.func12, Tryd.ntmps12
  go_wp2
  go_loopw [13] (fun i wr => i = .int .i64 0 ∧ wr = w) (fun _ _ => 0)
  case atStart => exact ⟨rfl, rfl⟩
  case round =>
    obtain ⟨rfl, rfl⟩ := hrel
    go_wp2
    go_ret
    exact ⟨rfl, Below.refl _ _⟩

set_option maxRecDepth 100000 in
set_option maxHeartbeats 3200000 in
theorem equal_toks (g g' c c' : Nat) (ts : List Tk) (hn : ts.length ≤ 20000) (w : World) (h : Toks w g ts) (h' : Toks w g' ts) (hg : g < w.heap.size) (hg' : g' < w.heap.size) (hsm : ∀ t ∈ ts, t.re ≤ 1048576 ∧ t.im ≤ 1048576) :
    Calls Tryd.prog 12 #[.slice (some ⟨g, 0, Option.none⟩) ts.length c, .slice (some ⟨g', 0, Option.none⟩) ts.length c'] w fun e w' => e = .returned (.bool true) ∧ Below w.heap.size w w' := by
  have H := Lib.hid h
  have H' := Lib.hid h'
  have HSM := Lib.hid hsm
  generalize hN : ts.length = n at *
  have HN := Lib.hid hN
  have hnn : ((n : Int) != (n : Int)) = false := by simp
  clear h h' hsm hN
  go_enter Tryd.func12, Tryd.ntmps12
  go_wp2
  go_loopw [13] (fun i wr => ∃ (j : Nat) , j ≤ n ∧ i = .int .i64 (j : Int) ∧ Below w.heap.size w wr) (fun i _ => n - (intOf i).toNat)
  case atStart => exact ⟨0, Nat.zero_le _, rfl, Below.refl _ _⟩
  case round =>
    obtain ⟨j, hj, rfl, hbr⟩ := hrel
    have HBR := Lib.hid hbr
    clear hbr
    by_cases hlt : j < n
    · obtain ⟨t, ht⟩ : ∃ t, ts[j]? = some t := ⟨ts[j]'(by rw [HN.out]; exact hlt), List.getElem?_eq_getElem _⟩
      obtain ⟨k0, k1, k2, k3⟩ := (H.out.on HBR.out hg) j t ht
      obtain ⟨v0, v1, v2, v3⟩ := (H'.out.on HBR.out hg') j t ht
      have hsame := fun w => tk_same w (HSM.out t (List.mem_of_getElem? ht))
      unfold tv at hsame
      clear ht
      generalize fl false (t.re : Int) = fr at *
      generalize fl false (t.im : Int) = fi at *
      generalize (⟨t.text.toArray⟩ : ByteArray) = T at *
      generalize t.kind = kd at *
      generalize t.pos = ps at *
      go_wp2
      go_quiet (fail)
      go_wp2
      go_roundw
      case rel => exact ⟨j + 1, by omega, by go_num, below_drewN HBR.out _⟩
      case measure => simp [intOf]; omega
    · go_wp2
      go_ret
      exact ⟨rfl, HBR.out⟩
end Go.Proofs.YtphjjlmjggjodaaDoor
