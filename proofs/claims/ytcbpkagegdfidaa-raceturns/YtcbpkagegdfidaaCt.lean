/- slices.Contains of whole numbers: the walk. -/
import Derived.Test.YtcbpkagegdfidaaCs
set_option linter.unusedSimpArgs false
set_option linter.unusedVariables false
namespace Go.Proofs.Ytcbpkagegdfidaa
open Go.RowKit

set_option maxHeartbeats 2000000 in
theorem index_any (L : List Nat) (n : Nat) (u : Value) (w : World) (hu : NsS w u L) (hl : L.length ≤ 1000) : Calls Try.prog 29 #[u, .int .i64 (n : Int)] w fun e w' => (∃ r : Int, e = .returned (.int .i64 r) ∧ (0 ≤ r ↔ n ∈ L)) ∧ w = w' := by
  obtain ⟨p, cap, rfl, hcap, h4⟩ := hu
  obtain ⟨A, hA⟩ : ∃ A, L.length = A := ⟨_, rfl⟩
  rw [hA] at hcap hl ⊢
  have HA := Lib.hid hA
  have H4 := Lib.hid h4
  clear hA h4
  go_enter Try.func29, Try.ntmps29
  go_wp2
  go_loopw [8] (fun s wr => ∃ (j : Nat), s = .int .i64 (j : Int) ∧ j ≤ A ∧ n ∉ L.take j ∧ wr = w) (fun s _ => A - (intOf s).toNat)
  case atStart => exact ⟨0, rfl, by omega, by simp, rfl⟩
  case round =>
    obtain ⟨j, rfl, hj, hn, rfl⟩ := hrel
    have HN := Lib.hid hn
    clear hn
    by_cases hlt : j < A
    · obtain ⟨x, hx⟩ : ∃ x, L[j]? = some x := ⟨_, List.getElem?_eq_getElem (by rw [HA.out]; exact hlt)⟩
      obtain ⟨b, o, rfl, hb, hr⟩ : ∃ b o, p = some ⟨b, o, Option.none⟩ ∧ b < wr.heap.size ∧ ∀ (i n : Nat), L[i]? = some n → wr.cell? ⟨b, o + i, Option.none⟩ = some (.int .i64 (n : Int)) := by
        rcases H4.out with ⟨_, e⟩ | h
        · rw [e] at hx; simp at hx
        · exact h
      have c0 := hr j x hx
      have HX := Lib.hid hx
      clear hx hr
      by_cases hxn : n = x
      · subst hxn
        go_wp2
        go_ret
        exact ⟨⟨j, rfl, ⟨fun _ => List.mem_of_getElem? HX.out, fun _ => by omega⟩⟩, by first | rfl | trivial⟩
      · have hne : ((n : Int) == (x : Int)) = false := by rw [beq_eq_false_iff_ne]; omega
        have hne2 : ¬ (n : Int) = (x : Int) := by omega
        go_wp2
        go_roundw
        case rel =>
          refine ⟨j + 1, by go_num, by omega, ?_, (by first | rfl | trivial)⟩
          rw [show L.take (j + 1) = L.take j ++ (L[j]?).toList from List.take_add_one, HX.out]
          simp only [Option.toList_some, List.mem_append, List.mem_singleton, not_or]
          exact ⟨HN.out, hxn⟩
        case measure => simp [intOf]; omega
    · have hn : n ∉ L := by have := HN.out; rwa [List.take_of_length_le (by rw [HA.out]; omega)] at this
      have HN2 := Lib.hid hn
      clear hn
      go_wp2
      go_ret
      exact ⟨⟨-1, rfl, ⟨fun h => by omega, fun h => absurd h HN2.out⟩⟩, rfl⟩
set_option maxHeartbeats 2000000 in
theorem contains_any (L : List Nat) (n : Nat) (u : Value) (w : World) (hu : NsS w u L) (hl : L.length ≤ 1000) : Calls Try.prog 15 #[u, .int .i64 (n : Int)] w fun e w' => e = .returned (.bool (decide (n ∈ L))) ∧ w = w' := by
  have HI := Lib.hid (index_any L n u w hu hl)
  clear hu
  go_enter Try.func15, Try.ntmps15
  go_wp2_with (go_at_call 29; refine Hid.out ?_)
  refine Lib.hid ?_
  refine HI.out.mono ?_
  rintro e w1 ⟨⟨r, rfl, hr⟩, rfl⟩
  by_cases h : 0 ≤ r
  · have hm : decide (n ∈ L) = true := decide_eq_true (hr.1 h)
    have HM := Lib.hid hm
    clear hm hr
    go_wp2
    go_ret
    exact ⟨by rw [HM.out]; simp, rfl⟩
  · have hm : decide (n ∈ L) = false := decide_eq_false fun hn => h (hr.2 hn)
    have HM := Lib.hid hm
    clear hm hr
    go_wp2
    go_ret
    exact ⟨by rw [HM.out]; simp; omega, rfl⟩
end Go.Proofs.Ytcbpkagegdfidaa
