/- slices.Reverse of ints, of a row of the call's own. -/
import Derived.Test.YtcbpkagegdfidaaAe
import Derived.BigQuiet
import Derived.BigRegion
import Derived.Maps.AppendAt
set_option linter.unusedSimpArgs false
set_option linter.unusedVariables false
namespace Go.Proofs.Ytcbpkagegdfidaa
open Go.RowKit

/-- With the first k and the last k exchanged. -/
def rvl (L : List Nat) (k : Nat) : List Nat := (List.range L.length).map fun p => if p < k ∨ L.length ≤ p + k then L[L.length - 1 - p]! else L[p]!
theorem rvl_len (L : List Nat) (k : Nat) : (rvl L k).length = L.length := by simp [rvl]
theorem rvl_at {L : List Nat} {k p : Nat} (hp : p < L.length) : (rvl L k)[p]? = some (if p < k ∨ L.length ≤ p + k then L[L.length - 1 - p]! else L[p]!) := by
  simp [rvl, hp]
theorem rvl_zero (L : List Nat) : rvl L 0 = L := by
  refine List.ext_getElem? fun p => ?_
  by_cases hp : p < L.length
  · rw [rvl_at hp, if_neg (by omega), getElem!_pos L p hp, List.getElem?_eq_getElem hp]
  · rw [List.getElem?_eq_none (by rw [rvl_len]; omega), List.getElem?_eq_none (by omega)]
theorem rvl_end {L : List Nat} {k : Nat} (h : L.length ≤ 2 * k + 1) : rvl L k = L.reverse := by
  refine List.ext_getElem? fun p => ?_
  by_cases hp : p < L.length
  · rw [rvl_at hp, List.getElem?_reverse hp, List.getElem?_eq_getElem (by omega)]
    congr 1
    by_cases h2 : p < k ∨ L.length ≤ p + k
    · rw [if_pos h2, getElem!_pos L _ (by omega)]
    · rw [if_neg h2, getElem!_pos L _ hp]
      congr 1
      omega
  · rw [List.getElem?_eq_none (by rw [rvl_len]; omega), List.getElem?_eq_none (by rw [List.length_reverse]; omega)]
theorem rvl_step {L : List Nat} {k : Nat} (h : k < L.length - 1 - k) : ((rvl L k).set k L[L.length - 1 - k]!).set (L.length - 1 - k) L[k]! = rvl L (k + 1) := by
  refine List.ext_getElem? fun p => ?_
  by_cases hp : p < L.length
  · rw [rvl_at hp, List.getElem?_set, List.getElem?_set]
    by_cases h1 : L.length - 1 - k = p
    · rw [if_pos h1, if_pos (by rw [List.length_set, rvl_len]; omega), if_pos (by omega)]
      congr 2
      omega
    · rw [if_neg h1]
      by_cases h2 : k = p
      · rw [if_pos h2, if_pos (by rw [rvl_len]; omega), if_pos (by omega), h2]
      · rw [if_neg h2, rvl_at hp]
        congr 1
        by_cases h3 : p < k ∨ L.length ≤ p + k
        · rw [if_pos h3, if_pos (by omega)]
        · rw [if_neg h3, if_neg (by omega)]
  · rw [List.getElem?_eq_none (by rw [List.length_set, List.length_set, rvl_len]; omega), List.getElem?_eq_none (by rw [rvl_len]; omega)]
theorem nvs_set (L : List Nat) (k a : Nat) : (nvs L).set k (.int .i64 (a : Int)) = nvs (L.set k a) := by
  unfold nvs
  rw [List.map_set]
theorem nvs_at {L : List Nat} {k a : Nat} (h : L[k]? = some a) : (nvs L)[k]? = some (.int .i64 (a : Int)) := by
  unfold nvs
  rw [List.getElem?_map, h]; rfl
set_option maxRecDepth 100000 in
set_option maxHeartbeats 6400000 in
theorem rev_any (base B cap : Nat) (L : List Nat) (w : World) (h : w.ownsRow base 3 1 (.slice (some ⟨B, 0, Option.none⟩) L.length cap) L.length (nvs L)) (hl : L.length ≤ 1000) :
    Calls Try.prog 39 #[.slice (some ⟨B, 0, Option.none⟩) L.length cap] w fun e w' => e = .returned (.tuple #[]) ∧ w'.ownsRow base 3 1 (.slice (some ⟨B, 0, Option.none⟩) L.length cap) L.length (nvs L.reverse) ∧ w.grownBy w' (some B) := by
  obtain ⟨A, hA⟩ : ∃ A, L.length = A := ⟨_, rfl⟩
  rw [hA] at h hl ⊢
  have HA := Lib.hid hA
  have HO := Lib.hid h
  clear h hA
  go_enter Try.func39, Try.ntmps39
  go_wp2_with fail
  go_loopw [2, 3] (fun s2 s3 wr => ∃ (k : Nat), s2 = .int .i64 (k : Int) ∧ s3 = .int .i64 ((A : Int) - 1 - (k : Int)) ∧ 2 * k ≤ A + 1 ∧ wr.ownsRow base 3 1 (.slice (some ⟨B, 0, Option.none⟩) A cap) A (nvs (rvl L k)) ∧ w.grownBy wr (some B)) (fun s _ _ => A - (intOf s).toNat)
  case atStart => exact ⟨0, rfl, by first | rfl | (congr 1; omega) | simp, by omega, by rw [rvl_zero]; exact HO.out, World.grownBy.refl _ _⟩
  case round =>
    clear HO
    obtain ⟨k, rfl, rfl, hk, ho, hg⟩ := hrel
    have HO := Lib.hid ho
    have HG := Lib.hid hg
    clear hg
    by_cases hlt : k < A - 1 - k
    · obtain ⟨j, hj⟩ : ∃ j, A - 1 - k = j := ⟨_, rfl⟩
      have hjI : (A : Int) - 1 - (k : Int) = (j : Int) := by omega
      rw [hjI]
      have hkj : (k : Int) < (j : Int) := by omega
      have hkA : (k : Int) < (A : Int) := by omega
      have hjA : (j : Int) < (A : Int) := by omega
      have hw1 : IntKind.i64.wrap ((k : Int) + 1) = ((k + 1 : Nat) : Int) := by rw [IntKind.wrap_i64]; omega
      obtain ⟨a, ha⟩ : ∃ a, (rvl L k)[k]? = some a := ⟨_, List.getElem?_eq_getElem (by rw [rvl_len, HA.out]; omega)⟩
      obtain ⟨b, hb⟩ : ∃ b, (rvl L k)[j]? = some b := ⟨_, List.getElem?_eq_getElem (by rw [rvl_len, HA.out]; omega)⟩
      have ea : a = L[k]! := by
        have h := rvl_at (L := L) (k := k) (p := k) (by rw [HA.out]; omega)
        rw [ha, if_neg (by rw [HA.out]; omega)] at h
        exact Option.some.inj h
      have eb : b = L[L.length - 1 - k]! := by
        have h := rvl_at (L := L) (k := k) (p := j) (by rw [HA.out]; omega)
        rw [hb, if_neg (by rw [HA.out]; omega)] at h
        rw [HA.out, hj]
        exact Option.some.inj h
      have c0 : wr.cell? ⟨B, k, Option.none⟩ = some (.int .i64 (a : Int)) := by rw [ho.cellAt k (by omega), nvs_at ha]
      have c1 : wr.cell? ⟨B, j, Option.none⟩ = some (.int .i64 (b : Int)) := by rw [ho.cellAt j (by omega), nvs_at hb]
      have f0 := ho.frozenAt k
      have f1 := ho.frozenAt j
      obtain ⟨o1, g1⟩ := ho.stored k (.int .i64 (b : Int))
      obtain ⟨o2, g2⟩ := o1.stored j (.int .i64 (a : Int))
      have f2 := o1.frozenAt j
      have hst : ((nvs (rvl L k)).set k (.int .i64 (b : Int))).set j (.int .i64 (a : Int)) = nvs (rvl L (k + 1)) := by
        rw [nvs_set, nvs_set, ← rvl_step (by rw [HA.out]; omega), ← ea, ← eb, HA.out, hj]
      rw [hst] at o2
      have HO2 := Lib.hid o2
      have HG2 : Hid (w.grownBy ((wr.setCell ⟨B, k, Option.none⟩ (.int .i64 (b : Int))).setCell ⟨B, j, Option.none⟩ (.int .i64 (a : Int))) (some B)) := Lib.hid ((HG.out.trans g1).trans g2)
      have hw2 : IntKind.i64.wrap ((j : Int) - 1) = (A : Int) - 1 - ((k + 1 : Nat) : Int) := by rw [IntKind.wrap_i64]; omega
      clear ha hb ea eb hst o1 o2 g1 g2 ho HO HG
      go_wp2_with fail
      go_region
      have HO3 : Hid (((wr.setCell ⟨B, k, Option.none⟩ (.int .i64 (b : Int))).setCell ⟨B, j, Option.none⟩ (.int .i64 (a : Int))).drew.ownsRow base 3 1 (.slice (some ⟨B, 0, Option.none⟩) A cap) A (nvs (rvl L (k + 1)))) := Lib.hid (HO2.out.kept (row := Option.none) ⟨rfl, rfl, rfl, Nat.le_refl _, fun _ _ _ => rfl⟩ (.inr (by simp [Value.ownBlock])))
      have HG3 : Hid (w.grownBy ((wr.setCell ⟨B, k, Option.none⟩ (.int .i64 (b : Int))).setCell ⟨B, j, Option.none⟩ (.int .i64 (a : Int))).drew (some B)) := Lib.hid (HG2.out.trans ⟨rfl, rfl, rfl, Nat.le_refl _, fun _ _ _ => rfl⟩)
      clear HO2 HG2
      generalize ((wr.setCell ⟨B, k, Option.none⟩ (.int .i64 (b : Int))).setCell ⟨B, j, Option.none⟩ (.int .i64 (a : Int))).drew = X at HO3 HG3 ⊢
      clear c0 c1 f0 f1 f2
      go_wp2
      go_roundw
      case rel => exact ⟨k + 1, by go_num, by first | exact congrArg _ hw2 | go_num, by omega, HO3.out, HG3.out⟩
      case measure => simp [intOf]; omega
    · have hend : nvs (rvl L k) = nvs L.reverse := by rw [rvl_end (by rw [HA.out]; omega)]
      rw [hend] at ho
      have HO2 := Lib.hid ho
      have hge : ¬ (k : Int) < (A : Int) - 1 - (k : Int) := by omega
      clear hend ho HO
      go_wp2
      exact bodyPost_end (results_none rfl _ _ _) rfl ⟨rfl, HO2.out, HG.out⟩
set_option maxRecDepth 100000 in
set_option maxHeartbeats 6400000 in
theorem rev_nil (cap : Nat) (w : World) : Calls Try.prog 39 #[.slice Option.none 0 cap] w fun e w' => e = .returned (.tuple #[]) ∧ w' = w := by
  go_enter Try.func39, Try.ntmps39
  go_wp2
  refine wp_loop_rounds 1 ?_
  rw [rounds_succ]
  go_wp2
  exact bodyPost_end (results_none rfl _ _ _) rfl ⟨rfl, rfl⟩
theorem rev_own (base : Nat) (v : Value) (L : List Nat) (w : World) (h : w.ownsRow base 3 1 v L.length (nvs L)) (hl : L.length ≤ 1000) :
    Calls Try.prog 39 #[v] w fun e w' => e = .returned (.tuple #[]) ∧ w'.ownsRow base 3 1 v L.length (nvs L.reverse) ∧ w.grownBy w' v.ownBlock := by
  rcases id h.2 with ⟨rfl, hn⟩ | ⟨g, cap, cur, rfl, hbg, hg, hn, hm, hs, ht⟩
  · refine (rev_nil 0 w).mono ?_
    rintro e w' ⟨rfl, rfl⟩
    have hL := List.eq_nil_of_length_eq_zero hn
    subst hL
    exact ⟨rfl, h, World.grownBy.refl _ _⟩
  · exact rev_any base g cap L w h hl
end Go.Proofs.Ytcbpkagegdfidaa
