/- Words of kinds, of sorts, signs: what the plain reader's tables tell. -/
import Derived.Test.YtgiioflkclkioaaGreatDoorPu
set_option linter.unusedSimpArgs false
set_option linter.unusedVariables false
namespace Go.Proofs.YtgiioflkclkioaaGreatDoor
theorem kindOf_some {s : List UInt8} {k : Nat} (h : kindOf s = some k) : 1 ≤ k ∧ k < 17 ∧ word k = s := by
  unfold kindOf at h
  have h1 := List.mem_of_find?_eq_some h
  have h2 := List.find?_some h
  simp at h1 h2
  exact ⟨by omega, h1, h2.2⟩
theorem word_inj : ∀ j, j < 17 → ∀ k, k < 17 → word j = word k → j = k := by decide
theorem swd_inj : ∀ j, j < 6 → ∀ k, k < 6 → swd j = swd k → j = k := by decide
theorem kindOf_word {k : Nat} (h1 : 1 ≤ k) (h2 : k < 17) : kindOf (word k) = some k := by
  cases h : kindOf (word k) with
  | none =>
    unfold kindOf at h
    rw [List.find?_eq_none] at h
    have := h k (by simp; omega)
    simp at this
    omega
  | some j =>
    obtain ⟨_, a, b⟩ := kindOf_some h
    rw [word_inj j a k h2 b]
theorem sortOf_some {s : List UInt8} {k : Nat} (h : sortOf s = some k) : k < 6 ∧ swd k = s := by
  unfold sortOf at h
  have h1 := List.mem_of_find?_eq_some h
  have h2 := List.find?_some h
  simp at h1 h2
  exact ⟨h1, h2⟩
theorem sortOf_none {s : List UInt8} (h : sortOf s = none) (k : Nat) (hk : k < 6) : swd k ≠ s := by
  unfold sortOf at h
  rw [List.find?_eq_none] at h
  have := h k (by simp; omega)
  simpa using this
theorem opOne_cases (s : List UInt8) : (s = [45] ∧ opOne s = some 0) ∨ (s = [126] ∧ opOne s = some 1) ∨ (s = [33] ∧ opOne s = some 2) ∨ (s = [35] ∧ opOne s = some 3) ∨ (s ≠ [45] ∧ s ≠ [126] ∧ s ≠ [33] ∧ s ≠ [35] ∧ opOne s = none) := by
  unfold opOne
  by_cases h1 : s = [45]
  · subst h1; simp
  by_cases h2 : s = [126]
  · subst h2; simp
  by_cases h3 : s = [33]
  · subst h3; simp
  by_cases h4 : s = [35]
  · subst h4; simp
  simp [h1, h2, h3, h4]
theorem opP_mem {s : List UInt8} : (opP s).isSome = [[42]].contains s := by
  unfold opP
  by_cases h1 : s = [42]
  · subst h1; simp
  simp [h1]
theorem opS_mem {s : List UInt8} : (opS s).isSome = [[43], [45]].contains s := by
  unfold opS
  by_cases h1 : s = [43]
  · subst h1; simp
  by_cases h2 : s = [45]
  · subst h2; simp
  simp [h1, h2]
theorem opE_mem {s : List UInt8} : (opE s).isSome = [[61, 61], [33, 61], [60]].contains s := by
  unfold opE
  by_cases h1 : s = [61, 61]
  · subst h1; simp
  by_cases h2 : s = [33, 61]
  · subst h2; simp
  by_cases h3 : s = [60]
  · subst h3; simp
  simp [h1, h2, h3]
theorem opP_some {s : List UInt8} {k : Nat} (h : opP s = some k) : k < 6 ∧ op2 k = s := by
  unfold opP at h
  split at h
  · injection h with h; subst h; rename_i h1; subst h1; exact ⟨by decide, rfl⟩
  · cases h
theorem opS_some {s : List UInt8} {k : Nat} (h : opS s = some k) : k < 6 ∧ op2 k = s := by
  unfold opS at h
  split at h
  · injection h with h; subst h; rename_i h1; subst h1; exact ⟨by decide, rfl⟩
  split at h
  · injection h with h; subst h; rename_i h1; subst h1; exact ⟨by decide, rfl⟩
  · cases h
theorem opE_some {s : List UInt8} {k : Nat} (h : opE s = some k) : k < 6 ∧ op2 k = s := by
  unfold opE at h
  split at h
  · injection h with h; subst h; rename_i h1; subst h1; exact ⟨by decide, rfl⟩
  split at h
  · injection h with h; subst h; rename_i h1; subst h1; exact ⟨by decide, rfl⟩
  split at h
  · injection h with h; subst h; rename_i h1; subst h1; exact ⟨by decide, rfl⟩
  · cases h
end Go.Proofs.YtgiioflkclkioaaGreatDoor
