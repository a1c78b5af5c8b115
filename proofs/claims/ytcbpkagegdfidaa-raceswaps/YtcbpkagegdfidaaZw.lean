/- Which of the events that are left wait for none: each one counts those ahead of it that it depends on. Pure. -/
import Derived.Test.YtcbpkagegdfidaaNb
import Derived.Test.YtcbpkagegdfidaaNp
import Derived.Test.YtcbpkagegdfidaaEk
set_option linter.unusedSimpArgs false
set_option linter.unusedVariables false
namespace Go.Proofs.Ytcbpkagegdfidaa

section
variable (dep : Nat → Nat → Bool)
/-- How many of the first n that are left j depends on. -/
def wtn (f : Nat → Bool) (j n : Nat) : Nat := ((List.range n).filter fun k => f k && dep k j).length
/-- What j waits for; -1: it isn't left. -/
def wts (f : Nat → Bool) (j : Nat) : Int := if f j then (wtn dep f j j : Int) else -1
end
def outF (f : Nat → Bool) (b : Nat) : Nat → Bool := fun i => f i && decide (i ≠ b)
section
variable {dep : Nat → Nat → Bool}
theorem wtn_step (f : Nat → Bool) (j n : Nat) : wtn dep f j (n + 1) = wtn dep f j n + (if f n && dep n j then 1 else 0) := by
  unfold wtn
  rw [List.range_succ, List.filter_append, List.length_append]
  congr 1
  by_cases h : (f n && dep n j) = true
  · simp [h]
  · simp [h]
theorem wtn_le (f : Nat → Bool) (j n : Nat) : wtn dep f j n ≤ n := by
  unfold wtn
  have := List.length_filter_le (fun k => f k && dep k j) (List.range n)
  simpa using this
theorem wtn_zero (f : Nat → Bool) (j n : Nat) : wtn dep f j n = 0 ↔ ∀ k, k < n → f k = true → dep k j = false := by
  unfold wtn
  rw [List.length_eq_zero_iff, List.filter_eq_nil_iff]
  constructor
  · intro h k hk hf
    have := h k (List.mem_range.2 hk)
    simpa [hf] using this
  · intro h k hk
    have hk := List.mem_range.1 hk
    cases hf : f k
    · simp
    · simp [h k hk hf]
theorem wts_zero (f : Nat → Bool) (j : Nat) : wts dep f j = 0 ↔ f j = true ∧ ∀ k, k < j → f k = true → dep k j = false := by
  unfold wts
  by_cases hf : f j = true
  · rw [if_pos hf, ← wtn_zero]
    constructor
    · intro h; exact ⟨hf, by omega⟩
    · rintro ⟨_, h⟩; omega
  · rw [if_neg hf]
    constructor
    · intro h; omega
    · rintro ⟨h, _⟩; exact absurd h hf
theorem frs_left (f : Nat → Bool) : ∀ A, frs dep [] ((List.range A).filter f) = (List.range A).filter fun j => decide (wts dep f j = 0)
  | 0 => rfl
  | A + 1 => by
    rw [List.range_succ, List.filter_append, List.filter_append, frs_app, frs_left f A]
    congr 1
    rw [List.nil_append]
    by_cases hf : f A = true
    · rw [List.filter_cons, if_pos hf, List.filter_nil, frs, frs, List.append_nil, List.filter_cons, List.filter_nil]
      have e : (((List.range A).filter f).all fun k => !dep k A) = decide (wts dep f A = 0) := by
        rw [Bool.eq_iff_iff, decide_eq_true_eq, wts_zero, List.all_eq_true]
        constructor
        · intro h
          exact ⟨hf, fun k hk hfk => by have := h k (List.mem_filter.2 ⟨List.mem_range.2 hk, hfk⟩); simpa using this⟩
        · rintro ⟨_, h⟩ k hk
          obtain ⟨h1, h2⟩ := List.mem_filter.1 hk
          simp [h k (List.mem_range.1 h1) h2]
      rw [e]
    · have hz : ¬ wts dep f A = 0 := fun h => hf ((wts_zero f A).1 h).1
      rw [List.filter_cons, if_neg hf, List.filter_nil, frs, List.filter_cons, List.filter_nil, if_neg (by simpa using hz)]
theorem wtn_out {f : Nat → Bool} {b : Nat} (hb : f b = true) (j : Nat) : ∀ n, wtn dep f j n = wtn dep (outF f b) j n + (if b < n ∧ dep b j = true then 1 else 0)
  | 0 => by simp [wtn]
  | n + 1 => by
    rw [wtn_step, wtn_step, wtn_out hb j n]
    by_cases hn : n = b
    · subst hn
      have e : outF f n n = false := by simp [outF]
      cases hd : dep n j <;> simp [e, hb]
    · have e : outF f b n = f n := by simp [outF, hn]
      rw [e]
      by_cases hlt : b < n
      · have h1 : b < n + 1 := by omega
        simp only [hlt, h1, true_and]
        omega
      · have h1 : ¬ b < n + 1 := by omega
        simp only [hlt, h1, false_and, if_false, Nat.add_zero]
/-- What they wait for, when one is taken. -/
theorem wts_out {f : Nat → Bool} {b : Nat} (hb : f b = true) (j : Nat) : wts dep (outF f b) j = if j = b then -1 else if b < j ∧ 0 < wts dep f j ∧ dep b j = true then wts dep f j - 1 else wts dep f j := by
  by_cases hj : j = b
  · subst hj
    simp [wts, outF]
  · rw [if_neg hj]
    have e : outF f b j = f j := by simp [outF, hj]
    have hw := wtn_out (dep := dep) hb j j
    unfold wts
    rw [e]
    cases hf : f j
    · simp
    · simp only [if_true]
      by_cases hc : b < j ∧ dep b j = true
      · rw [if_pos hc] at hw
        rw [if_pos ⟨hc.1, by omega, hc.2⟩]
        omega
      · rw [if_neg hc] at hw
        rw [if_neg (fun h => hc ⟨h.1, h.2.2⟩)]
        omega
theorem left_out (f : Nat → Bool) (b A : Nat) : (List.range A).filter (outF f b) = ((List.range A).filter f).filter fun i => decide (i ≠ b) := by
  rw [List.filter_filter]
  congr 1
  funext i
  simp [outF, Bool.and_comm]
end
/-- A list of numbers turned at a place. -/
def upd (g : Nat → Int) (J : Nat) (n : Int) : Nat → Int := fun j => if j = J then n else g j
theorem upd_at (g : Nat → Int) (J : Nat) (n : Int) : upd g J n J = n := by simp [upd]
theorem upd_ne (g : Nat → Int) {J j : Nat} (n : Int) (h : j ≠ J) : upd g J n j = g j := by simp [upd, h]
end Go.Proofs.Ytcbpkagegdfidaa
