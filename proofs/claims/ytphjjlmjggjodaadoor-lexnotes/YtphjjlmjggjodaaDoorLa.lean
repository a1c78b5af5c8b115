/- lex.isBlank, isDigit, isOfWord; the document's word: what each answers of a byte. -/
import Derived.Test.YtphjjlmjggjodaaDoorNm
import Derived.Test.YtphjjlmjggjodaaDoorSj
set_option linter.unusedSimpArgs false
set_option linter.unusedVariables false
namespace Go.Proofs.YtphjjlmjggjodaaDoor
open Go.RowKit

theorem byte_eq (c : UInt8) (k : Nat) (hk : k < 256) : ((c.toNat : Int) == (k : Int)) = (c == UInt8.ofNat k) := by
  rw [Bool.eq_iff_iff, beq_iff_eq, beq_iff_eq]
  constructor
  · intro h
    have : c.toNat = k := by omega
    rw [← this]; simp
  · rintro rfl
    rw [UInt8.toNat_ofNat', Nat.mod_eq_of_lt (by simpa using hk)]
theorem byte_ne (c : UInt8) (k : Nat) (hk : k < 256) : ((c.toNat : Int) != (k : Int)) = (c != UInt8.ofNat k) := by
  show (!((c.toNat : Int) == (k : Int))) = !(c == UInt8.ofNat k)
  rw [byte_eq c k hk]

theorem dlo (k : Nat) (c : UInt8) : decide (k ≤ c.toNat) = decide ((k : Int) ≤ (c.toNat : Int)) := decide_eq_decide.2 (by omega)
theorem dhi (k : Nat) (c : UInt8) : decide (c.toNat ≤ k) = decide ((c.toNat : Int) ≤ (k : Int)) := decide_eq_decide.2 (by omega)
theorem isBlank_any (c : UInt8) (w : World) : Calls Tryd.prog 23 #[.int .u8 (c.toNat : Int)] w fun e w' => e = .returned (.bool (isBl c)) ∧ w = w' := by
  have e1 : ((c.toNat : Int) == 32) = (c == 32) := byte_eq c 32 (by decide)
  have e2 : ((c.toNat : Int) == 9) = (c == 9) := byte_eq c 9 (by decide)
  have e3 : ((c.toNat : Int) == 10) = (c == 10) := byte_eq c 10 (by decide)
  have hb : isBl c = (c == 32 || c == 9 || c == 10) := rfl
  rw [hb]
  clear hb
  cases h1 : (c == 32) <;> cases h2 : (c == 9) <;> cases h3 : (c == 10) <;> rw [h1] at e1 <;> rw [h2] at e2 <;> rw [h3] at e3 <;> clear h1 h2 h3
  all_goals
    go_enter Tryd.func23, Tryd.ntmps23
    go_wp2
    go_ret
    exact ⟨rfl, rfl⟩

theorem isDigit_any (c : UInt8) (w : World) : Calls Tryd.prog 24 #[.int .u8 (c.toNat : Int)] w fun e w' => e = .returned (.bool (isDi c)) ∧ w = w' := by
  have hb : isDi c = (decide ((48 : Int) ≤ (c.toNat : Int)) && decide ((c.toNat : Int) ≤ 57)) := by
    unfold isDi
    rw [Bool.eq_iff_iff]
    simp only [Bool.and_eq_true, decide_eq_true_eq]
    omega
  rw [hb]
  clear hb
  generalize (c.toNat : Int) = n
  cases h1 : decide ((48 : Int) ≤ n) <;> cases h2 : decide (n ≤ 57)
  all_goals
    go_enter Tryd.func24, Tryd.ntmps24
    go_wp2
    go_ret
    exact ⟨rfl, rfl⟩

set_option maxHeartbeats 1000000 in
theorem isOfWord_any (c : UInt8) (w : World) : Calls Tryd.prog 25 #[.int .u8 (c.toNat : Int)] w fun e w' => e = .returned (.bool (isWo c)) ∧ w = w' := by
  have hd := isDigit_any c
  have e1 : ((c.toNat : Int) == 95) = (c == 95) := byte_eq c 95 (by decide)
  have hb : isWo c = (decide ((97 : Int) ≤ (c.toNat : Int)) && decide ((c.toNat : Int) ≤ 122) || decide ((65 : Int) ≤ (c.toNat : Int)) && decide ((c.toNat : Int) ≤ 90) || c == 95 || isDi c) := by
    unfold isWo
    rw [dlo, dlo, dhi, dhi]
    rfl
  rw [hb]
  clear hb
  generalize (c.toNat : Int) = n at *
  generalize (c == 95) = b at *
  generalize isDi c = d at *
  cases h1 : decide ((97 : Int) ≤ n) <;> cases h2 : decide (n ≤ 122) <;> cases h3 : decide ((65 : Int) ≤ n) <;> cases h4 : decide (n ≤ 90) <;> cases b
  all_goals
    go_enter Tryd.func25, Tryd.ntmps25
    go_wp2_with (go_at_call 24; refine (hd _).mono ?_; rintro e w' ⟨rfl, rfl⟩)
    go_ret
    exact ⟨rfl, rfl⟩

/-- The document's word: may a byte stand in one, or begin one? -/
def isWf (c : UInt8) (first : Bool) : Bool := decide (97 ≤ c.toNat) && decide (c.toNat ≤ 122) || decide (65 ≤ c.toNat) && decide (c.toNat ≤ 90) || c == 95 || !first && isDi c
theorem wf_false (c : UInt8) : isWf c false = isWo c := by unfold isWf isWo; simp
theorem wf_true (c : UInt8) : isWf c true = (isWo c && !isDi c) := by
  unfold isWf
  simp only [Bool.not_true, Bool.false_and, Bool.or_false]
  cases hd : isDi c with
  | false => unfold isWo; rw [hd]; simp
  | true =>
    have h := (di_iff c).1 hd
    unfold isDg at h
    have h1 : decide (97 ≤ c.toNat) = false := decide_eq_false (by omega)
    have h2 : decide (65 ≤ c.toNat) = false := decide_eq_false (by omega)
    have h3 : (c == 95) = false := by
      rw [beq_eq_false_iff_ne]
      rintro rfl
      revert hd; decide
    rw [h1, h2, h3]
    simp
set_option maxHeartbeats 4000000 in
theorem word_any (c : UInt8) (f : Bool) (w : World) : Calls Tryd.prog 29 #[.int .u8 (c.toNat : Int), .bool f] w fun e w' => e = .returned (.bool (isWf c f)) ∧ w = w' := by
  have e1 : ((c.toNat : Int) == 95) = (c == 95) := byte_eq c 95 (by decide)
  have hb : isWf c f = (decide ((97 : Int) ≤ (c.toNat : Int)) && decide ((c.toNat : Int) ≤ 122) || decide ((65 : Int) ≤ (c.toNat : Int)) && decide ((c.toNat : Int) ≤ 90) || c == 95 || !f && (decide ((48 : Int) ≤ (c.toNat : Int)) && decide ((c.toNat : Int) ≤ 57))) := by
    unfold isWf isDi
    rw [dlo 97, dlo 65, dlo 48, dhi 122, dhi 90, dhi 57]
    rfl
  rw [hb]
  clear hb
  generalize (c.toNat : Int) = n at *
  generalize (c == 95) = b at *
  by_cases h1 : (decide ((97 : Int) ≤ n) && decide (n ≤ 122)) = true
  · obtain ⟨k1, k2⟩ := Bool.and_eq_true_iff.1 h1
    rw [h1]
    clear h1
    go_enter Tryd.func29, Tryd.ntmps29
    go_wp2
    go_ret
    exact ⟨rfl, rfl⟩
  · have hx : (decide ((97 : Int) ≤ n) && decide (n ≤ 122)) = false := by simpa using h1
    rw [hx]
    clear h1
    by_cases h2 : (decide ((65 : Int) ≤ n) && decide (n ≤ 90)) = true
    · obtain ⟨k1, k2⟩ := Bool.and_eq_true_iff.1 h2
      rw [h2]
      clear h2
      have k3 : decide ((97 : Int) ≤ n) = false := by
        simp only [decide_eq_true_eq, decide_eq_false_iff_not] at *; omega
      clear hx
      go_enter Tryd.func29, Tryd.ntmps29
      go_wp2
      go_ret
      exact ⟨rfl, rfl⟩
    · have hy : (decide ((65 : Int) ≤ n) && decide (n ≤ 90)) = false := by simpa using h2
      rw [hy]
      clear h2
      cases h1 : decide ((97 : Int) ≤ n) <;> cases h2 : decide (n ≤ 122) <;> cases h3 : decide ((65 : Int) ≤ n) <;> cases h4 : decide (n ≤ 90) <;> rw [h1, h2] at hx <;> rw [h3, h4] at hy <;> (try cases hx) <;> (try cases hy) <;> (try clear hx) <;> (try clear hy) <;> cases b <;> cases f <;> cases h5 : decide ((48 : Int) ≤ n) <;> cases h6 : decide (n ≤ 57)
      all_goals
        go_enter Tryd.func29, Tryd.ntmps29
        go_wp2
        go_ret
        exact ⟨rfl, rfl⟩
end Go.Proofs.YtphjjlmjggjodaaDoor
