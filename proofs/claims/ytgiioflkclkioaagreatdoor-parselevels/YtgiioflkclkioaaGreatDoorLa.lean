/- lex.isBlank, isDigit, isOfWord; the document's word: what each answers of a byte. -/
import Derived.Test.YtgiioflkclkioaaGreatDoorPt
import Derived.Test.YtgiioflkclkioaaGreatDoorLx
import Derived.Test.YtgiioflkclkioaaGreatDoorSj
set_option linter.unusedSimpArgs false
set_option linter.unusedVariables false
namespace Go.Proofs.YtgiioflkclkioaaGreatDoor
open Go.Lib

theorem di_iff (c : UInt8) : isDi c = true ↔ isDg c := by
  unfold isDi isDg
  simp only [Bool.and_eq_true, decide_eq_true_eq]
theorem val_snoc (l : List UInt8) (c : UInt8) : val (l ++ [c]) = 10 * val l + (c.toNat - 48) := by unfold val; rw [List.foldl_append]; rfl
theorem dec_one {u : Nat} (h : u < 10) : decDigits u = [UInt8.ofNat (48 + u)] := by rw [decDigits, dif_pos h]
theorem dec_more {u : Nat} (h : ¬ u < 10) : decDigits u = decDigits (u / 10) ++ [UInt8.ofNat (48 + u % 10)] := by rw [decDigits, dif_neg h]
theorem fold_pos (l : List UInt8) : ∀ x : Nat, 1 ≤ x → 1 ≤ l.foldl (fun x c => 10 * x + (c.toNat - 48)) x := by
  induction l with
  | nil => intro x h; exact h
  | cons c l ih => intro x h; exact ih _ (by show 1 ≤ 10 * x + (c.toNat - 48); omega)
theorem val_pos {c : UInt8} {r : List UInt8} (hc : isDg c) (h : c ≠ 48) : 1 ≤ val (c :: r) := by
  unfold val
  refine fold_pos r _ ?_
  unfold isDg at hc
  have : c.toNat ≠ 48 := fun e => h (UInt8.toNat_inj.1 (by rw [e]; rfl))
  show 1 ≤ 10 * 0 + (c.toNat - 48)
  omega
theorem dg_back {c : UInt8} (hc : isDg c) : UInt8.ofNat (48 + (c.toNat - 48)) = c := by
  unfold isDg at hc
  rw [show 48 + (c.toNat - 48) = c.toNat by omega]
  simp
/-- Digits without a nought ahead are their number's. -/
theorem dec_val (n : Nat) : ∀ l : List UInt8, l.length = n → l ≠ [] → (∀ b ∈ l, isDg b) → (l.length = 1 ∨ l.head? ≠ some 48) → decDigits (val l) = l := by
  induction n with
  | zero => intro l h hn; exact absurd (List.length_eq_zero_iff.1 h) hn
  | succ n ih =>
    intro l hl hn hd hh
    obtain ⟨m, c, rfl⟩ : ∃ m c, l = m ++ [c] := ⟨l.dropLast, l.getLast hn, (List.dropLast_concat_getLast hn).symm⟩
    have hc : isDg c := hd c (by simp)
    have hc' := hc
    unfold isDg at hc'
    rw [val_snoc]
    cases m with
    | nil =>
      have : val [] = 0 := rfl
      rw [this, dec_one (by omega)]
      simp only [Nat.mul_zero, Nat.zero_add, List.nil_append]
      rw [dg_back hc]
    | cons a m =>
      have ha : isDg a := hd a (by simp)
      have hne : a ≠ 48 := by
        rcases hh with h | h
        · simp at h
        · intro e; apply h; rw [e]; rfl
      have hp := val_pos (r := m) ha hne
      rw [dec_more (by omega), show (10 * val (a :: m) + (c.toNat - 48)) / 10 = val (a :: m) by omega, show (10 * val (a :: m) + (c.toNat - 48)) % 10 = c.toNat - 48 by omega, dg_back hc]
      rw [ih (a :: m) (by simp at hl ⊢; omega) (by simp) (fun b hb => hd b (List.mem_append_left _ hb)) (.inr (by intro e; simp at e; exact hne e))]
/-- A number's digits: no nought ahead, and it is theirs. -/
theorem dec_facts (u : Nat) : val (decDigits u) = u ∧ ((decDigits u).head? = some 48 → u = 0) := by
  induction u using Nat.strongRecOn with
  | _ u ih =>
    by_cases h : u < 10
    · rw [dec_one h]
      have hd := dig_nat u h
      refine ⟨?_, ?_⟩
      · unfold val
        simp only [List.foldl_cons, List.foldl_nil, hd]
        omega
      · intro e
        simp only [List.head?_cons, Option.some.injEq] at e
        rw [e] at hd
        have : (48 : UInt8).toNat = 48 := rfl
        omega
    · rw [dec_more h, val_snoc, dig_nat _ (by omega)]
      obtain ⟨i1, i2⟩ := ih (u / 10) (by omega)
      refine ⟨by rw [i1]; omega, ?_⟩
      intro e
      rw [List.head?_append] at e
      cases hq : decDigits (u / 10) with
      | nil => exact absurd hq (dec_ne _)
      | cons a m =>
        rw [hq] at e i2
        simp at e
        have := i2 (by rw [e]; rfl)
        omega
theorem dec_len (k : Nat) : ∀ u : Nat, u < 10 ^ (k + 1) → (decDigits u).length ≤ k + 1 := by
  induction k with
  | zero => intro u h; rw [dec_one (by simpa using h)]; simp
  | succ k ih =>
    intro u h
    by_cases h1 : u < 10
    · rw [dec_one h1]; simp
    · rw [dec_more h1]
      have := ih (u / 10) (by rw [Nat.pow_succ] at h; omega)
      simp
      omega

theorem tw_all (f : UInt8 → Bool) : ∀ l : List UInt8, ∀ b ∈ l.takeWhile f, f b = true
  | [], b, h => by simp at h
  | c :: r, b, h => by
    rw [List.takeWhile_cons] at h
    split at h
    · rename_i hc
      rcases List.mem_cons.1 h with rfl | h
      · exact hc
      · exact tw_all f r b h
    · simp at h
theorem digs_take (l : List UInt8) : l.take (dlen l) = l.takeWhile isDi := (tw_pre isDi l).symm
theorem digs_dg (l : List UInt8) : ∀ b ∈ l.take (dlen l), isDg b := by
  rw [digs_take]
  exact fun b hb => (di_iff b).1 (tw_all _ _ b hb)
/-- A number's text: its digits, and an i perhaps. -/
theorem num_text (l : List UInt8) : l.take (mlen l) = if mlen l = dlen l then l.take (dlen l) else l.take (dlen l) ++ [105] := by
  by_cases h : mlen l = dlen l
  · rw [if_pos h, h]
  · rw [if_neg h]
    unfold mlen at h ⊢
    split at h
    · rename_i hc
      rw [if_pos hc]
      obtain ⟨h1, h2⟩ := List.getElem?_eq_some_iff.1 hc
      rw [List.take_succ_eq_append_getElem h1, h2]
    · exact absurd rfl h

def nre (l : List UInt8) : Nat := if mlen l = dlen l then val (l.take (dlen l)) else 0
def nim (l : List UInt8) : Nat := if mlen l = dlen l then 0 else val (l.take (dlen l))
theorem itoa_nat (u : Nat) : itoa (u : Int) = decDigits u := by rw [itoa_pos' (by omega)]; simp

theorem head_take {c : UInt8} {r : List UInt8} (h : isDi c = true) : ((c :: r).take (dlen (c :: r))).head? = some c := by
  obtain ⟨j, e⟩ : ∃ j, dlen (c :: r) = j + 1 := ⟨dlen (c :: r) - 1, by have := dlen_pos (r := r) h; omega⟩
  rw [e]; rfl
theorem num_yes {c : UInt8} {r : List UInt8} (hc : isDi c = true) (h : okNum (c :: r) = true) :
    (c :: r).take (mlen (c :: r)) = txt (nre (c :: r) : Int) (nim (c :: r) : Int) ∧ nre (c :: r) ≤ 1048576 ∧ nim (c :: r) ≤ 1048576 := by
  unfold okNum at h
  simp only [Bool.and_eq_true, decide_eq_true_eq, Bool.or_eq_true, bne_iff_ne, ne_eq, List.head?_cons, Option.some.injEq] at h
  obtain ⟨⟨⟨h1, h2⟩, h3⟩, h4⟩ := h
  have hp := dlen_pos (r := r) hc
  have hle := dlen_le (c :: r)
  have hlen : ((c :: r).take (dlen (c :: r))).length = dlen (c :: r) := by rw [List.length_take]; omega
  have hdv : decDigits (val ((c :: r).take (dlen (c :: r)))) = (c :: r).take (dlen (c :: r)) := by
    refine dec_val _ _ rfl (by intro e; rw [e] at hlen; simp at hlen; omega) (digs_dg _) ?_
    rw [hlen, head_take hc]
    rcases h2 with h2 | h2
    · exact .inl h2
    · exact .inr (by simpa using h2)
  rw [num_text]
  unfold nre nim
  by_cases hm : mlen (c :: r) = dlen (c :: r)
  · simp only [if_pos hm]
    refine ⟨?_, h4, by omega⟩
    rw [show ((0 : Nat) : Int) = 0 from rfl, txt_real, itoa_nat, hdv]
  · simp only [if_neg hm]
    refine ⟨?_, by omega, h4⟩
    have h48 : c ≠ 48 := by
      rcases h3 with h3 | h3
      · exact absurd h3 hm
      · exact h3
    have hv : 1 ≤ val ((c :: r).take (dlen (c :: r))) := by
      obtain ⟨j, e⟩ : ∃ j, dlen (c :: r) = j + 1 := ⟨dlen (c :: r) - 1, by omega⟩
      rw [e, List.take_succ_cons]
      exact val_pos ((di_iff c).1 hc) h48
    rw [show ((0 : Nat) : Int) = 0 from rfl, txt_imag (by omega), itoa_nat, hdv]
theorem dg_not_min {b : UInt8} (h : isDg b) : b ≠ 45 := by rintro rfl; revert h; unfold isDg; decide
theorem num_no {c : UInt8} {r : List UInt8} (hc : isDi c = true) (h : okNum (c :: r) = false) (x y : Int) (hx : Bd 1048576 x) (hy : Bd 1048576 y) : (c :: r).take (mlen (c :: r)) ≠ txt x y := by
  intro e
  rw [Bool.eq_false_iff] at h
  apply h
  clear h
  have hp := dlen_pos (r := r) hc
  have hle := dlen_le (c :: r)
  have hlen : ((c :: r).take (dlen (c :: r))).length = dlen (c :: r) := by rw [List.length_take]; omega
  have hdg := digs_dg (c :: r)
  have hhd := head_take (r := r) hc
  rw [num_text] at e
  unfold okNum
  generalize hD : (c :: r).take (dlen (c :: r)) = D at *
  have key : ∀ z : Int, Bd 1048576 z → itoa z = D → 0 ≤ z ∧ dlen (c :: r) ≤ 7 ∧ (dlen (c :: r) = 1 ∨ c ≠ 48) ∧ val D ≤ 1048576 ∧ (z ≠ 0 → c ≠ 48) := by
    intro z hz ez
    unfold Bd at hz
    by_cases hn : z < 0
    · exfalso
      rw [itoa_neg' hn] at ez
      exact dg_not_min (hdg 45 (by rw [← ez]; simp)) rfl
    · rw [itoa_pos' hn] at ez
      obtain ⟨f1, f2⟩ := dec_facts z.toNat
      have hl7 := dec_len 6 z.toNat (by have : (10 : Nat) ^ (6 + 1) = 10000000 := by decide
                                        omega)
      rw [ez] at f1 f2 hl7
      rw [hhd] at f2
      refine ⟨by omega, by omega, ?_, by omega, ?_⟩
      · by_cases h48 : c = 48
        · left
          have := f2 (by rw [h48])
          rw [this, dec_one (by omega)] at ez
          rw [← hlen, ← ez]; rfl
        · exact .inr h48
      · intro h0 h48
        have := f2 (by rw [h48])
        omega
  simp only [Bool.and_eq_true, decide_eq_true_eq, Bool.or_eq_true, bne_iff_ne, ne_eq, List.head?_cons, Option.some.injEq]
  by_cases hm : mlen (c :: r) = dlen (c :: r)
  · rw [if_pos hm] at e
    have hno : ∀ b ∈ D, b ≠ 105 := fun b hb => dg_not_i (hdg b hb)
    by_cases h0 : y = 0
    · subst h0
      rw [txt_real] at e
      obtain ⟨_, k1, k2, k3, _⟩ := key x hx e.symm
      exact ⟨⟨⟨k1, k2⟩, .inl hm⟩, k3⟩
    · exfalso
      by_cases h1 : x = 0
      · subst h1
        rw [txt_imag h0] at e
        exact hno 105 (by rw [e]; simp) rfl
      · obtain ⟨s, u, _, _, e1, _⟩ := txt_both h1 h0 hy
        rw [e1] at e
        exact hno 105 (by rw [e]; simp) rfl
  · rw [if_neg hm] at e
    by_cases h0 : y = 0
    · exfalso
      subst h0
      rw [txt_real] at e
      exact itoa_not_i x 105 (by rw [← e]; simp) rfl
    · by_cases h1 : x = 0
      · subst h1
        rw [txt_imag h0] at e
        have e' := List.append_cancel_right e
        obtain ⟨_, k1, k2, k3, k4⟩ := key y hy e'.symm
        exact ⟨⟨⟨k1, k2⟩, .inr (k4 h0)⟩, k3⟩
      · exfalso
        obtain ⟨s, u, hs, _, e1, _⟩ := txt_both h1 h0 hy
        rw [e1] at e
        have e' := List.append_cancel_right e
        have := dg_nosg (hdg s (by rw [e']; simp))
        rw [this] at hs
        cases hs
end Go.Proofs.YtgiioflkclkioaaGreatDoor
set_option linter.unusedSimpArgs false
set_option linter.unusedVariables false
namespace Go.Proofs.YtgiioflkclkioaaGreatDoor
open Go.RowKit

theorem byte_eq (c : UInt8) (k : Nat) (hk : k < 256) : ((c.toNat : Int) == (k : Int)) = (c == UInt8.ofNat k) := by
  rw [Bool.eq_iff_iff, beq_iff_eq, beq_iff_eq]
  constructor
  · intro h
    have : c.toNat = k := by omega
    rw [← this]; simp
  · rintro rfl
    rw [UInt8.toNat_ofNat', Nat.mod_eq_of_lt (by simpa using hk)]
theorem byte_ne (c : UInt8) (k : Nat) (hk : k < 256) : ((c.toNat : Int) != (k : Int)) = (c != UInt8.ofNat k) := by
  show (!((c.toNat : Int) == (k : Int))) = !(c == UInt8.ofNat k)
  rw [byte_eq c k hk]

theorem dlo (k : Nat) (c : UInt8) : decide (k ≤ c.toNat) = decide ((k : Int) ≤ (c.toNat : Int)) := decide_eq_decide.2 (by omega)
theorem dhi (k : Nat) (c : UInt8) : decide (c.toNat ≤ k) = decide ((c.toNat : Int) ≤ (k : Int)) := decide_eq_decide.2 (by omega)
theorem isBlank_any (c : UInt8) (w : World) : Calls Tryz.prog 100 #[.int .u8 (c.toNat : Int)] w fun e w' => e = .returned (.bool (isBl c)) ∧ w = w' := by
  have e1 : ((c.toNat : Int) == 32) = (c == 32) := byte_eq c 32 (by decide)
  have e2 : ((c.toNat : Int) == 9) = (c == 9) := byte_eq c 9 (by decide)
  have e3 : ((c.toNat : Int) == 10) = (c == 10) := byte_eq c 10 (by decide)
  have hb : isBl c = (c == 32 || c == 9 || c == 10) := rfl
  rw [hb]
  clear hb
  cases h1 : (c == 32) <;> cases h2 : (c == 9) <;> cases h3 : (c == 10) <;> rw [h1] at e1 <;> rw [h2] at e2 <;> rw [h3] at e3 <;> clear h1 h2 h3
  all_goals
    go_enter Tryz.func100, Tryz.ntmps100
    go_wp2
    go_ret
    exact ⟨rfl, rfl⟩

theorem isDigit_any (c : UInt8) (w : World) : Calls Tryz.prog 101 #[.int .u8 (c.toNat : Int)] w fun e w' => e = .returned (.bool (isDi c)) ∧ w = w' := by
  have hb : isDi c = (decide ((48 : Int) ≤ (c.toNat : Int)) && decide ((c.toNat : Int) ≤ 57)) := by
    unfold isDi
    rw [Bool.eq_iff_iff]
    simp only [Bool.and_eq_true, decide_eq_true_eq]
    omega
  rw [hb]
  clear hb
  generalize (c.toNat : Int) = n
  cases h1 : decide ((48 : Int) ≤ n) <;> cases h2 : decide (n ≤ 57)
  all_goals
    go_enter Tryz.func101, Tryz.ntmps101
    go_wp2
    go_ret
    exact ⟨rfl, rfl⟩

set_option maxHeartbeats 1000000 in
theorem isOfWord_any (c : UInt8) (w : World) : Calls Tryz.prog 102 #[.int .u8 (c.toNat : Int)] w fun e w' => e = .returned (.bool (isWo c)) ∧ w = w' := by
  have hd := isDigit_any c
  have e1 : ((c.toNat : Int) == 95) = (c == 95) := byte_eq c 95 (by decide)
  have hb : isWo c = (decide ((97 : Int) ≤ (c.toNat : Int)) && decide ((c.toNat : Int) ≤ 122) || decide ((65 : Int) ≤ (c.toNat : Int)) && decide ((c.toNat : Int) ≤ 90) || c == 95 || isDi c) := by
    unfold isWo
    rw [dlo, dlo, dhi, dhi]
    rfl
  rw [hb]
  clear hb
  generalize (c.toNat : Int) = n at *
  generalize (c == 95) = b at *
  generalize isDi c = d at *
  cases h1 : decide ((97 : Int) ≤ n) <;> cases h2 : decide (n ≤ 122) <;> cases h3 : decide ((65 : Int) ≤ n) <;> cases h4 : decide (n ≤ 90) <;> cases b
  all_goals
    go_enter Tryz.func102, Tryz.ntmps102
    go_wp2_with (go_at_call 101; refine (hd _).mono ?_; rintro e w' ⟨rfl, rfl⟩)
    go_ret
    exact ⟨rfl, rfl⟩

/-- The document's word: may a byte stand in one, or begin one? -/
def isWf (c : UInt8) (first : Bool) : Bool := decide (97 ≤ c.toNat) && decide (c.toNat ≤ 122) || decide (65 ≤ c.toNat) && decide (c.toNat ≤ 90) || c == 95 || !first && isDi c
theorem wf_false (c : UInt8) : isWf c false = isWo c := by unfold isWf isWo; simp
theorem wf_true (c : UInt8) : isWf c true = (isWo c && !isDi c) := by
  unfold isWf
  simp only [Bool.not_true, Bool.false_and, Bool.or_false]
  cases hd : isDi c with
  | false => unfold isWo; rw [hd]; simp
  | true =>
    have h := (di_iff c).1 hd
    unfold isDg at h
    have h1 : decide (97 ≤ c.toNat) = false := decide_eq_false (by omega)
    have h2 : decide (65 ≤ c.toNat) = false := decide_eq_false (by omega)
    have h3 : (c == 95) = false := by
      rw [beq_eq_false_iff_ne]
      rintro rfl
      revert hd; decide
    rw [h1, h2, h3]
    simp
set_option maxHeartbeats 4000000 in
theorem word_any (c : UInt8) (f : Bool) (w : World) : Calls Tryz.prog 117 #[.int .u8 (c.toNat : Int), .bool f] w fun e w' => e = .returned (.bool (isWf c f)) ∧ w = w' := by
  have e1 : ((c.toNat : Int) == 95) = (c == 95) := byte_eq c 95 (by decide)
  have hb : isWf c f = (decide ((97 : Int) ≤ (c.toNat : Int)) && decide ((c.toNat : Int) ≤ 122) || decide ((65 : Int) ≤ (c.toNat : Int)) && decide ((c.toNat : Int) ≤ 90) || c == 95 || !f && (decide ((48 : Int) ≤ (c.toNat : Int)) && decide ((c.toNat : Int) ≤ 57))) := by
    unfold isWf isDi
    rw [dlo 97, dlo 65, dlo 48, dhi 122, dhi 90, dhi 57]
    rfl
  rw [hb]
  clear hb
  generalize (c.toNat : Int) = n at *
  generalize (c == 95) = b at *
  by_cases h1 : (decide ((97 : Int) ≤ n) && decide (n ≤ 122)) = true
  · obtain ⟨k1, k2⟩ := Bool.and_eq_true_iff.1 h1
    rw [h1]
    clear h1
    go_enter Tryz.func117, Tryz.ntmps117
    go_wp2
    go_ret
    exact ⟨rfl, rfl⟩
  · have hx : (decide ((97 : Int) ≤ n) && decide (n ≤ 122)) = false := by simpa using h1
    rw [hx]
    clear h1
    by_cases h2 : (decide ((65 : Int) ≤ n) && decide (n ≤ 90)) = true
    · obtain ⟨k1, k2⟩ := Bool.and_eq_true_iff.1 h2
      rw [h2]
      clear h2
      have k3 : decide ((97 : Int) ≤ n) = false := by
        simp only [decide_eq_true_eq, decide_eq_false_iff_not] at *; omega
      clear hx
      go_enter Tryz.func117, Tryz.ntmps117
      go_wp2
      go_ret
      exact ⟨rfl, rfl⟩
    · have hy : (decide ((65 : Int) ≤ n) && decide (n ≤ 90)) = false := by simpa using h2
      rw [hy]
      clear h2
      cases h1 : decide ((97 : Int) ≤ n) <;> cases h2 : decide (n ≤ 122) <;> cases h3 : decide ((65 : Int) ≤ n) <;> cases h4 : decide (n ≤ 90) <;> rw [h1, h2] at hx <;> rw [h3, h4] at hy <;> (try cases hx) <;> (try cases hy) <;> (try clear hx) <;> (try clear hy) <;> cases b <;> cases f <;> cases h5 : decide ((48 : Int) ≤ n) <;> cases h6 : decide (n ≤ 57)
      all_goals
        go_enter Tryz.func117, Tryz.ntmps117
        go_wp2
        go_ret
        exact ⟨rfl, rfl⟩
end Go.Proofs.YtgiioflkclkioaaGreatDoor
