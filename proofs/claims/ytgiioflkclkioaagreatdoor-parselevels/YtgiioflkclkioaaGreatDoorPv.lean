/- Split's tokens are as reading wants them: the end comes last; each text is of its kind. -/
import Derived.Test.YtgiioflkclkioaaGreatDoorPu
set_option linter.unusedSimpArgs false
set_option linter.unusedVariables false
namespace Go.Proofs.YtgiioflkclkioaaGreatDoor

theorem okNum_sm {l : List UInt8} (h : okNum l = true) : val (l.take (dlen l)) ≤ 1048576 := by
  unfold okNum at h
  simp only [Bool.and_eq_true, decide_eq_true_eq] at h
  exact h.2
theorem tok_one {c : UInt8} {r : List UInt8} {k n x y : Nat} (h : tok (c :: r) = .ok (k, n, x, y)) (q : Nat) (hl : (c :: r).length ≤ 16384) (hq : q ≤ 16384) : Tok1 ⟨k, (c :: r).take n, x, y, q⟩ := by
  have hf := tok_facts h
  have hne : (c :: r).take n ≠ [] := by
    obtain ⟨m, rfl⟩ : ∃ m, n = m + 1 := ⟨n - 1, by omega⟩
    simp
  have hhd : ∃ r', (c :: r).take n = c :: r' := by
    obtain ⟨m, rfl⟩ : ∃ m, n = m + 1 := ⟨n - 1, by omega⟩
    exact ⟨r.take m, by simp⟩
  obtain ⟨r', hr'⟩ := hhd
  have hln : ((c :: r).take n).length ≤ 16384 := by simp only [List.length_take]; omega
  unfold tok at h
  simp only at h
  by_cases hd : isDi c = true
  · rw [if_pos hd] at h
    by_cases hw : woAt (c :: r) (mlen (c :: r)) = true
    · rw [if_pos hw] at h; cases h
    · rw [if_neg hw] at h
      by_cases ho : okNum (c :: r) = true
      · rw [if_pos ho] at h
        have hv := okNum_sm ho
        injection h with h
        by_cases hm : mlen (c :: r) = dlen (c :: r)
        · rw [if_pos hm] at h
          simp only [Prod.mk.injEq] at h
          obtain ⟨rfl, rfl, rfl, rfl⟩ := h
          exact ⟨hne, hln, hq, hv, Nat.zero_le _, .inr rfl, .inr (.inl rfl), fun e => absurd rfl e, (fun e => by cases e), fun _ => ⟨c, r', hr', hd⟩, fun e => by cases e⟩
        · rw [if_neg hm] at h
          simp only [Prod.mk.injEq] at h
          obtain ⟨rfl, rfl, rfl, rfl⟩ := h
          exact ⟨hne, hln, hq, Nat.zero_le _, hv, .inl rfl, .inr (.inl rfl), fun e => absurd rfl e, (fun e => by cases e), fun _ => ⟨c, r', hr', hd⟩, fun e => by cases e⟩
      · rw [if_neg ho] at h; cases h
  · rw [if_neg hd] at h
    by_cases hw : isWo c = true
    · rw [if_pos hw] at h
      injection h with h
      simp only [Prod.mk.injEq] at h
      obtain ⟨rfl, rfl, rfl, rfl⟩ := h
      exact ⟨hne, hln, hq, Nat.zero_le _, Nat.zero_le _, .inl rfl, .inl rfl, fun _ => ⟨rfl, rfl⟩, fun _ => ⟨c, r', hr', hw, by simpa using hd⟩, (fun e => by cases e), fun e => by cases e⟩
    · rw [if_neg hw] at h
      by_cases h2 : (c :: r).take 2 = [61, 61] ∨ (c :: r).take 2 = [33, 61]
      · rw [if_pos h2] at h
        injection h with h
        simp only [Prod.mk.injEq] at h
        obtain ⟨rfl, rfl, rfl, rfl⟩ := h
        refine ⟨hne, hln, hq, Nat.zero_le _, Nat.zero_le _, .inl rfl, .inr (.inr rfl), fun _ => ⟨rfl, rfl⟩, (fun e => by cases e), (fun e => by cases e), fun _ => ?_⟩
        rcases h2 with h2 | h2
        · exact .inl h2
        · exact .inr (.inl h2)
      · rw [if_neg h2] at h
        by_cases hs : isSi c = true
        · rw [if_pos hs] at h
          injection h with h
          simp only [Prod.mk.injEq] at h
          obtain ⟨rfl, rfl, rfl, rfl⟩ := h
          exact ⟨hne, hln, hq, Nat.zero_le _, Nat.zero_le _, .inl rfl, .inr (.inr rfl), fun _ => ⟨rfl, rfl⟩, (fun e => by cases e), (fun e => by cases e), fun _ => .inr (.inr ⟨c, by simp, hs⟩)⟩
        · rw [if_neg hs] at h; cases h
theorem spl_okt (n : Nat) : ∀ (l : List UInt8) (p : Nat) (ts : List Tk), l.length ≤ n → p + l.length ≤ 16384 → spl l p = .ok ts → Okt ts ∧ ts.length ≤ l.length + 1 := by
  induction n with
  | zero =>
    intro l p ts hn hp h
    obtain rfl : l = [] := List.length_eq_zero_iff.1 (by omega)
    rw [spl_end (l := []) rfl] at h
    injection h with h
    subst h
    exact ⟨⟨rfl, by simpa [gap] using hp⟩, by simp⟩
  | succ n ih =>
    intro l p ts hn hp h
    have hg := gap_le l false
    cases hd : l.drop (gap false l) with
    | nil =>
      rw [spl_end hd] at h
      injection h with h
      subst h
      exact ⟨⟨rfl, by simp only; omega⟩, by simp⟩
    | cons c r =>
      have hl : (c :: r).length = l.length - gap false l := by rw [← hd]; simp
      cases ht : tok (c :: r) with
      | error e => rw [spl_err hd (by simp) ht] at h; cases h
      | ok t =>
        obtain ⟨k, m, u, v⟩ := t
        have hf := tok_facts ht
        rw [spl_tok hd (by simp) ht hf.1] at h
        have h1 := tok_one ht (p + gap false l) (by omega) (by omega)
        cases hs : spl ((c :: r).drop m) (p + gap false l + m) with
        | error e => rw [hs] at h; cases h
        | ok ts' =>
          rw [hs] at h
          injection h with h
          subst h
          have h2 := ih _ _ ts' (by simp only [List.length_drop]; omega) (by simp only [List.length_drop]; omega) hs
          obtain ⟨t', r', rfl⟩ := h2.1.ne
          refine ⟨⟨h1, h2.1⟩, ?_⟩
          have := h2.2
          simp only [List.length_drop, List.length_cons] at this ⊢
          simp only [List.length_cons] at hl hf
          omega
end Go.Proofs.YtgiioflkclkioaaGreatDoor
