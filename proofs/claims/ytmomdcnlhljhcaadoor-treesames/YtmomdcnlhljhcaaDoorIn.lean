/- Texts of right programs tell the programs apart: expressions, statements. -/
import Derived.Test.YtmomdcnlhljhcaaDoorWf
set_option linter.unusedSimpArgs false
set_option linter.unusedVariables false
namespace Go.Proofs.YtmomdcnlhljhcaaDoor
open Go.RowKit Ieee

/-- What stands behind an expression. -/
def Stp : List UInt8 → Prop
  | c :: _ => c = 32 ∨ c = 41 ∨ c = 44 ∨ c = 59 ∨ c = 93
  | [] => False
/-- A number's text, read: which one, and what is left. -/
def rdN (t : List UInt8) : Nat × Nat × List UInt8 :=
  match t with
  | [] => (0, 0, [])
  | a :: t1 =>
    match t1 with
    | [] => (0, 0, [])
    | b :: t2 =>
      if 48 ≤ b ∧ b ≤ 57 then
        match t2 with
        | [] => (0, 0, [])
        | c :: t3 => if c = 105 then (0, (a.toNat - 48) * 10 + (b.toNat - 48), t3) else ((a.toNat - 48) * 10 + (b.toNat - 48), 0, c :: t3)
      else if b = 105 then (0, a.toNat - 48, t2) else (a.toNat - 48, 0, b :: t2)
theorem itoa_small_at : ∀ m : Fin 17, Lib.itoa (m.val : Int) = (if m.val < 10 then [UInt8.ofNat (48 + m.val)] else [49, UInt8.ofNat (38 + m.val)]) := by decide +kernel
theorem rdN_re : ∀ (m : Fin 17) (c : UInt8) (r : List UInt8), (c = 32 ∨ c = 41 ∨ c = 44 ∨ c = 59 ∨ c = 93) → rdN (numT m.val 0 ++ c :: r) = (m.val, 0, c :: r) := by
  intro m c r hc
  have h1 : ¬ (48 ≤ c ∧ c ≤ 57) := by rcases hc with rfl | rfl | rfl | rfl | rfl <;> decide
  have h2 : ¬ c = 105 := by rcases hc with rfl | rfl | rfl | rfl | rfl <;> decide
  unfold numT
  rw [if_pos rfl, itoa_small_at m]
  match m with
  | ⟨0, _⟩ => simp [rdN, h1, h2]
  | ⟨1, _⟩ => simp [rdN, h1, h2]
  | ⟨2, _⟩ => simp [rdN, h1, h2]
  | ⟨3, _⟩ => simp [rdN, h1, h2]
  | ⟨4, _⟩ => simp [rdN, h1, h2]
  | ⟨5, _⟩ => simp [rdN, h1, h2]
  | ⟨6, _⟩ => simp [rdN, h1, h2]
  | ⟨7, _⟩ => simp [rdN, h1, h2]
  | ⟨8, _⟩ => simp [rdN, h1, h2]
  | ⟨9, _⟩ => simp [rdN, h1, h2]
  | ⟨10, _⟩ => simp [rdN, h1, h2]
  | ⟨11, _⟩ => simp [rdN, h1, h2]
  | ⟨12, _⟩ => simp [rdN, h1, h2]
  | ⟨13, _⟩ => simp [rdN, h1, h2]
  | ⟨14, _⟩ => simp [rdN, h1, h2]
  | ⟨15, _⟩ => simp [rdN, h1, h2]
  | ⟨16, _⟩ => simp [rdN, h1, h2]
  | ⟨m + 17, h⟩ => exact absurd h (by omega)
theorem rdN_im : ∀ (m : Fin 17) (r : List UInt8), m.val ≠ 0 → rdN (numT 0 m.val ++ r) = (0, m.val, r) := by
  intro m r hm
  unfold numT
  rw [if_neg hm, itoa_small_at m]
  match m with
  | ⟨0, _⟩ => exact absurd rfl hm
  | ⟨1, _⟩ => simp [rdN]
  | ⟨2, _⟩ => simp [rdN]
  | ⟨3, _⟩ => simp [rdN]
  | ⟨4, _⟩ => simp [rdN]
  | ⟨5, _⟩ => simp [rdN]
  | ⟨6, _⟩ => simp [rdN]
  | ⟨7, _⟩ => simp [rdN]
  | ⟨8, _⟩ => simp [rdN]
  | ⟨9, _⟩ => simp [rdN]
  | ⟨10, _⟩ => simp [rdN]
  | ⟨11, _⟩ => simp [rdN]
  | ⟨12, _⟩ => simp [rdN]
  | ⟨13, _⟩ => simp [rdN]
  | ⟨14, _⟩ => simp [rdN]
  | ⟨15, _⟩ => simp [rdN]
  | ⟨16, _⟩ => simp [rdN]
  | ⟨m + 17, h⟩ => exact absurd h (by omega)
theorem rdN_num {re im : Nat} (h : Wx (.num re im)) {r : List UInt8} (hr : Stp r) : rdN (ext (.num re im) ++ r) = (re, im, r) := by
  obtain ⟨h0, h1, h2⟩ := h
  cases r with
  | nil => exact absurd hr id
  | cons c r =>
    rcases h0 with rfl | rfl
    · by_cases hi : im = 0
      · subst hi; exact rdN_re ⟨0, by omega⟩ c r hr
      · exact rdN_im ⟨im, by omega⟩ (c :: r) hi
    · exact rdN_re ⟨re, by omega⟩ c r hr
/-- Which kind an expression is, by its first bytes. -/
def kE (t : List UInt8) : Nat :=
  match t with
  | [] => 0
  | a :: t1 =>
    if a = 40 then
      match t1 with
      | [] => 0
      | b :: _ => if b = 45 then 10 else if b = 126 then 11 else if b = 33 then 12 else if b = 35 then 13 else 2
    else if a = 97 ∨ a = 98 ∨ a = 99 then 1 else 0
theorem num_head {re im : Nat} (h : Wx (.num re im)) : ∃ a t, ext (.num re im) = a :: t ∧ 48 ≤ a ∧ a ≤ 57 := by
  obtain ⟨h0, h1, h2⟩ := h
  show ∃ a t, numT re im = a :: t ∧ 48 ≤ a ∧ a ≤ 57
  have key : ∀ m : Fin 17, ∃ a t, Lib.itoa (m.val : Int) = a :: t ∧ 48 ≤ a ∧ a ≤ 57 := by
    intro m
    rw [itoa_small_at m]
    split
    · exact ⟨_, _, rfl, by revert m; decide, by revert m; decide⟩
    · exact ⟨49, _, rfl, by decide, by decide⟩
  unfold numT
  split
  · exact key ⟨re, by omega⟩
  · obtain ⟨a, t, h3, h4⟩ := key ⟨im, by omega⟩
    exact ⟨a, t ++ [105], by rw [h3]; rfl, h4⟩
def kd : Ex → Nat
  | .num _ _ => 0
  | .reg _ => 1
  | .one k _ => 10 + k
  | .two _ _ _ => 2
theorem dig_ne {a : UInt8} (h0 : 48 ≤ a) (h1 : a ≤ 57) : a ≠ 40 ∧ a ≠ 45 ∧ a ≠ 126 ∧ a ≠ 33 ∧ a ≠ 35 ∧ a ≠ 97 ∧ a ≠ 98 ∧ a ≠ 99 := by
  refine ⟨?_, ?_, ?_, ?_, ?_, ?_, ?_, ?_⟩ <;> (intro e; subst e; revert h0 h1; decide)
/-- An expression's first byte. -/
theorem ext_head (a : Ex) (h : Wx a) : ∃ c t, ext a = c :: t ∧ ((48 ≤ c ∧ c ≤ 57) ∨ c = 97 ∨ c = 98 ∨ c = 99 ∨ c = 40) := by
  cases a with
  | num re im => obtain ⟨c, t, h1, h2⟩ := num_head h; exact ⟨c, t, h1, .inl h2⟩
  | reg r => exact ⟨r, [], rfl, .inr (by rcases h with h | h | h <;> simp [h])⟩
  | one k a => exact ⟨40, _, rfl, .inr (.inr (.inr (.inr rfl)))⟩
  | two k a b => exact ⟨40, _, rfl, .inr (.inr (.inr (.inr rfl)))⟩
theorem kE_ext (a : Ex) (h : Wx a) (r : List UInt8) : kE (ext a ++ r) = kd a := by
  cases a with
  | num re im =>
    obtain ⟨c, t, h1, h2, h3⟩ := num_head h
    obtain ⟨n1, _, _, _, _, n2, n3, n4⟩ := dig_ne h2 h3
    rw [h1]
    simp [kE, kd, n1, n2, n3, n4]
  | reg c => rcases h with rfl | rfl | rfl <;> simp [kE, kd, ext]
  | one k a =>
    obtain ⟨hk, _⟩ := h
    have : k = 0 ∨ k = 1 ∨ k = 2 ∨ k = 3 := by omega
    rcases this with rfl | rfl | rfl | rfl <;> simp [kE, kd, ext, sg1]
  | two k a b =>
    obtain ⟨c, t, h1, h2⟩ := ext_head a h.2.1
    have hn : c ≠ 45 ∧ c ≠ 126 ∧ c ≠ 33 ∧ c ≠ 35 := by
      rcases h2 with ⟨h2, h3⟩ | rfl | rfl | rfl | rfl
      · have := dig_ne h2 h3; exact ⟨this.2.1, this.2.2.1, this.2.2.2.1, this.2.2.2.2.1⟩
      all_goals decide
    simp [kE, kd, ext, h1, hn.1, hn.2.1, hn.2.2.1, hn.2.2.2]
theorem op2_inj {k k' : Nat} (h : k < 6) (h' : k' < 6) {r s : List UInt8} (he : op2 k ++ 32 :: r = op2 k' ++ 32 :: s) : k = k' ∧ r = s := by
  have c1 : k = 0 ∨ k = 1 ∨ k = 2 ∨ k = 3 ∨ k = 4 ∨ k = 5 := by omega
  have c2 : k' = 0 ∨ k' = 1 ∨ k' = 2 ∨ k' = 3 ∨ k' = 4 ∨ k' = 5 := by omega
  rcases c1 with rfl | rfl | rfl | rfl | rfl | rfl <;> rcases c2 with rfl | rfl | rfl | rfl | rfl | rfl <;> simp [op2] at he <;> simp [he]
theorem stp32 (r : List UInt8) : Stp (32 :: r) := Or.inl rfl
theorem stp41 (r : List UInt8) : Stp (41 :: r) := Or.inr (Or.inl rfl)
theorem stp44 (r : List UInt8) : Stp (44 :: r) := Or.inr (Or.inr (Or.inl rfl))
theorem stp59 (r : List UInt8) : Stp (59 :: r) := Or.inr (Or.inr (Or.inr (Or.inl rfl)))
theorem stp93 (r : List UInt8) : Stp (93 :: r) := Or.inr (Or.inr (Or.inr (Or.inr rfl)))
theorem ext_inj (a : Ex) : ∀ (b : Ex) (r s : List UInt8), Wx a → Wx b → Stp r → Stp s → ext a ++ r = ext b ++ s → a = b ∧ r = s := by
  induction a with
  | num re im =>
    intro b r s ha hb hr hs he
    have hk := congrArg kE he
    rw [kE_ext _ ha, kE_ext _ hb] at hk
    cases b with
    | num re' im' =>
      have := congrArg rdN he
      rw [rdN_num ha hr, rdN_num hb hs] at this
      simp only [Prod.mk.injEq] at this
      exact ⟨by rw [this.1, this.2.1], this.2.2⟩
    | reg _ => simp [kd] at hk
    | one k _ => simp only [kd] at hk; omega
    | two _ _ _ => simp [kd] at hk
  | reg c =>
    intro b r s ha hb hr hs he
    have hk := congrArg kE he
    rw [kE_ext _ ha, kE_ext _ hb] at hk
    cases b with
    | num _ _ => simp [kd] at hk
    | reg c' =>
      simp only [ext, List.cons_append, List.nil_append, List.cons.injEq] at he
      exact ⟨by rw [he.1], he.2⟩
    | one k _ => simp only [kd] at hk; omega
    | two _ _ _ => simp [kd] at hk
  | one k a ih =>
    intro b r s ha hb hr hs he
    have hk := congrArg kE he
    rw [kE_ext _ ha, kE_ext _ hb] at hk
    cases b with
    | num _ _ => simp only [kd] at hk; omega
    | reg _ => simp only [kd] at hk; omega
    | one k' b =>
      have : k = k' := by simp only [kd] at hk; omega
      subst this
      simp only [ext, List.append_assoc, List.cons_append, List.nil_append, List.cons.injEq, true_and] at he
      obtain ⟨h1, h2⟩ := ih b _ _ ha.2 hb.2 (stp41 _) (stp41 _) he
      simp only [List.cons.injEq, true_and] at h2
      exact ⟨by rw [h1], h2⟩
    | two _ _ _ => simp only [kd] at hk; omega
  | two k a1 a2 ih1 ih2 =>
    intro b r s ha hb hr hs he
    have hk := congrArg kE he
    rw [kE_ext _ ha, kE_ext _ hb] at hk
    cases b with
    | num _ _ => simp [kd] at hk
    | reg _ => simp [kd] at hk
    | one k' _ => simp only [kd] at hk; omega
    | two k' b1 b2 =>
      simp only [ext, List.append_assoc, List.cons_append, List.nil_append, List.cons.injEq, true_and] at he
      obtain ⟨h1, h2⟩ := ih1 b1 _ _ ha.2.1 hb.2.1 (stp32 _) (stp32 _) he
      simp only [List.cons.injEq, true_and] at h2
      obtain ⟨h3, h4⟩ := op2_inj ha.1 hb.1 h2
      obtain ⟨h5, h6⟩ := ih2 b2 _ _ ha.2.2 hb.2.2 (stp41 _) (stp41 _) h4
      simp only [List.cons.injEq, true_and] at h6
      exact ⟨by rw [h1, h3, h5], h6⟩
end Go.Proofs.YtmomdcnlhljhcaaDoor
