/- Texts as tokens: the plain mathematics of chapter 3. No program is named here. -/
set_option linter.unusedSimpArgs false
set_option linter.unusedVariables false
namespace Go.Proofs.YtgiioflkclkioaaGreatDoor

def isBl (c : UInt8) : Bool := c == 32 || c == 9 || c == 10
def isDi (c : UInt8) : Bool := decide (48 ≤ c.toNat) && decide (c.toNat ≤ 57)
def isWo (c : UInt8) : Bool := decide (97 ≤ c.toNat) && decide (c.toNat ≤ 122) || decide (65 ≤ c.toNat) && decide (c.toNat ≤ 90) || c == 95 || isDi c
def isSi (c : UInt8) : Bool := [40, 41, 123, 125, 91, 93, 59, 44, 61, 33, 60, 43, 45, 42, 126, 35].contains c

/-- Of what is no token, how many bytes stand ahead; b: within a note? -/
def gap : Bool → List UInt8 → Nat
  | _, [] => 0
  | false, c :: r => if isBl c then gap false r + 1 else if c == 47 && r.head? == some 47 then gap true r + 1 else 0
  | true, c :: r => if c == 10 then gap false r + 1 else gap true r + 1

/-- Which number digits are. -/
def val (l : List UInt8) : Nat := l.foldl (fun x c => 10 * x + (c.toNat - 48)) 0
def dlen (l : List UInt8) : Nat := (l.takeWhile isDi).length
def wlen (l : List UInt8) : Nat := (l.takeWhile isWo).length
/-- Where a number ends that begins with digits: behind an i, if there is one. -/
def mlen (l : List UInt8) : Nat := if l[dlen l]? = some 105 then dlen l + 1 else dlen l
/-- Is a byte of a word there? -/
def woAt (l : List UInt8) (k : Nat) : Bool := match l[k]? with | some c => isWo c | none => false
/-- Digits, and an i perhaps, that are a number's text. -/
def okNum (l : List UInt8) : Bool :=
  decide (dlen l ≤ 7) && (decide (dlen l = 1) || l.head? != some 48) && (decide (mlen l = dlen l) || l.head? != some 48) && decide (val (l.take (dlen l)) ≤ 1048576)

/-- The token that a text begins with: kind, length, real part, imaginary part; or why there is none (1: its form, 6: its range). -/
def tok (l : List UInt8) : Except Nat (Nat × Nat × Nat × Nat) :=
  match l with
  | [] => .error 1
  | c :: _ =>
    if isDi c then
      if woAt l (mlen l) then .error 1
      else if okNum l then .ok (2, mlen l, if mlen l = dlen l then (val (l.take (dlen l)), 0) else (0, val (l.take (dlen l))))
      else .error 6
    else if isWo c then .ok (1, wlen l, 0, 0)
    else if l.take 2 = [61, 61] ∨ l.take 2 = [33, 61] then .ok (3, 2, 0, 0)
    else if isSi c then .ok (3, 1, 0, 0)
    else .error 1

structure Tk where
  kind : Nat
  text : List UInt8
  re : Nat
  im : Nat
  pos : Nat

/-- A text's tokens, from the place p on. -/
def spl (l : List UInt8) (p : Nat) : Except (Nat × Nat) (List Tk) :=
  match h : l.drop (gap false l) with
  | [] => .ok [⟨0, [], 0, 0, p + gap false l⟩]
  | c :: r =>
    match tok (c :: r) with
    | .error e => .error (p + gap false l, e)
    | .ok (k, n, x, y) =>
      match spl (r.drop (n - 1)) (p + gap false l + n) with
      | .error e => .error e
      | .ok ts => .ok (⟨k, (c :: r).take n, x, y, p + gap false l⟩ :: ts)
  termination_by l.length
  decreasing_by
    have h1 : (l.drop (gap false l)).length = r.length + 1 := by rw [h]; simp
    simp at h1 ⊢
    omega

theorem spl_end {l : List UInt8} {p : Nat} (h : l.drop (gap false l) = []) : spl l p = .ok [⟨0, [], 0, 0, p + gap false l⟩] := by
  rw [spl]
  split
  · rfl
  · rename_i h'; rw [h] at h'; cases h'
theorem spl_err {l m : List UInt8} {p e : Nat} (h : l.drop (gap false l) = m) (hm : m ≠ []) (ht : tok m = .error e) : spl l p = .error (p + gap false l, e) := by
  rw [spl]
  split
  · rename_i h'; rw [h] at h'; exact absurd h' hm
  · rename_i c r h'
    rw [h] at h'
    subst h'
    rw [ht]
theorem spl_tok {l m : List UInt8} {p k n x y : Nat} (h : l.drop (gap false l) = m) (hm : m ≠ []) (ht : tok m = .ok (k, n, x, y)) (hn : 1 ≤ n) :
    spl l p = match spl (m.drop n) (p + gap false l + n) with
      | .error e => .error e
      | .ok ts => .ok (⟨k, m.take n, x, y, p + gap false l⟩ :: ts) := by
  rw [spl]
  split
  · rename_i h'; rw [h] at h'; exact absurd h' hm
  · rename_i c r h'
    rw [h] at h'
    subst h'
    rw [ht]
    have e : r.drop (n - 1) = (c :: r).drop n := by
      obtain ⟨j, rfl⟩ : ∃ j, n = j + 1 := ⟨n - 1, by omega⟩
      simp
    simp only [e]

theorem gap_le : ∀ (l : List UInt8) (b : Bool), gap b l ≤ l.length
  | [], b => by cases b <;> simp [gap]
  | c :: r, false => by
    have h1 := gap_le r false
    have h2 := gap_le r true
    simp only [gap, List.length_cons]
    split
    · omega
    · split <;> omega
  | c :: r, true => by
    have h1 := gap_le r false
    have h2 := gap_le r true
    simp only [gap, List.length_cons]
    split <;> omega

/-- What stands behind the gap begins with no gap. -/
theorem gap_gap : ∀ (l : List UInt8) (b : Bool) (c : UInt8) (r : List UInt8), l.drop (gap b l) = c :: r → gap false (c :: r) = 0
  | [], b, c, r, h => by simp [gap] at h
  | d :: l, false, c, r, h => by
    unfold gap at h
    by_cases h1 : isBl d = true
    · rw [if_pos h1, List.drop_succ_cons] at h; exact gap_gap l _ _ _ h
    · rw [if_neg h1] at h
      by_cases h2 : (d == 47 && l.head? == some 47) = true
      · rw [if_pos h2, List.drop_succ_cons] at h; exact gap_gap l _ _ _ h
      · rw [if_neg h2, List.drop_zero] at h
        injection h with e1 e2
        subst e1 e2
        unfold gap
        rw [if_neg h1, if_neg h2]
  | d :: l, true, c, r, h => by
    unfold gap at h
    by_cases h1 : (d == 10) = true
    · rw [if_pos h1, List.drop_succ_cons] at h; exact gap_gap l _ _ _ h
    · rw [if_neg h1, List.drop_succ_cons] at h; exact gap_gap l _ _ _ h

theorem bl_facts {x : UInt8} (h : isBl x = true) : isDi x = false ∧ isWo x = false ∧ isSi x = false ∧ x ≠ 105 ∧ x ≠ 61 ∧ x ≠ 47 := by
  unfold isBl at h
  simp only [Bool.or_eq_true, beq_iff_eq] at h
  rcases h with (rfl | rfl) | rfl <;> decide

theorem drop_app {a Y : List UInt8} {n : Nat} {c : UInt8} {r : List UInt8} (h : a.drop n = c :: r) : (a ++ Y).drop n = c :: r ++ Y := by
  have hl : n ≤ a.length := by
    have : (a.drop n).length = r.length + 1 := by rw [h]; simp
    simp at this; omega
  rw [List.drop_append_of_le_length hl, h]

/-- A gap that ends within a text ends there if a blank follows the text, too; one that doesn't goes on. -/
theorem gap_app {x : UInt8} {Y : List UInt8} (hx : isBl x = true) : ∀ (a : List UInt8) (b : Bool), (x = 10 ∨ (b = false ∧ ∀ A B, a ≠ A ++ 47 :: 47 :: B)) →
    (∀ c r, a.drop (gap b a) = c :: r → gap b (a ++ x :: Y) = gap b a) ∧ (a.drop (gap b a) = [] → gap b (a ++ x :: Y) = a.length + gap false (x :: Y))
  | [], b, hb => by
    refine ⟨fun c r h => by simp [gap] at h, fun _ => ?_⟩
    cases b
    · simp
    · rcases hb with rfl | ⟨hb, _⟩
      · simp [gap, isBl]
      · cases hb
  | d :: a, false, hb => by
    have hbr : x = 10 ∨ ((false : Bool) = false ∧ ∀ A B, a ≠ A ++ 47 :: 47 :: B) := by
      rcases hb with hb | ⟨_, hb⟩
      · exact .inl hb
      · exact .inr ⟨rfl, fun A B e => hb (d :: A) B (by rw [e]; rfl)⟩
    by_cases h1 : isBl d = true
    · have ih := gap_app (x := x) (Y := Y) hx a false hbr
      have e1 : gap false (d :: a) = gap false a + 1 := by rw [gap, if_pos h1]
      have e2 : gap false (d :: a ++ x :: Y) = gap false (a ++ x :: Y) + 1 := by rw [List.cons_append, gap, if_pos h1]
      rw [e1, e2]
      simp only [List.drop_succ_cons, List.length_cons]
      exact ⟨fun c r h => by rw [ih.1 c r h], fun h => by rw [ih.2 h]; omega⟩
    · have hh : (d == 47 && (a ++ x :: Y).head? == some 47) = (d == 47 && a.head? == some 47) := by
        cases a with
        | nil =>
          have : x ≠ 47 := (bl_facts hx).2.2.2.2.2
          simp [this]
        | cons f g => rfl
      by_cases h2 : (d == 47 && a.head? == some 47) = true
      · rcases hb with hb | ⟨_, hb⟩
        · have ih := gap_app (x := x) (Y := Y) hx a true (.inl hb)
          have e1 : gap false (d :: a) = gap true a + 1 := by rw [gap, if_neg h1, if_pos h2]
          have e2 : gap false (d :: a ++ x :: Y) = gap true (a ++ x :: Y) + 1 := by rw [List.cons_append, gap, if_neg h1, hh, if_pos h2]
          rw [e1, e2]
          simp only [List.drop_succ_cons, List.length_cons]
          exact ⟨fun c r h => by rw [ih.1 c r h], fun h => by rw [ih.2 h]; omega⟩
        · exfalso
          simp only [Bool.and_eq_true, beq_iff_eq] at h2
          cases a with
          | nil => simp at h2
          | cons f g =>
            simp at h2
            exact hb [] g (by rw [h2.1, h2.2]; rfl)
      · have e1 : gap false (d :: a) = 0 := by rw [gap, if_neg h1, if_neg h2]
        have e2 : gap false (d :: a ++ x :: Y) = 0 := by rw [List.cons_append, gap, if_neg h1, hh, if_neg h2]
        rw [e1, e2]
        exact ⟨fun _ _ _ => rfl, fun h => by simp at h⟩
  | d :: a, true, hb => by
    have hx10 : x = 10 := by
      rcases hb with hb | ⟨hb, _⟩
      · exact hb
      · cases hb
    by_cases h1 : (d == 10) = true
    · have ih := gap_app (x := x) (Y := Y) hx a false (.inl hx10)
      have e1 : gap true (d :: a) = gap false a + 1 := by rw [gap, if_pos h1]
      have e2 : gap true (d :: a ++ x :: Y) = gap false (a ++ x :: Y) + 1 := by rw [List.cons_append, gap, if_pos h1]
      rw [e1, e2]
      simp only [List.drop_succ_cons, List.length_cons]
      exact ⟨fun c r h => by rw [ih.1 c r h], fun h => by rw [ih.2 h]; omega⟩
    · have ih := gap_app (x := x) (Y := Y) hx a true (.inl hx10)
      have e1 : gap true (d :: a) = gap true a + 1 := by rw [gap, if_neg h1]
      have e2 : gap true (d :: a ++ x :: Y) = gap true (a ++ x :: Y) + 1 := by rw [List.cons_append, gap, if_neg h1]
      rw [e1, e2]
      simp only [List.drop_succ_cons, List.length_cons]
      exact ⟨fun c r h => by rw [ih.1 c r h], fun h => by rw [ih.2 h]; omega⟩

/-- What of a text alone counts: as long as all of a kind stand, and what stops it. -/
theorem tw_app (f : UInt8 → Bool) {x : UInt8} (hx : f x = false) (Y : List UInt8) : ∀ l : List UInt8, (l ++ x :: Y).takeWhile f = l.takeWhile f
  | [] => by simp [List.takeWhile, hx]
  | c :: r => by
    simp only [List.cons_append, List.takeWhile_cons]
    split
    · rw [tw_app f hx Y r]
    · rfl
theorem tw_len (f : UInt8 → Bool) : ∀ l : List UInt8, (l.takeWhile f).length ≤ l.length
  | [] => by simp
  | c :: r => by
    rw [List.takeWhile_cons]
    split
    · simp; exact tw_len f r
    · simp
theorem tw_pre (f : UInt8 → Bool) : ∀ l : List UInt8, l.takeWhile f = l.take (l.takeWhile f).length
  | [] => by simp
  | c :: r => by
    rw [List.takeWhile_cons]
    split
    · simp; exact tw_pre f r
    · simp
theorem tw_take (f : UInt8 → Bool) : ∀ (l : List UInt8) (n : Nat), (l.takeWhile f).length ≤ n → (l.take n).takeWhile f = l.takeWhile f
  | [], n, h => by simp
  | c :: r, n, h => by
    rw [List.takeWhile_cons] at h ⊢
    split at h
    · rename_i hc
      cases n with
      | zero => simp at h
      | succ m =>
        simp at h
        rw [List.take_succ_cons, List.takeWhile_cons, if_pos hc, if_pos hc, tw_take f r m h]
    · rename_i hc
      rw [if_neg hc]
      cases n with
      | zero => simp
      | succ m => rw [List.take_succ_cons, List.takeWhile_cons, if_neg hc]
theorem dlen_le (l : List UInt8) : dlen l ≤ l.length := tw_len _ _
theorem wlen_le (l : List UInt8) : wlen l ≤ l.length := tw_len _ _
theorem mlen_le (l : List UInt8) : mlen l ≤ l.length := by
  unfold mlen
  split
  · rename_i h
    obtain ⟨h', _⟩ := List.getElem?_eq_some_iff.1 h
    omega
  · exact dlen_le l
theorem mlen_ge (l : List UInt8) : dlen l ≤ mlen l ∧ mlen l ≤ dlen l + 1 := by
  unfold mlen
  split <;> omega
theorem dlen_pos {c : UInt8} {r : List UInt8} (h : isDi c = true) : 1 ≤ dlen (c :: r) := by
  unfold dlen; rw [List.takeWhile_cons, if_pos h]; simp
theorem wlen_pos {c : UInt8} {r : List UInt8} (h : isWo c = true) : 1 ≤ wlen (c :: r) := by
  unfold wlen; rw [List.takeWhile_cons, if_pos h]; simp

theorem dlen_app {x : UInt8} (hx : isBl x = true) (Y : List UInt8) (l : List UInt8) : dlen (l ++ x :: Y) = dlen l := by unfold dlen; rw [tw_app _ (bl_facts hx).1]
theorem wlen_app {x : UInt8} (hx : isBl x = true) (Y : List UInt8) (l : List UInt8) : wlen (l ++ x :: Y) = wlen l := by unfold wlen; rw [tw_app _ (bl_facts hx).2.1]
theorem at_app {x : UInt8} (Y : List UInt8) (l : List UInt8) (k : Nat) (hk : k ≤ l.length) : (l ++ x :: Y)[k]? = if k < l.length then l[k]? else some x := by
  by_cases h : k < l.length
  · rw [if_pos h, List.getElem?_append_left h]
  · rw [if_neg h, List.getElem?_append_right (by omega), show k - l.length = 0 by omega]; rfl
theorem mlen_app {x : UInt8} (hx : isBl x = true) (Y : List UInt8) (l : List UInt8) : mlen (l ++ x :: Y) = mlen l := by
  unfold mlen
  rw [dlen_app hx Y, at_app Y l _ (dlen_le l)]
  by_cases h : dlen l < l.length
  · rw [if_pos h]
  · rw [if_neg h, if_neg (by simp [(bl_facts hx).2.2.2.1]), List.getElem?_eq_none (by omega), if_neg (by simp)]
theorem woAt_app {x : UInt8} (hx : isBl x = true) (Y : List UInt8) (l : List UInt8) (k : Nat) (hk : k ≤ l.length) : woAt (l ++ x :: Y) k = woAt l k := by
  unfold woAt
  rw [at_app Y l k hk]
  by_cases h : k < l.length
  · rw [if_pos h]
  · rw [if_neg h, List.getElem?_eq_none (by omega)]
    simp [(bl_facts hx).2.1]
theorem okNum_app {x : UInt8} (hx : isBl x = true) (Y : List UInt8) (c : UInt8) (r : List UInt8) : okNum (c :: r ++ x :: Y) = okNum (c :: r) := by
  unfold okNum
  rw [dlen_app hx Y, mlen_app hx Y, List.take_append_of_le_length (dlen_le _)]
  rfl
theorem two_app {x : UInt8} (hx : isBl x = true) (Y : List UInt8) (c : UInt8) (r : List UInt8) : ((c :: r ++ x :: Y).take 2 = [61, 61] ∨ (c :: r ++ x :: Y).take 2 = [33, 61]) ↔ ((c :: r).take 2 = [61, 61] ∨ (c :: r).take 2 = [33, 61]) := by
  cases r with
  | nil => simp [(bl_facts hx).2.2.2.2.1]
  | cons d s => simp
/-- A blank behind a text is no part of the token. -/
theorem tok_app {x : UInt8} (hx : isBl x = true) (Y : List UInt8) (c : UInt8) (r : List UInt8) : tok (c :: r ++ x :: Y) = tok (c :: r) := by
  have e : c :: r ++ x :: Y = c :: (r ++ x :: Y) := rfl
  have q1 := woAt_app hx Y (c :: r) (mlen (c :: r)) (mlen_le _)
  have q2 := mlen_app hx Y (c :: r)
  have q3 := okNum_app hx Y c r
  have q4 := dlen_app hx Y (c :: r)
  have q5 := wlen_app hx Y (c :: r)
  have q6 := two_app hx Y c r
  have q7 : (c :: r ++ x :: Y).take (dlen (c :: r)) = (c :: r).take (dlen (c :: r)) := List.take_append_of_le_length (dlen_le _)
  unfold tok
  rw [e] at q1 q2 q3 q4 q5 q6 q7 ⊢
  simp only [q1, q2, q3, q4, q5, q6, q7]
/-- What a token begins with is no blank, and no /; it is one byte long at least, and no longer than the text. -/
theorem tok_facts {c : UInt8} {r : List UInt8} {k n x y : Nat} (h : tok (c :: r) = .ok (k, n, x, y)) : 1 ≤ n ∧ n ≤ (c :: r).length ∧ isBl c = false ∧ c ≠ 47 ∧ k ≠ 0 ∧ k ≤ 3 := by
  unfold tok at h
  simp only at h
  have hb : isDi c = true ∨ isWo c = true ∨ c = 61 ∨ c = 33 ∨ isSi c = true → isBl c = false ∧ c ≠ 47 := by
    intro hc
    refine ⟨?_, ?_⟩
    · rw [Bool.eq_false_iff]
      intro hbl
      obtain ⟨b1, b2, b3, b4, b5, b6⟩ := bl_facts hbl
      rw [b1, b2, b3] at hc
      rcases hc with h | h | h | h | h
      · cases h
      · cases h
      · exact b5 h
      · rw [h] at hbl; revert hbl; decide
      · cases h
    · rintro rfl; revert hc; decide
  by_cases h1 : isDi c = true
  · rw [if_pos h1] at h
    split at h
    · cases h
    · split at h
      · injection h with h
        have e1 := congrArg (·.1) h
        have e2 := congrArg (·.2.1) h
        simp only at e1 e2
        subst e1 e2
        have := dlen_pos (r := r) h1
        have := mlen_ge (c :: r)
        exact ⟨by omega, mlen_le _, (hb (.inl h1)).1, (hb (.inl h1)).2, by omega, by omega⟩
      · cases h
  · rw [if_neg h1] at h
    by_cases h2 : isWo c = true
    · rw [if_pos h2] at h
      injection h with h
      simp only [Prod.mk.injEq] at h
      obtain ⟨rfl, rfl, _, _⟩ := h
      exact ⟨wlen_pos h2, wlen_le _, (hb (.inr (.inl h2))).1, (hb (.inr (.inl h2))).2, by omega, by omega⟩
    · rw [if_neg h2] at h
      split at h
      · rename_i h3
        injection h with h
        simp only [Prod.mk.injEq] at h
        obtain ⟨rfl, rfl, _, _⟩ := h
        have hc : c = 61 ∨ c = 33 := by
          rcases h3 with h3 | h3 <;> simp at h3 <;> simp [h3.1]
        have hl : 2 ≤ (c :: r).length := by
          rcases h3 with h3 | h3 <;> have := congrArg List.length h3 <;> simp at this ⊢ <;> omega
        have q := hb (by rcases hc with e | e <;> simp [e])
        exact ⟨by omega, hl, q.1, q.2, by omega, by omega⟩
      · split at h
        · rename_i h4
          injection h with h
          simp only [Prod.mk.injEq] at h
          obtain ⟨rfl, rfl, _, _⟩ := h
          have q := hb (.inr (.inr (.inr (.inr h4))))
          exact ⟨by omega, by simp, q.1, q.2, by omega, by omega⟩
        · cases h

/-- A token's text alone is the same token. -/
theorem tok_take {c : UInt8} {r : List UInt8} {k n x y : Nat} (h : tok (c :: r) = .ok (k, n, x, y)) : tok ((c :: r).take n) = .ok (k, n, x, y) := by
  have hf := tok_facts h
  obtain ⟨j, rfl⟩ : ∃ j, n = j + 1 := ⟨n - 1, by omega⟩
  rw [List.take_succ_cons]
  unfold tok at h ⊢
  simp only at h ⊢
  by_cases h1 : isDi c = true
  · rw [if_pos h1] at h ⊢
    split at h
    · cases h
    · rename_i hw
      split at h
      · rename_i ho
        injection h with h
        have e1 := congrArg (·.1) h
        have e2 := congrArg (·.2.1) h
        have e3 := congrArg (·.2.2) h
        simp only at e1 e2 e3
        have hm := mlen_ge (c :: r)
        have ed : dlen (c :: r.take j) = dlen (c :: r) := by
          have := tw_take isDi (c :: r) (j + 1) (by have : ((c :: r).takeWhile isDi).length = dlen (c :: r) := rfl; omega)
          rw [List.take_succ_cons] at this
          unfold dlen; rw [this]
        have em : mlen (c :: r.take j) = mlen (c :: r) := by
          unfold mlen
          rw [ed, ← List.take_succ_cons, List.getElem?_take]
          by_cases hlt : dlen (c :: r) < j + 1
          · rw [if_pos hlt]
          · rw [if_neg hlt]
            unfold mlen at e2
            split at e2
            · omega
            · rename_i hh; rw [if_neg hh, if_neg (by simp)]
        have ew : woAt (c :: r.take j) (mlen (c :: r)) = false := by
          unfold woAt
          rw [List.getElem?_eq_none (by rw [← List.take_succ_cons, List.length_take]; omega)]
        have et : (c :: r.take j).take (dlen (c :: r)) = (c :: r).take (dlen (c :: r)) := by
          rw [← List.take_succ_cons, List.take_take, Nat.min_eq_left (by omega)]
        have eo : okNum (c :: r.take j) = okNum (c :: r) := by
          unfold okNum
          rw [ed, em, et]
          rfl
        rw [em, ew, eo, ho, ed, et, if_neg (by simp), if_pos rfl, e3, ← e1, e2]
      · cases h
  · rw [if_neg h1] at h ⊢
    by_cases h2 : isWo c = true
    · rw [if_pos h2] at h ⊢
      injection h with h
      simp only [Prod.mk.injEq] at h
      obtain ⟨rfl, hj, rfl, rfl⟩ := h
      have := tw_take isWo (c :: r) (j + 1) (by have : ((c :: r).takeWhile isWo).length = wlen (c :: r) := rfl; omega)
      rw [List.take_succ_cons] at this
      have ew : wlen (c :: r.take j) = wlen (c :: r) := by unfold wlen; rw [this]
      rw [ew, hj]
    · rw [if_neg h2] at h ⊢
      split at h
      · rename_i h3
        injection h with h
        simp only [Prod.mk.injEq] at h
        obtain ⟨rfl, hj, rfl, rfl⟩ := h
        obtain rfl : j = 1 := by omega
        rw [← List.take_succ_cons, List.take_take]
        exact if_pos h3
      · rename_i h3
        split at h
        · rename_i h4
          injection h with h
          simp only [Prod.mk.injEq] at h
          obtain ⟨rfl, hj, rfl, rfl⟩ := h
          obtain rfl : j = 0 := by omega
          rw [if_neg (by simp), if_pos h4]
        · cases h

/-- The tokens but the last one, then others. -/
def cont (r : Except (Nat × Nat) (List Tk)) (s : Except (Nat × Nat) (List Tk)) : Except (Nat × Nat) (List Tk) :=
  match r with
  | .error e => .error e
  | .ok ts => match s with
    | .error e => .error e
    | .ok us => .ok (ts.dropLast ++ us)

theorem spl_ne {l : List UInt8} {p : Nat} {ts : List Tk} (h : spl l p = .ok ts) : ts ≠ [] := by
  rw [spl] at h
  split at h
  · injection h with h; rw [← h]; simp
  · split at h
    · cases h
    · split at h
      · cases h
      · injection h with h; rw [← h]; simp

/-- A gap ahead only moves the tokens' places. -/
theorem spl_skip {l m : List UInt8} {p n : Nat} (h1 : gap false l = n + gap false m) (h2 : l.drop n = m) : spl l p = spl m (p + n) := by
  have e : l.drop (gap false l) = m.drop (gap false m) := by rw [h1, ← h2, List.drop_drop]
  cases hm : m.drop (gap false m) with
  | nil => rw [spl_end (e.trans hm), spl_end hm, h1, Nat.add_assoc]
  | cons c r =>
    cases ht : tok (c :: r) with
    | error er => rw [spl_err (e.trans hm) (by simp) ht, spl_err hm (by simp) ht, h1, Nat.add_assoc]
    | ok t =>
      obtain ⟨k, n', x, y⟩ := t
      have hf := tok_facts ht
      rw [spl_tok (e.trans hm) (by simp) ht hf.1, spl_tok hm (by simp) ht hf.1, h1, ← Nat.add_assoc]
theorem spl_blank {x : UInt8} (hx : isBl x = true) (m : List UInt8) (p : Nat) : spl (x :: m) p = spl m (p + 1) :=
  spl_skip (n := 1) (by rw [gap, if_pos hx, Nat.add_comm]) rfl

/-- Two texts with a blank between: the tokens of the one, and of the other. A line feed ends a note; another blank serves where there is none. -/
theorem spl_join {x : UInt8} (hx : isBl x = true) (Y : List UInt8) (n : Nat) : ∀ (a : List UInt8) (p : Nat), a.length ≤ n → (x = 10 ∨ ∀ A B, a ≠ A ++ 47 :: 47 :: B) →
    spl (a ++ x :: Y) p = cont (spl a p) (spl (x :: Y) (p + a.length)) := by
  induction n with
  | zero =>
    intro a p hn hb
    obtain rfl : a = [] := List.length_eq_zero_iff.1 (by omega)
    rw [spl_end (l := []) rfl]
    unfold cont
    simp only [List.nil_append, List.length_nil, Nat.add_zero, List.dropLast_singleton]
    cases spl (x :: Y) p <;> rfl
  | succ n ih =>
    intro a p hn hb
    have hg := gap_app (Y := Y) hx a false (by
      rcases hb with h | h
      · exact .inl h
      · exact .inr ⟨rfl, h⟩)
    cases hd : a.drop (gap false a) with
    | nil =>
      have h2 := hg.2 hd
      have hs : spl (a ++ x :: Y) p = spl (x :: Y) (p + a.length) := spl_skip h2 (by simp)
      rw [hs, spl_end hd]
      unfold cont
      simp only [List.dropLast_singleton, List.nil_append]
      cases spl (x :: Y) (p + a.length) <;> rfl
    | cons c r =>
      have h1 := hg.1 c r hd
      have hdl : (a ++ x :: Y).drop (gap false (a ++ x :: Y)) = c :: r ++ x :: Y := by rw [h1]; exact drop_app hd
      have hl : (c :: r).length + gap false a = a.length := by
        have : (a.drop (gap false a)).length = (c :: r).length := by rw [hd]
        have := gap_le a false
        simp only [List.length_drop] at *
        omega
      cases ht : tok (c :: r) with
      | error e =>
        rw [spl_err hdl (by simp) ((tok_app hx Y c r).trans ht), spl_err hd (by simp) ht, h1]
        rfl
      | ok t =>
        obtain ⟨k, m, u, v⟩ := t
        have hf := tok_facts ht
        rw [spl_tok hdl (by simp) ((tok_app hx Y c r).trans ht) hf.1, spl_tok hd (by simp) ht hf.1, h1]
        have e1 : (c :: r ++ x :: Y).drop m = (c :: r).drop m ++ x :: Y := List.drop_append_of_le_length hf.2.1
        have e2 : (c :: r ++ x :: Y).take m = (c :: r).take m := List.take_append_of_le_length hf.2.1
        have hb' : x = 10 ∨ ∀ A B, (c :: r).drop m ≠ A ++ 47 :: 47 :: B := by
          rcases hb with h | h
          · exact .inl h
          · right
            intro A B e
            refine h (a.take (gap false a + m) ++ A) B ?_
            rw [List.append_assoc, ← e, ← hd, List.drop_drop, List.take_append_drop]
        have hi := ih ((c :: r).drop m) (p + gap false a + m) (by simp only [List.length_drop]; omega) hb'
        rw [e1, e2, hi, show p + gap false a + m + ((c :: r).drop m).length = p + a.length by simp only [List.length_drop]; omega]
        cases hs : spl ((c :: r).drop m) (p + gap false a + m) with
        | error e => rfl
        | ok ts =>
          unfold cont
          simp only
          cases spl (x :: Y) (p + a.length) with
          | error e => rfl
          | ok us =>
            simp only
            cases ts with
            | nil => exact absurd rfl (spl_ne hs)
            | cons t ts => simp [List.dropLast]

/-- Tokens, moved. -/
def mv (d : Nat) (t : Tk) : Tk := { t with pos := t.pos + d }
def mvs (d : Nat) : Except (Nat × Nat) (List Tk) → Except (Nat × Nat) (List Tk)
  | .error (q, e) => .error (q + d, e)
  | .ok ts => .ok (ts.map (mv d))
theorem spl_move (d n : Nat) : ∀ (l : List UInt8) (p : Nat), l.length ≤ n → spl l (p + d) = mvs d (spl l p) := by
  induction n with
  | zero =>
    intro l p hn
    obtain rfl : l = [] := List.length_eq_zero_iff.1 (by omega)
    rw [spl_end (l := []) rfl, spl_end (l := []) rfl]
    simp [mvs, mv, gap]
  | succ n ih =>
    intro l p hn
    have e1 : p + d + gap false l = p + gap false l + d := by omega
    cases hd : l.drop (gap false l) with
    | nil => rw [spl_end hd, spl_end hd, e1]; rfl
    | cons c r =>
      have hl : (c :: r).length ≤ l.length := by rw [← hd]; simp
      cases ht : tok (c :: r) with
      | error e => rw [spl_err hd (by simp) ht, spl_err hd (by simp) ht, e1]; rfl
      | ok t =>
        obtain ⟨k, m, u, v⟩ := t
        have hf := tok_facts ht
        rw [spl_tok hd (by simp) ht hf.1, spl_tok hd (by simp) ht hf.1]
        rw [show p + d + gap false l + m = p + gap false l + m + d by omega, ih _ _ (by simp only [List.length_drop]; omega), e1]
        cases spl ((c :: r).drop m) (p + gap false l + m) with
        | error e => rfl
        | ok ts => rfl

/-- A token but its place. -/
def core (t : Tk) : Nat × List UInt8 × Nat × Nat := (t.kind, t.text, t.re, t.im)
/-- The tokens' texts, a blank behind each. -/
def glue (ts : List Tk) : List UInt8 := ts.flatMap fun t => t.text ++ [32]
theorem spl_glue (n : Nat) : ∀ (l : List UInt8) (p q : Nat) (ts : List Tk), l.length ≤ n → spl l p = .ok ts → ∃ us, spl (glue ts) q = .ok us ∧ us.map core = ts.map core := by
  have base : ∀ (p q : Nat), ∃ us, spl (glue [⟨0, [], 0, 0, p⟩]) q = .ok us ∧ us.map core = [(⟨0, [], 0, 0, p⟩ : Tk)].map core := by
    intro p q
    refine ⟨_, spl_end (show (([32] : List UInt8)).drop (gap false [32]) = [] by decide), ?_⟩
    rfl
  induction n with
  | zero =>
    intro l p q ts hn h
    obtain rfl : l = [] := List.length_eq_zero_iff.1 (by omega)
    rw [spl_end (l := []) rfl] at h
    injection h with h
    subst h
    exact base _ _
  | succ n ih =>
    intro l p q ts hn h
    cases hd : l.drop (gap false l) with
    | nil =>
      rw [spl_end hd] at h
      injection h with h
      subst h
      exact base _ _
    | cons c r =>
      have hl : (c :: r).length ≤ l.length := by rw [← hd]; simp
      cases ht : tok (c :: r) with
      | error e => rw [spl_err hd (by simp) ht] at h; cases h
      | ok t =>
        obtain ⟨k, m, u, v⟩ := t
        have hf := tok_facts ht
        rw [spl_tok hd (by simp) ht hf.1] at h
        cases hs : spl ((c :: r).drop m) (p + gap false l + m) with
        | error e => rw [hs] at h; cases h
        | ok ts' =>
          rw [hs] at h
          injection h with h
          subst h
          obtain ⟨us, h1, h2⟩ := ih _ _ (q + m + 1) ts' (by simp only [List.length_drop]; omega) hs
          obtain ⟨j, rfl⟩ : ∃ j, m = j + 1 := ⟨m - 1, by omega⟩
          have eg : glue (⟨k, (c :: r).take (j + 1), u, v, p + gap false l⟩ :: ts') = c :: r.take j ++ 32 :: glue ts' := by
            unfold glue
            simp
          have g0 : gap false (c :: r.take j ++ 32 :: glue ts') = 0 := by
            rw [List.cons_append, gap, if_neg (by simp [hf.2.2.1]), if_neg (by simp [hf.2.2.2.1])]
          have htt : tok (c :: r.take j ++ 32 :: glue ts') = .ok (k, j + 1, u, v) := by
            rw [tok_app (by decide)]
            have := tok_take ht
            rwa [List.take_succ_cons] at this
          have hlen : (c :: r.take j).length = j + 1 := by
            have := hf.2.1
            simp only [List.length_cons, List.length_take] at *
            omega
          have hk := spl_tok (p := q) (l := c :: r.take j ++ 32 :: glue ts') (m := c :: r.take j ++ 32 :: glue ts') (by rw [g0, List.drop_zero]) (by simp) htt hf.1
          rw [g0, List.drop_left' hlen, List.take_left' hlen, spl_blank (by decide)] at hk
          simp only [Nat.add_zero] at hk
          rw [h1] at hk
          refine ⟨_, by rw [eg]; exact hk, ?_⟩
          simp only [List.map_cons, h2, core, List.take_succ_cons]

/-- Each token stands behind the one ahead, where it is told to; the end at the end. -/
def Places (s : List UInt8) : Nat → List Tk → Prop
  | _, [] => False
  | q, [t] => t.kind = 0 ∧ t.text = [] ∧ t.pos = s.length ∧ q ≤ t.pos
  | q, t :: u :: ts => q ≤ t.pos ∧ t.pos + t.text.length ≤ s.length ∧ (s.drop t.pos).take t.text.length = t.text ∧ t.kind ≠ 0 ∧ t.text ≠ [] ∧ Places s (t.pos + t.text.length) (u :: ts)
theorem spl_places (s : List UInt8) (n : Nat) : ∀ (l : List UInt8) (p : Nat), l.length ≤ n → p ≤ s.length → s.drop p = l →
    match spl l p with
    | .error (q, e) => q < s.length ∧ (e = 1 ∨ e = 6)
    | .ok ts => Places s p ts := by
  have base : ∀ (l : List UInt8) (p : Nat), p ≤ s.length → s.drop p = l → l.drop (gap false l) = [] → Places s p [⟨0, [], 0, 0, p + gap false l⟩] := by
    intro l p hp hs hd
    have h1 : l.length = s.length - p := by rw [← hs]; simp
    have h2 := gap_le l false
    have h3 : (l.drop (gap false l)).length = 0 := by rw [hd]; rfl
    simp only [List.length_drop] at h3
    exact ⟨rfl, rfl, by simp only; omega, by simp only; omega⟩
  induction n with
  | zero =>
    intro l p hn hp hs
    obtain rfl : l = [] := List.length_eq_zero_iff.1 (by omega)
    rw [spl_end (l := []) rfl]
    exact base _ _ hp hs rfl
  | succ n ih =>
    intro l p hn hp hs
    have h1 : l.length = s.length - p := by rw [← hs]; simp
    cases hd : l.drop (gap false l) with
    | nil => rw [spl_end hd]; exact base _ _ hp hs hd
    | cons c r =>
      have hl : (c :: r).length + gap false l = l.length := by
        have : (l.drop (gap false l)).length = (c :: r).length := by rw [hd]
        have := gap_le l false
        simp only [List.length_drop] at *
        omega
      have hl1 : 1 ≤ (c :: r).length := by simp
      have hsd : s.drop (p + gap false l) = c :: r := by rw [← List.drop_drop, hs, hd]
      cases ht : tok (c :: r) with
      | error e =>
        rw [spl_err hd (by simp) ht]
        refine ⟨by omega, ?_⟩
        unfold tok at ht
        simp only at ht
        repeat' split at ht
        all_goals first | (injection ht with ht; omega) | cases ht
      | ok t =>
        obtain ⟨k, m, u, v⟩ := t
        have hf := tok_facts ht
        rw [spl_tok hd (by simp) ht hf.1]
        have hi := ih ((c :: r).drop m) (p + gap false l + m) (by simp only [List.length_drop]; omega) (by omega) (by rw [← List.drop_drop, hsd])
        cases hq : spl ((c :: r).drop m) (p + gap false l + m) with
        | error e => rw [hq] at hi; exact hi
        | ok ts =>
          rw [hq] at hi
          simp only at hi ⊢
          have hlen : ((c :: r).take m).length = m := by rw [List.length_take]; omega
          cases ts with
          | nil => exact absurd rfl (spl_ne hq)
          | cons t ts =>
            unfold Places
            simp only [hlen]
            exact ⟨by omega, by omega, by rw [hsd], hf.2.2.2.2.1, by intro e; rw [e] at hlen; simp at hlen; omega, hi⟩

/-- Blanks alone: the end. -/
theorem gap_blanks (n : Nat) : gap false (List.replicate n 32) = n := by
  induction n with
  | zero => rfl
  | succ n ih => rw [List.replicate_succ, gap, if_pos (by decide), ih]
theorem spl_blanks (n p : Nat) : spl (List.replicate n 32) p = .ok [⟨0, [], 0, 0, p + n⟩] := by
  rw [spl_end (by rw [gap_blanks]; simp), gap_blanks]

/-- A note's gap. -/
theorem gap_note : ∀ (m : List UInt8) (b : List UInt8), (10 : UInt8) ∉ m → gap true (m ++ 10 :: b) = m.length + 1 + gap false b
  | [], b, h => by simp [gap]; omega
  | c :: m, b, h => by
    simp only [List.mem_cons, not_or] at h
    rw [List.cons_append, gap, if_neg (by simp [Ne.symm h.1]), gap_note m b h.2]
    simp
    omega
theorem spl_note (m b : List UInt8) (p : Nat) (h : (10 : UInt8) ∉ m) : spl (32 :: 47 :: 47 :: (m ++ 10 :: b)) p = spl b (p + (m.length + 4)) := by
  refine spl_skip ?_ ?_
  · have e1 : gap false (32 :: 47 :: 47 :: (m ++ 10 :: b)) = gap true (m ++ 10 :: b) + 1 + 1 + 1 := by
      rw [gap, if_pos (by decide), gap, if_neg (by decide), if_pos (by simp), gap, if_neg (by decide)]
    rw [e1, gap_note m b h]
    omega
  · rw [show m.length + 4 = (m.length + 1) + 1 + 1 + 1 by omega, List.drop_succ_cons, List.drop_succ_cons, List.drop_succ_cons, ← List.drop_drop, List.drop_left' rfl]
    rfl
end Go.Proofs.YtgiioflkclkioaaGreatDoor
