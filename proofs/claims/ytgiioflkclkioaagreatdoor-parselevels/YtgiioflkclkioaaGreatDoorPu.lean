/- Programs read of tokens: chapter 5's plain mathematics. No program is named here. -/
import Derived.Test.YtgiioflkclkioaaGreatDoorLx
import Derived.Test.YtgiioflkclkioaaGreatDoorTr
set_option linter.unusedSimpArgs false
set_option linter.unusedVariables false
namespace Go.Proofs.YtgiioflkclkioaaGreatDoor

/-- Statements as they are read, each with the place where it begins. -/
inductive Pt where
  | nil
  | cons (k : Nat) (rg nm : List UInt8) (ix : Bool) (xs : List Ex) (body els : Pt) (ps : Nat) (rest : Pt)
def Pt.len : Pt → Nat
  | .nil => 0
  | .cons _ _ _ _ _ _ _ _ r => r.len + 1
def Pt.app : Pt → Pt → Pt
  | .nil, m => m
  | .cons k rg nm ix xs b e p r, m => .cons k rg nm ix xs b e p (r.app m)
theorem Pt.app_nil (l : Pt) : l.app .nil = l := by
  induction l with
  | nil => rfl
  | cons k rg nm ix xs b e p r _ _ ih => simp [Pt.app, ih]
theorem Pt.app_assoc (a b c : Pt) : (a.app b).app c = a.app (b.app c) := by
  induction a with
  | nil => rfl
  | cons k rg nm ix xs b' e p r _ _ ih => simp [Pt.app, ih]
theorem Pt.len_app (a b : Pt) : (a.app b).len = a.len + b.len := by
  induction a with
  | nil => simp [Pt.app, Pt.len]
  | cons k rg nm ix xs b' e p r _ _ ih => simp [Pt.app, Pt.len, ih]; omega
/-- One statement alone. -/
structure St where
  k : Nat
  rg : List UInt8
  nm : List UInt8
  ix : Bool
  xs : List Ex
  body : Pt
  els : Pt
  ps : Nat
def St.pt (s : St) (r : Pt) : Pt := .cons s.k s.rg s.nm s.ix s.xs s.body s.els s.ps r
/-- A declaration as it is read. -/
structure Dp where
  so : Nat
  nm : List UInt8
  re : Int
  im : Int
  body : Pt
  ps : Nat

/-- What goes wrong: where, and why (1: form, 5: word, 9: kind, 10: deep). -/
abbrev Er := Nat × Nat
abbrev Rd (α : Type) := Except Er (α × List Tk)

def kindOf (s : List UInt8) : Option Nat := (List.range 17).find? fun k => k != 0 && word k == s
def sortOf (s : List UInt8) : Option Nat := (List.range 6).find? fun k => swd k == s
def elseW : List UInt8 := [101, 108, 115, 101]
def isNm (t : Tk) : Bool := t.kind == 1 && (kindOf t.text).isNone && (sortOf t.text).isNone && t.text != elseW
def opOne (s : List UInt8) : Option Nat := if s = [45] then some 0 else if s = [126] then some 1 else if s = [33] then some 2 else if s = [35] then some 3 else none
def opP (s : List UInt8) : Option Nat := if s = [42] then some 2 else none
def opS (s : List UInt8) : Option Nat := if s = [43] then some 0 else if s = [45] then some 1 else none
def opE (s : List UInt8) : Option Nat := if s = [61, 61] then some 3 else if s = [33, 61] then some 4 else if s = [60] then some 5 else none

def must (s : List UInt8) : List Tk → Except Er (List Tk)
  | [] => .error (0, 0)
  | t :: r => if t.text = s then .ok r else .error (t.pos, 1)
def nameP : List Tk → Rd (List UInt8)
  | [] => .error (0, 0)
  | t :: r => if isNm t then .ok (t.text, r) else .error (t.pos, 1)
def chainP (ops : List UInt8 → Option Nat) (p : List Tk → Rd Ex) : Nat → Ex → List Tk → Rd Ex
  | _, e, [] => .ok (e, [])
  | 0, e, ts => .ok (e, ts)
  | n + 1, e, t :: r =>
    match ops t.text with
    | none => .ok (e, t :: r)
    | some k =>
      match p r with
      | .error er => .error er
      | .ok (x, r') => chainP ops p n (.two k e x) r'
def prodP (one : List Tk → Rd Ex) (ts : List Tk) : Rd Ex :=
  match one ts with
  | .error er => .error er
  | .ok (e, r) => chainP opP one r.length e r
def sumP (one : List Tk → Rd Ex) (ts : List Tk) : Rd Ex :=
  match prodP one ts with
  | .error er => .error er
  | .ok (e, r) => chainP opS (prodP one) r.length e r
def exprP (one : List Tk → Rd Ex) (ts : List Tk) : Rd Ex :=
  match sumP one ts with
  | .error er => .error er
  | .ok (e, []) => .ok (e, [])
  | .ok (e, t :: r) =>
    match opE t.text with
    | none => .ok (e, t :: r)
    | some k =>
      match sumP one r with
      | .error er => .error er
      | .ok (x, r') => .ok (.two k e x, r')
def oneP : Nat → List Tk → Rd Ex
  | _, [] => .error (0, 0)
  | 0, _ => .error (0, 0)
  | f + 1, t :: r =>
    if t.kind = 2 then .ok (.num t.re t.im, r)
    else match opOne t.text with
      | some k =>
        match oneP f r with
        | .error er => .error er
        | .ok (x, r') => .ok (.one k x, r')
      | none =>
        if t.text = [40] then
          match exprP (oneP f) r with
          | .error er => .error er
          | .ok (x, r') =>
            match must [41] r' with
            | .error er => .error er
            | .ok r'' => .ok (x, r'')
        else if isNm t then .ok (.reg t.text, r) else .error (t.pos, 1)
def depth : Ex → Nat
  | .num _ _ => 1
  | .reg _ => 1
  | .one _ a => depth a + 1
  | .two _ a b => max (depth a) (depth b) + 1
def hpos : List Tk → Nat
  | [] => 0
  | t :: _ => t.pos
def wholeP (ts : List Tk) : Rd Ex :=
  match exprP (oneP ts.length) ts with
  | .error er => .error er
  | .ok (e, r) => if 12 < depth e then .error (hpos ts, 10) else .ok (e, r)
/-- Expressions, so many; a comma ahead of each, but of the first one, if there is no name. -/
def takesP (comma : Bool) : Nat → List Tk → Rd (List Ex)
  | 0, ts => .ok ([], ts)
  | n + 1, ts =>
    match (if comma then must [44] ts else .ok ts) with
    | .error er => .error er
    | .ok ts1 =>
      match wholeP ts1 with
      | .error er => .error er
      | .ok (e, r) =>
        match takesP true n r with
        | .error er => .error er
        | .ok (l, r') => .ok (e :: l, r')
def celled (k : Nat) : Bool := decide (1 ≤ k) && decide (k ≤ 5)
/-- An index, if there is one. -/
def indexP (k : Nat) : List Tk → Rd (Option Ex)
  | [] => .ok (none, [])
  | t :: r =>
    if celled k && decide (t.text = [91]) then
      match wholeP r with
      | .error er => .error er
      | .ok (e, r') =>
        match must [93] r' with
        | .error er => .error er
        | .ok r'' => .ok (some e, r'')
    else .ok (none, t :: r)
def argsP (k : Nat) (ts : List Tk) : Rd (List UInt8 × Bool × List Ex) :=
  match (if named k then nameP ts else .ok ([], ts)) with
  | .error er => .error er
  | .ok (nm, r) =>
    match indexP k r with
    | .error er => .error er
    | .ok (i, r1) =>
      match takesP (named k) (takes k) r1 with
      | .error er => .error er
      | .ok (l, r2) => .ok ((nm, i.isSome, i.toList ++ l), r2)
/-- A statement's kind and register. -/
def kindP : List Tk → Rd (Nat × List UInt8)
  | [] => .error (0, 0)
  | t :: r =>
    match kindOf t.text with
    | some k => if gives k then .error (hpos r, 9) else .ok ((k, []), r)
    | none =>
      match nameP (t :: r) with
      | .error er => .error er
      | .ok (rg, r1) =>
        match must [61] r1 with
        | .error er => .error er
        | .ok [] => .error (0, 0)
        | .ok (u :: r2) =>
          match kindOf u.text with
          | none => .ok ((0, rg), u :: r2)
          | some k => if gives k then .ok ((k, rg), r2) else .error (hpos r2, 9)
def blkP (d : Nat) (sts : List Tk → Rd Pt) : List Tk → Rd Pt
  | [] => .error (0, 0)
  | t :: r => if t.text = [123] then (if d = 12 then .error (t.pos, 10) else sts r) else .error (t.pos, 1)
def stP (blk : List Tk → Rd Pt) (ts : List Tk) : Rd St :=
  match kindP ts with
  | .error er => .error er
  | .ok ((k, rg), r) =>
    match argsP k r with
    | .error er => .error er
    | .ok ((nm, ix, xs), r1) =>
      if k < 15 then
        match must [59] r1 with
        | .error er => .error er
        | .ok r2 => .ok (⟨k, rg, nm, ix, xs, .nil, .nil, hpos ts⟩, r2)
      else
        match blk r1 with
        | .error er => .error er
        | .ok (b, []) => .ok (⟨k, rg, nm, ix, xs, b, .nil, hpos ts⟩, [])
        | .ok (b, t :: r2) =>
          if k = 15 ∧ t.text = elseW then
            match blk r2 with
            | .error er => .error er
            | .ok (e, r3) => .ok (⟨k, rg, nm, ix, xs, b, e, hpos ts⟩, r3)
          else .ok (⟨k, rg, nm, ix, xs, b, .nil, hpos ts⟩, t :: r2)
/-- Statements up to the bracket; d blocks are open. -/
def stsP : Nat → Nat → List Tk → Rd Pt
  | _, _, [] => .error (0, 0)
  | 0, _, _ => .error (0, 0)
  | f + 1, d, t :: r =>
    if t.text = [125] then .ok (.nil, r)
    else match stP (blkP d (stsP f (d + 1))) (t :: r) with
      | .error er => .error er
      | .ok (s, r1) =>
        match stsP f d r1 with
        | .error er => .error er
        | .ok (l, r2) => .ok (s.pt l, r2)
/-- A declaration's number. -/
def secondP : List Tk → Except Er (Nat × List Tk)
  | [] => .error (0, 0)
  | t :: r => if t.im = 0 then .error (t.pos, 1) else .ok (t.im, r)
def numP (ts : List Tk) : Rd (Int × Int) :=
  match (match ts with | t :: r => if t.text = [45] then (true, r) else (false, t :: r) | [] => (false, [])) with
  | (_, []) => .error (0, 0)
  | (neg, t :: r) =>
    if t.kind = 2 then
      if t.im ≠ 0 then .ok ((0, if neg then - (t.im : Int) else t.im), r)
      else
        let re : Int := if neg then - (t.re : Int) else t.re
        match r with
        | [] => .ok ((re, 0), [])
        | u :: r1 =>
          if u.text = [43] then
            match secondP r1 with
            | .error er => .error er
            | .ok (i, r2) => .ok ((re, (i : Int)), r2)
          else if u.text = [45] then
            match secondP r1 with
            | .error er => .error er
            | .ok (i, r2) => .ok ((re, - (i : Int)), r2)
          else .ok ((re, 0), u :: r1)
    else .error (t.pos, 1)
def declP : List Tk → Rd Dp
  | [] => .error (0, 0)
  | t :: r =>
    match sortOf t.text with
    | none => .error (t.pos, 5)
    | some so =>
      match (if so = 4 then .ok ([], r) else nameP r) with
      | .error er => .error er
      | .ok (nm, r1) =>
        if so = 5 then
          match blkP 0 (stsP r1.length 1) r1 with
          | .error er => .error er
          | .ok (b, r2) => .ok (⟨so, nm, 0, 0, b, t.pos⟩, r2)
        else
          match (if so = 2 then .ok ((0, 0), r1) else numP r1) with
          | .error er => .error er
          | .ok ((x, y), r2) =>
            match must [59] r2 with
            | .error er => .error er
            | .ok r3 => .ok (⟨so, nm, x, y, .nil, t.pos⟩, r3)
def progP : Nat → List Tk → Except Er (List Dp)
  | _, [] => .error (0, 0)
  | 0, _ => .error (0, 0)
  | f + 1, t :: r =>
    if t.kind = 0 then .ok []
    else match declP (t :: r) with
      | .error er => .error er
      | .ok (d, r1) =>
        match progP f r1 with
        | .error er => .error er
        | .ok l => .ok (d :: l)
/-- A text's program. -/
def parse (l : List UInt8) : Except Er (List Dp) :=
  match spl l 0 with
  | .error er => .error er
  | .ok ts => progP ts.length ts

/-! Tokens as Split makes them. -/
/-- A token that isn't the end. -/
structure Tok1 (t : Tk) : Prop where
  ne : t.text ≠ []
  len : t.text.length ≤ 16384
  pos : t.pos ≤ 16384
  re : t.re ≤ 1048576
  im : t.im ≤ 1048576
  one : t.re = 0 ∨ t.im = 0
  kind : t.kind = 1 ∨ t.kind = 2 ∨ t.kind = 3
  num : t.kind ≠ 2 → t.re = 0 ∧ t.im = 0
  wrd : t.kind = 1 → ∃ c r, t.text = c :: r ∧ isWo c = true ∧ isDi c = false
  dig : t.kind = 2 → ∃ c r, t.text = c :: r ∧ isDi c = true
  sig : t.kind = 3 → t.text = [61, 61] ∨ t.text = [33, 61] ∨ ∃ c, t.text = [c] ∧ isSi c = true
/-- Tokens, the end last. -/
def Okt : List Tk → Prop
  | [] => False
  | [t] => t = ⟨0, [], 0, 0, t.pos⟩ ∧ t.pos ≤ 16384
  | t :: r => Tok1 t ∧ Okt r
theorem Okt.end {t : Tk} {r : List Tk} (h : Okt (t :: r)) (hk : t.kind = 0) : r = [] := by
  cases r with
  | nil => rfl
  | cons u r => have := h.1.kind; omega
theorem Okt.tl {t : Tk} {r : List Tk} (h : Okt (t :: r)) (hk : t.text ≠ []) : Okt r ∧ Tok1 t ∧ r ≠ [] := by
  cases r with
  | nil => exfalso; apply hk; rw [h.1]
  | cons u r => exact ⟨h.2, h.1, by simp⟩
theorem Okt.tlk {t : Tk} {r : List Tk} (h : Okt (t :: r)) (hk : t.kind ≠ 0) : Okt r ∧ Tok1 t ∧ r ≠ [] := by
  cases r with
  | nil => exfalso; apply hk; rw [h.1]
  | cons u r => exact ⟨h.2, h.1, by simp⟩
theorem Okt.hd {t : Tk} {r : List Tk} (h : Okt (t :: r)) : t.text.length ≤ 16384 ∧ t.pos ≤ 16384 ∧ t.re ≤ 1048576 ∧ t.im ≤ 1048576 ∧ t.kind < 4 ∧ (t.kind = 0 ↔ t.text = []) ∧ (t.kind ≠ 2 → t.re = 0 ∧ t.im = 0) ∧ (t.re = 0 ∨ t.im = 0) := by
  cases r with
  | nil =>
    obtain ⟨h1, h2⟩ := h
    rw [h1]
    exact ⟨by simp, h2, by simp, by simp, by simp, by simp, by simp, by simp⟩
  | cons u r =>
    have h := h.1
    refine ⟨h.len, h.pos, h.re, h.im, by have := h.kind; omega, ?_, h.num, h.one⟩
    constructor
    · intro e; have := h.kind; omega
    · intro e; exact absurd e h.ne
theorem Okt.ne {ts : List Tk} (h : Okt ts) : ∃ t r, ts = t :: r := by
  cases ts with
  | nil => exact h.elim
  | cons t r => exact ⟨t, r, rfl⟩

/-! Whatever is read, tokens are left. -/
/-- What is read of tokens leaves some, fewer than there were. -/
def Eats {α : Type} (p : List Tk → Rd α) : Prop := ∀ ts x r, Okt ts → p ts = .ok (x, r) → Okt r ∧ r.length < ts.length
theorem isNm_ne {t : Tk} {r : List Tk} (h : Okt (t :: r)) (hn : isNm t = true) : t.text ≠ [] := by
  intro e
  have := (h.hd.2.2.2.2.2.1).2 e
  unfold isNm at hn
  rw [this] at hn
  simp at hn
theorem must_eats {s : List UInt8} (hs : s ≠ []) {ts r : List Tk} (h : Okt ts) (e : must s ts = .ok r) : Okt r ∧ r.length < ts.length := by
  obtain ⟨t, r', rfl⟩ := h.ne
  rw [must] at e
  split at e
  · rename_i ht
    injection e with e
    subst e
    exact ⟨(h.tl (by rw [ht]; exact hs)).1, by simp⟩
  · cases e
theorem nameP_eats : Eats nameP := by
  intro ts x r h e
  obtain ⟨t, r', rfl⟩ := h.ne
  rw [nameP] at e
  split at e
  · rename_i ht
    injection e with e
    injection e with e1 e2
    subst e2
    exact ⟨(h.tl (isNm_ne h ht)).1, by simp⟩
  · cases e
theorem opOne_ne {s : List UInt8} {k : Nat} (h : opOne s = some k) : s ≠ [] := by rintro rfl; simp [opOne] at h
theorem opP_ne {s : List UInt8} {k : Nat} (h : opP s = some k) : s ≠ [] := by rintro rfl; simp [opP] at h
theorem opS_ne {s : List UInt8} {k : Nat} (h : opS s = some k) : s ≠ [] := by rintro rfl; simp [opS] at h
theorem opE_ne {s : List UInt8} {k : Nat} (h : opE s = some k) : s ≠ [] := by rintro rfl; simp [opE] at h
theorem kindOf_ne {s : List UInt8} {k : Nat} (h : kindOf s = some k) : s ≠ [] := by
  rintro rfl
  have : kindOf [] = none := by decide
  rw [this] at h; cases h
theorem sortOf_ne {s : List UInt8} {k : Nat} (h : sortOf s = some k) : s ≠ [] := by
  rintro rfl
  have : sortOf [] = none := by decide
  rw [this] at h; cases h
theorem chainP_eats {ops : List UInt8 → Option Nat} (ho : ∀ s k, ops s = some k → s ≠ []) {p : List Tk → Rd Ex} (hp : Eats p) :
    ∀ (n : Nat) (e : Ex) (ts : List Tk) (x : Ex) (r : List Tk), Okt ts → chainP ops p n e ts = .ok (x, r) → Okt r ∧ r.length ≤ ts.length := by
  intro n
  induction n with
  | zero =>
    intro e ts x r h he
    obtain ⟨t, r', rfl⟩ := h.ne
    rw [chainP] at he
    · injection he with he; injection he with _ he; subst he; exact ⟨h, Nat.le_refl _⟩
    · simp
  | succ n ih =>
    intro e ts x r h he
    obtain ⟨t, r', rfl⟩ := h.ne
    rw [chainP] at he
    split at he
    · injection he with he; injection he with _ he; subst he; exact ⟨h, Nat.le_refl _⟩
    · rename_i k hk
      split at he
      · cases he
      · rename_i y r1 hy
        have h1 := hp _ _ _ (h.tl (ho _ _ hk)).1 hy
        have h2 := ih _ _ _ _ h1.1 he
        exact ⟨h2.1, by simp only [List.length_cons]; omega⟩
theorem prodP_eats {one : List Tk → Rd Ex} (hp : Eats one) : Eats (prodP one) := by
  intro ts x r h e
  unfold prodP at e
  split at e
  · cases e
  · rename_i y r1 hy
    have h1 := hp _ _ _ h hy
    have h2 := chainP_eats (fun _ _ => opP_ne) hp _ _ _ _ _ h1.1 e
    exact ⟨h2.1, by omega⟩
theorem sumP_eats {one : List Tk → Rd Ex} (hp : Eats one) : Eats (sumP one) := by
  intro ts x r h e
  unfold sumP at e
  split at e
  · cases e
  · rename_i y r1 hy
    have h1 := prodP_eats hp _ _ _ h hy
    have h2 := chainP_eats (fun _ _ => opS_ne) (prodP_eats hp) _ _ _ _ _ h1.1 e
    exact ⟨h2.1, by omega⟩
theorem exprP_eats {one : List Tk → Rd Ex} (hp : Eats one) : Eats (exprP one) := by
  intro ts x r h e
  unfold exprP at e
  split at e
  · cases e
  · rename_i y hy
    exact (sumP_eats hp _ _ _ h hy).1.elim
  · rename_i y t r1 hy
    have h1 := sumP_eats hp _ _ _ h hy
    split at e
    · injection e with e; injection e with _ e; subst e; exact h1
    · rename_i k hk
      split at e
      · cases e
      · rename_i z r2 hz
        injection e with e; injection e with _ e; subst e
        have h2 := sumP_eats hp _ _ _ (h1.1.tl (opE_ne hk)).1 hz
        exact ⟨h2.1, by have := h1.2; simp only [List.length_cons] at this; omega⟩
theorem oneP_eats : ∀ f, Eats (oneP f) := by
  intro f
  induction f with
  | zero =>
    intro ts x r h e
    obtain ⟨t, r', rfl⟩ := h.ne
    rw [oneP] at e
    · cases e
    · simp
  | succ f ih =>
    intro ts x r h e
    obtain ⟨t, r', rfl⟩ := h.ne
    rw [oneP] at e
    split at e
    · rename_i hk
      injection e with e; injection e with _ e; subst e
      exact ⟨(h.tlk (by omega)).1, by simp⟩
    · split at e
      · rename_i k hk
        split at e
        · cases e
        · rename_i y r1 hy
          injection e with e; injection e with _ e; subst e
          have h1 := ih _ _ _ (h.tl (opOne_ne hk)).1 hy
          exact ⟨h1.1, by simp only [List.length_cons]; omega⟩
      · split at e
        · rename_i ht
          split at e
          · cases e
          · rename_i y r1 hy
            split at e
            · cases e
            · rename_i r2 hr
              injection e with e; injection e with _ e; subst e
              have h1 := exprP_eats ih _ _ _ (h.tl (by rw [ht]; simp)).1 hy
              have h2 := must_eats (by simp) h1.1 hr
              exact ⟨h2.1, by simp only [List.length_cons]; omega⟩
        · split at e
          · rename_i hn
            injection e with e; injection e with _ e; subst e
            exact ⟨(h.tl (isNm_ne h hn)).1, by simp⟩
          · cases e
theorem wholeP_eats : Eats wholeP := by
  intro ts x r h e
  unfold wholeP at e
  split at e
  · cases e
  · rename_i y r1 hy
    split at e
    · cases e
    · injection e with e; injection e with _ e; subst e
      exact exprP_eats (oneP_eats _) _ _ _ h hy
theorem takesP_eats : ∀ (n : Nat) (c : Bool) (ts : List Tk) (l : List Ex) (r : List Tk), Okt ts → takesP c n ts = .ok (l, r) → Okt r ∧ r.length ≤ ts.length ∧ l.length = n := by
  intro n
  induction n with
  | zero =>
    intro c ts l r h e
    rw [takesP] at e
    injection e with e; injection e with e1 e2; subst e1 e2
    exact ⟨h, Nat.le_refl _, rfl⟩
  | succ n ih =>
    intro c ts l r h e
    rw [takesP] at e
    split at e
    · cases e
    · rename_i ts1 h1
      have hk : Okt ts1 ∧ ts1.length ≤ ts.length := by
        split at h1
        · have := must_eats (by simp) h h1; exact ⟨this.1, by omega⟩
        · injection h1 with h1; subst h1; exact ⟨h, Nat.le_refl _⟩
      split at e
      · cases e
      · rename_i x r1 hx
        have h2 := wholeP_eats _ _ _ hk.1 hx
        split at e
        · cases e
        · rename_i l' r2 hl
          injection e with e; injection e with e1 e2; subst e1 e2
          have h3 := ih _ _ _ _ h2.1 hl
          exact ⟨h3.1, by omega, by simp [h3.2.2]⟩
theorem indexP_eats (k : Nat) {ts r : List Tk} {i : Option Ex} (h : Okt ts) (e : indexP k ts = .ok (i, r)) : Okt r ∧ r.length ≤ ts.length := by
  obtain ⟨t, r', rfl⟩ := h.ne
  rw [indexP] at e
  split at e
  · rename_i ht
    simp only [Bool.and_eq_true, decide_eq_true_eq] at ht
    split at e
    · cases e
    · rename_i x r1 hx
      split at e
      · cases e
      · rename_i r2 hr
        injection e with e; injection e with _ e; subst e
        have h1 := wholeP_eats _ _ _ (h.tl (by rw [ht.2]; simp)).1 hx
        have h2 := must_eats (by simp) h1.1 hr
        exact ⟨h2.1, by simp only [List.length_cons]; omega⟩
  · injection e with e; injection e with _ e; subst e
    exact ⟨h, Nat.le_refl _⟩
theorem argsP_eats (k : Nat) {ts r : List Tk} {x : List UInt8 × Bool × List Ex} (h : Okt ts) (e : argsP k ts = .ok (x, r)) : Okt r ∧ r.length ≤ ts.length := by
  unfold argsP at e
  split at e
  · cases e
  · rename_i nm r0 h0
    have hk : Okt r0 ∧ r0.length ≤ ts.length := by
      split at h0
      · have := nameP_eats _ _ _ h h0; exact ⟨this.1, by omega⟩
      · injection h0 with h0; injection h0 with _ h0; subst h0; exact ⟨h, Nat.le_refl _⟩
    split at e
    · cases e
    · rename_i i r1 h1
      have hi := indexP_eats k hk.1 h1
      split at e
      · cases e
      · rename_i l r2 h2
        injection e with e; injection e with _ e; subst e
        have ht := takesP_eats _ _ _ _ _ hi.1 h2
        exact ⟨ht.1, by omega⟩
theorem kindP_eats : Eats kindP := by
  intro ts x r h e
  obtain ⟨t, r', rfl⟩ := h.ne
  rw [kindP] at e
  split at e
  · rename_i k hk
    split at e
    · cases e
    · injection e with e; injection e with _ e; subst e
      exact ⟨(h.tl (kindOf_ne hk)).1, by simp⟩
  · split at e
    · cases e
    · rename_i rg r1 h1
      have e1 := nameP_eats _ _ _ h h1
      split at e
      · cases e
      · rename_i r2 h2; cases e
      · rename_i u r2 h2
        have e2 := must_eats (by simp) e1.1 h2
        split at e
        · injection e with e; injection e with _ e; subst e
          exact ⟨e2.1, by omega⟩
        · rename_i k hk
          split at e
          · injection e with e; injection e with _ e; subst e
            refine ⟨(e2.1.tl (kindOf_ne hk)).1, ?_⟩
            have := e2.2; simp only [List.length_cons] at this ⊢; have := e1.2; simp only [List.length_cons] at this; omega
          · cases e
theorem blkP_eats {d : Nat} {sts : List Tk → Rd Pt} (hs : Eats sts) : Eats (blkP d sts) := by
  intro ts x r h e
  obtain ⟨t, r', rfl⟩ := h.ne
  rw [blkP] at e
  split at e
  · rename_i ht
    split at e
    · cases e
    · have := hs _ _ _ (h.tl (by rw [ht]; simp)).1 e
      exact ⟨this.1, by simp only [List.length_cons]; omega⟩
  · cases e
theorem stP_eats {blk : List Tk → Rd Pt} (hb : Eats blk) : Eats (stP blk) := by
  intro ts x r h e
  unfold stP at e
  split at e
  · cases e
  · rename_i k rg r0 h0
    have e0 := kindP_eats _ _ _ h h0
    split at e
    · cases e
    · rename_i nm ix xs r1 h1
      have e1 := argsP_eats k e0.1 h1
      split at e
      · split at e
        · cases e
        · rename_i r2 h2
          injection e with e; injection e with _ e; subst e
          have e2 := must_eats (by simp) e1.1 h2
          exact ⟨e2.1, by omega⟩
      · split at e
        · cases e
        · rename_i b h2
          exact (hb _ _ _ e1.1 h2).1.elim
        · rename_i b t r2 h2
          have e2 := hb _ _ _ e1.1 h2
          split at e
          · rename_i ht
            split at e
            · cases e
            · rename_i el r3 h3
              injection e with e; injection e with _ e; subst e
              have e3 := hb _ _ _ (e2.1.tl (by rw [ht.2]; simp [elseW])).1 h3
              exact ⟨e3.1, by have := e2.2; simp only [List.length_cons] at this; omega⟩
          · injection e with e; injection e with _ e; subst e
            exact ⟨e2.1, by omega⟩
theorem stsP_eats : ∀ (f d : Nat), Eats (stsP f d) := by
  intro f
  induction f with
  | zero =>
    intro d ts x r h e
    obtain ⟨t, r', rfl⟩ := h.ne
    rw [stsP] at e
    · cases e
    · simp
  | succ f ih =>
    intro d ts x r h e
    obtain ⟨t, r', rfl⟩ := h.ne
    rw [stsP] at e
    split at e
    · rename_i ht
      injection e with e; injection e with _ e; subst e
      exact ⟨(h.tl (by rw [ht]; simp)).1, by simp⟩
    · split at e
      · cases e
      · rename_i s r1 h1
        have e1 := stP_eats (blkP_eats (ih (d + 1))) _ _ _ h h1
        split at e
        · cases e
        · rename_i l r2 h2
          injection e with e; injection e with _ e; subst e
          have e2 := ih d _ _ _ e1.1 h2
          exact ⟨e2.1, by omega⟩
theorem secondP_eats : Eats secondP := by
  intro ts x r h e
  obtain ⟨t, r', rfl⟩ := h.ne
  rw [secondP] at e
  split at e
  · cases e
  · rename_i ht
    injection e with e; injection e with _ e; subst e
    refine ⟨(h.tlk ?_).1, by simp⟩
    intro hk
    have := (h.hd.2.2.2.2.2.2.1 (by omega)).2
    exact ht this
theorem numP_eats : Eats numP := by
  intro ts x r h e
  obtain ⟨t, r', rfl⟩ := h.ne
  have key : ∀ (neg : Bool) (us : List Tk), Okt us → us.length ≤ (t :: r').length → (match (neg, us) with
      | (_, []) => (.error (0, 0) : Rd (Int × Int))
      | (neg, t :: r) =>
        if t.kind = 2 then
          if t.im ≠ 0 then .ok ((0, if neg then - (t.im : Int) else t.im), r)
          else
            let re : Int := if neg then - (t.re : Int) else t.re
            match r with
            | [] => .ok ((re, 0), [])
            | u :: r1 =>
              if u.text = [43] then
                match secondP r1 with
                | .error er => .error er
                | .ok (i, r2) => .ok ((re, (i : Int)), r2)
              else if u.text = [45] then
                match secondP r1 with
                | .error er => .error er
                | .ok (i, r2) => .ok ((re, - (i : Int)), r2)
              else .ok ((re, 0), u :: r1)
        else .error (t.pos, 1)) = .ok (x, r) → Okt r ∧ r.length < (t :: r').length := by
    intro neg us hu hl e
    obtain ⟨v, vs, rfl⟩ := hu.ne
    simp only at e
    split at e
    · rename_i hk
      have hv := (hu.tlk (by omega)).1
      split at e
      · injection e with e; injection e with _ e; subst e
        exact ⟨hv, by simp only [List.length_cons] at hl ⊢; omega⟩
      · obtain ⟨u, r1, rfl⟩ := hv.ne
        simp only at e
        split at e
        · rename_i hu'
          split at e
          · cases e
          · rename_i i r2 hs
            injection e with e; injection e with _ e; subst e
            have := secondP_eats _ _ _ (hv.tl (by rw [hu']; simp)).1 hs
            exact ⟨this.1, by simp only [List.length_cons] at hl ⊢; omega⟩
        · split at e
          · rename_i hu'
            split at e
            · cases e
            · rename_i i r2 hs
              injection e with e; injection e with _ e; subst e
              have := secondP_eats _ _ _ (hv.tl (by rw [hu']; simp)).1 hs
              exact ⟨this.1, by simp only [List.length_cons] at hl ⊢; omega⟩
          · injection e with e; injection e with _ e; subst e
            exact ⟨hv, by simp only [List.length_cons] at hl ⊢; omega⟩
    · cases e
  unfold numP at e
  simp only at e
  by_cases ht : t.text = [45]
  · rw [if_pos ht] at e
    exact key true r' (h.tl (by rw [ht]; simp)).1 (by simp) e
  · rw [if_neg ht] at e
    exact key false (t :: r') h (Nat.le_refl _) e
theorem declP_eats : Eats declP := by
  intro ts x r h e
  obtain ⟨t, r', rfl⟩ := h.ne
  rw [declP] at e
  split at e
  · cases e
  · rename_i so hs
    have h0 := (h.tl (sortOf_ne hs)).1
    split at e
    · cases e
    · rename_i nm r1 h1
      have hk : Okt r1 ∧ r1.length ≤ r'.length := by
        split at h1
        · injection h1 with h1; injection h1 with _ h1; subst h1; exact ⟨h0, Nat.le_refl _⟩
        · have := nameP_eats _ _ _ h0 h1; exact ⟨this.1, by omega⟩
      split at e
      · split at e
        · cases e
        · rename_i b r2 h2
          injection e with e; injection e with _ e; subst e
          have := blkP_eats (stsP_eats _ _) _ _ _ hk.1 h2
          exact ⟨this.1, by simp only [List.length_cons]; omega⟩
      · split at e
        · cases e
        · rename_i a b r2 h2
          have hn : Okt r2 ∧ r2.length ≤ r1.length := by
            split at h2
            · injection h2 with h2; injection h2 with _ h2; subst h2; exact ⟨hk.1, Nat.le_refl _⟩
            · have := numP_eats _ _ _ hk.1 h2; exact ⟨this.1, by omega⟩
          split at e
          · cases e
          · rename_i r3 h3
            injection e with e; injection e with _ e; subst e
            have := must_eats (by simp) hn.1 h3
            exact ⟨this.1, by simp only [List.length_cons]; omega⟩
end Go.Proofs.YtgiioflkclkioaaGreatDoor
