/- Two signs between three registers, read plainly: the texts of layer 5's ParseLevels, and their trees. -/
import Derived.Test.YtgiioflkclkioaaGreatDoorPu
set_option linter.unusedSimpArgs false
set_option linter.unusedVariables false
namespace Go.Proofs.YtgiioflkclkioaaGreatDoor
/-- Split, one token a step, so that it is reckoned by the kernel. -/
def splF : Nat → List UInt8 → Nat → Except (Nat × Nat) (List Tk)
  | 0, _, _ => .error (0, 0)
  | f + 1, l, p =>
    match l.drop (gap false l) with
    | [] => .ok [⟨0, [], 0, 0, p + gap false l⟩]
    | c :: r =>
      match tok (c :: r) with
      | .error e => .error (p + gap false l, e)
      | .ok (k, n, x, y) =>
        match splF f ((c :: r).drop n) (p + gap false l + n) with
        | .error e => .error e
        | .ok ts => .ok (⟨k, (c :: r).take n, x, y, p + gap false l⟩ :: ts)
theorem splF_eq : ∀ (f : Nat) (l : List UInt8) (p : Nat), l.length < f → splF f l p = spl l p := by
  intro f
  induction f with
  | zero => intro l p h; omega
  | succ f ih =>
    intro l p h
    rw [splF]
    cases hd : l.drop (gap false l) with
    | nil => rw [spl_end hd]
    | cons c r =>
      simp only
      have hl : (c :: r).length ≤ l.length := by rw [← hd]; simp
      cases ht : tok (c :: r) with
      | error e => rw [spl_err hd (by simp) ht]
      | ok t =>
        obtain ⟨k, n, x, y⟩ := t
        have hf := tok_facts ht
        simp only
        rw [spl_tok hd (by simp) ht hf.1, ih _ _ (by simp only [List.length_drop]; omega)]
        cases spl ((c :: r).drop n) (p + gap false l + n) <;> rfl
theorem parse_of (l : List UInt8) (R : Except Er (List Dp)) (h : (match splF (l.length + 1) l 0 with | .error er => (.error er : Except Er (List Dp)) | .ok ts => progP ts.length ts) = R) : parse l = R := by
  rw [splF_eq _ _ _ (by omega)] at h
  exact h
def txtA : List UInt8 := [99, 101, 108, 108, 32, 120, 32, 49, 45, 50, 105, 59, 32, 116, 104, 114, 101, 97, 100, 32, 116, 32, 123, 32, 97, 32, 61, 32, 108, 111, 97, 100, 32, 120, 59, 32, 125]
theorem awake_a : parse txtA = .ok [⟨0, [120], 1, -2, .nil, 0⟩, ⟨5, [116], 0, 0, .cons 1 [97] [120] false [] .nil .nil 24 .nil, 13⟩] := parse_of _ _ rfl
theorem awake_b : parse [120] = .error (0, 5) := parse_of _ _ rfl
end Go.Proofs.YtgiioflkclkioaaGreatDoor
set_option linter.unusedSimpArgs false
set_option linter.unusedVariables false
namespace Go.Proofs.YtgiioflkclkioaaGreatDoor
def lvl : Nat → Nat
  | 0 => 1
  | 1 => 1
  | 2 => 2
  | _ => 0
def lvT (e : List UInt8) : List UInt8 := [116, 104, 114, 101, 97, 100, 32, 116, 32, 123, 32, 114, 32, 61, 32] ++ e ++ [59, 32, 125]
def lvE (i k : Nat) : List UInt8 := [120, 32] ++ op2 i ++ [32, 121, 32] ++ op2 k ++ [32, 122]
def lvL (i k : Nat) : List UInt8 := [40, 120, 32] ++ op2 i ++ [32, 121, 41, 32] ++ op2 k ++ [32, 122]
def lvR (i k : Nat) : List UInt8 := [120, 32] ++ op2 i ++ [32, 40, 121, 32] ++ op2 k ++ [32, 122, 41]
def lvX (i k : Nat) : Ex := if lvl i < lvl k then .two i (.reg [120]) (.two k (.reg [121]) (.reg [122])) else .two k (.two i (.reg [120]) (.reg [121])) (.reg [122])
def lvD (i k : Nat) : List Dp := [⟨5, [116], 0, 0, .cons 0 [114] [] false [lvX i k] .nil .nil 11 .nil, 0⟩]
def lvA (i k : Nat) : Except Er (List Dp) := if lvl i = 0 ∧ lvl k = 0 then .error (15 + 2 + (op2 i).length + 3, 1) else .ok (lvD i k)
def lvB (i k : Nat) : Except Er (List Dp) := .ok (lvD i k)
theorem lv_a (i k : Nat) (hi : i < 6) (hk : k < 6) : parse (lvT (lvE i k)) = lvA i k := by
  match i, hi with
  | 0, _ => match k, hk with | 0, _ => exact parse_of _ _ rfl | 1, _ => exact parse_of _ _ rfl | 2, _ => exact parse_of _ _ rfl | 3, _ => exact parse_of _ _ rfl | 4, _ => exact parse_of _ _ rfl | 5, _ => exact parse_of _ _ rfl
  | 1, _ => match k, hk with | 0, _ => exact parse_of _ _ rfl | 1, _ => exact parse_of _ _ rfl | 2, _ => exact parse_of _ _ rfl | 3, _ => exact parse_of _ _ rfl | 4, _ => exact parse_of _ _ rfl | 5, _ => exact parse_of _ _ rfl
  | 2, _ => match k, hk with | 0, _ => exact parse_of _ _ rfl | 1, _ => exact parse_of _ _ rfl | 2, _ => exact parse_of _ _ rfl | 3, _ => exact parse_of _ _ rfl | 4, _ => exact parse_of _ _ rfl | 5, _ => exact parse_of _ _ rfl
  | 3, _ => match k, hk with | 0, _ => exact parse_of _ _ rfl | 1, _ => exact parse_of _ _ rfl | 2, _ => exact parse_of _ _ rfl | 3, _ => exact parse_of _ _ rfl | 4, _ => exact parse_of _ _ rfl | 5, _ => exact parse_of _ _ rfl
  | 4, _ => match k, hk with | 0, _ => exact parse_of _ _ rfl | 1, _ => exact parse_of _ _ rfl | 2, _ => exact parse_of _ _ rfl | 3, _ => exact parse_of _ _ rfl | 4, _ => exact parse_of _ _ rfl | 5, _ => exact parse_of _ _ rfl
  | 5, _ => match k, hk with | 0, _ => exact parse_of _ _ rfl | 1, _ => exact parse_of _ _ rfl | 2, _ => exact parse_of _ _ rfl | 3, _ => exact parse_of _ _ rfl | 4, _ => exact parse_of _ _ rfl | 5, _ => exact parse_of _ _ rfl
theorem lv_l (i k : Nat) (hi : i < 6) (hk : k < 6) (h : ¬ (lvl i = 0 ∧ lvl k = 0)) (h2 : ¬ lvl i < lvl k) : parse (lvT (lvL i k)) = lvB i k := by
  match i, hi with
  | 0, _ => match k, hk with | 0, _ => exact parse_of _ _ rfl | 1, _ => exact parse_of _ _ rfl | 2, _ => exact absurd (by decide) h2 | 3, _ => exact parse_of _ _ rfl | 4, _ => exact parse_of _ _ rfl | 5, _ => exact parse_of _ _ rfl
  | 1, _ => match k, hk with | 0, _ => exact parse_of _ _ rfl | 1, _ => exact parse_of _ _ rfl | 2, _ => exact absurd (by decide) h2 | 3, _ => exact parse_of _ _ rfl | 4, _ => exact parse_of _ _ rfl | 5, _ => exact parse_of _ _ rfl
  | 2, _ => match k, hk with | 0, _ => exact parse_of _ _ rfl | 1, _ => exact parse_of _ _ rfl | 2, _ => exact parse_of _ _ rfl | 3, _ => exact parse_of _ _ rfl | 4, _ => exact parse_of _ _ rfl | 5, _ => exact parse_of _ _ rfl
  | 3, _ => match k, hk with | 0, _ => exact absurd (by decide) h2 | 1, _ => exact absurd (by decide) h2 | 2, _ => exact absurd (by decide) h2 | 3, _ => exact absurd (by decide) h | 4, _ => exact absurd (by decide) h | 5, _ => exact absurd (by decide) h
  | 4, _ => match k, hk with | 0, _ => exact absurd (by decide) h2 | 1, _ => exact absurd (by decide) h2 | 2, _ => exact absurd (by decide) h2 | 3, _ => exact absurd (by decide) h | 4, _ => exact absurd (by decide) h | 5, _ => exact absurd (by decide) h
  | 5, _ => match k, hk with | 0, _ => exact absurd (by decide) h2 | 1, _ => exact absurd (by decide) h2 | 2, _ => exact absurd (by decide) h2 | 3, _ => exact absurd (by decide) h | 4, _ => exact absurd (by decide) h | 5, _ => exact absurd (by decide) h
theorem lv_r (i k : Nat) (hi : i < 6) (hk : k < 6) (h2 : lvl i < lvl k) : parse (lvT (lvR i k)) = lvB i k := by
  match i, hi with
  | 0, _ => match k, hk with | 0, _ => exact absurd h2 (by decide) | 1, _ => exact absurd h2 (by decide) | 2, _ => exact parse_of _ _ rfl | 3, _ => exact absurd h2 (by decide) | 4, _ => exact absurd h2 (by decide) | 5, _ => exact absurd h2 (by decide)
  | 1, _ => match k, hk with | 0, _ => exact absurd h2 (by decide) | 1, _ => exact absurd h2 (by decide) | 2, _ => exact parse_of _ _ rfl | 3, _ => exact absurd h2 (by decide) | 4, _ => exact absurd h2 (by decide) | 5, _ => exact absurd h2 (by decide)
  | 2, _ => match k, hk with | 0, _ => exact absurd h2 (by decide) | 1, _ => exact absurd h2 (by decide) | 2, _ => exact absurd h2 (by decide) | 3, _ => exact absurd h2 (by decide) | 4, _ => exact absurd h2 (by decide) | 5, _ => exact absurd h2 (by decide)
  | 3, _ => match k, hk with | 0, _ => exact parse_of _ _ rfl | 1, _ => exact parse_of _ _ rfl | 2, _ => exact parse_of _ _ rfl | 3, _ => exact absurd h2 (by decide) | 4, _ => exact absurd h2 (by decide) | 5, _ => exact absurd h2 (by decide)
  | 4, _ => match k, hk with | 0, _ => exact parse_of _ _ rfl | 1, _ => exact parse_of _ _ rfl | 2, _ => exact parse_of _ _ rfl | 3, _ => exact absurd h2 (by decide) | 4, _ => exact absurd h2 (by decide) | 5, _ => exact absurd h2 (by decide)
  | 5, _ => match k, hk with | 0, _ => exact parse_of _ _ rfl | 1, _ => exact parse_of _ _ rfl | 2, _ => exact parse_of _ _ rfl | 3, _ => exact absurd h2 (by decide) | 4, _ => exact absurd h2 (by decide) | 5, _ => exact absurd h2 (by decide)
end Go.Proofs.YtgiioflkclkioaaGreatDoor
