/- Statements' texts, kind by kind. -/
import Derived.Test.YtmomdcnlhljhcaaDoorWf
import Derived.Lib.Join
set_option linter.unusedSimpArgs false
set_option linter.unusedVariables false
namespace Go.Proofs.YtmomdcnlhljhcaaDoor

/-- A name and its index; the expressions, joined. -/
def ntT (nm : List UInt8) (ix : Bool) (xs : List Ex) : List UInt8 := match ix, xs with | true, x :: _ => nm ++ [91] ++ ext x ++ [93] | _, _ => nm
def rX (ix : Bool) (xs : List Ex) : List Ex := if ix then xs.drop 1 else xs
def atT (ix : Bool) (xs : List Ex) : List UInt8 := Lib.join ((rX ix xs).map ext) [44, 32]
theorem exsT_join (g : List UInt8) (x : Ex) (l : List Ex) : exsT g (x :: l) = g ++ Lib.join ((x :: l).map ext) [44, 32] := by
  induction l generalizing g x with
  | nil => simp [exsT, Lib.join_one]
  | cons y l ih =>
    rw [exsT, ih [44, 32] y]
    simp only [List.map_cons, Lib.join_cons, Lib.joinTail, List.flatten_cons, List.append_assoc]
theorem rX_ne {k : Nat} {rg nm : List UInt8} {ix : Bool} {xs : List Ex} (h : Wh k rg nm ix xs) (ht : 1 ≤ takes k) : ∃ x l, rX ix xs = x :: l := by
  have hm := h.many
  unfold rX
  cases ix with
  | false =>
    simp only [Bool.false_eq_true, ↓reduceIte] at *
    cases xs with
    | nil => simp at hm; omega
    | cons x l => exact ⟨x, l, rfl⟩
  | true =>
    simp only [↓reduceIte] at *
    match xs, hm with
    | [], hm => simp at hm
    | [x], hm => simp at hm; omega
    | x :: y :: l, hm => exact ⟨y, l, rfl⟩
theorem rX_nil {k : Nat} {rg nm : List UInt8} {ix : Bool} {xs : List Ex} (h : Wh k rg nm ix xs) (ht : takes k = 0) : rX ix xs = [] := by
  have hm := h.many
  unfold rX
  cases ix with
  | false =>
    simp only [Bool.false_eq_true, ↓reduceIte] at *
    exact List.length_eq_zero_iff.1 (by omega)
  | true =>
    simp only [↓reduceIte] at *
    exact List.length_eq_zero_iff.1 (by simp; omega)
theorem nameT_of {k : Nat} {nm : List UInt8} {ix : Bool} {xs : List Ex} (h : named k = true) : nameT k nm ix xs = [32] ++ ntT nm ix xs := by
  unfold nameT ntT
  rw [if_pos h]
  cases ix with
  | false => simp
  | true => cases xs <;> simp
theorem restX_of {k : Nat} {rg nm : List UInt8} {ix : Bool} {xs : List Ex} (h : Wh k rg nm ix xs) : restX k ix xs = rX ix xs := by
  unfold restX rX
  cases ix with
  | false => simp
  | true =>
    have := h.cell rfl
    have hn : named k = true := by unfold named; simp; omega
    simp [hn]
theorem exs_of {k : Nat} {rg nm : List UInt8} {ix : Bool} {xs : List Ex} (h : Wh k rg nm ix xs) (ht : 1 ≤ takes k) : exsT (gap1 k) (restX k ix xs) = gap1 k ++ atT ix xs := by
  rw [restX_of h]
  obtain ⟨x, l, hx⟩ := rX_ne h ht
  unfold atT
  rw [hx, exsT_join]
theorem exs_nil {k : Nat} {rg nm : List UInt8} {ix : Bool} {xs : List Ex} (h : Wh k rg nm ix xs) (ht : takes k = 0) : exsT (gap1 k) (restX k ix xs) = [] := by
  rw [restX_of h, rX_nil h ht]; rfl
/-- The forms. -/
theorem st_set {rg nm : List UInt8} {ix : Bool} {xs : List Ex} {b e : Sts} (h : Wh 0 rg nm ix xs) : stT 0 rg nm ix xs b e = rg ++ [32, 61, 32] ++ atT ix xs ++ [59, 10] := by
  unfold stT headT
  rw [exs_of h (by decide)]
  simp [gives, word, nameT, named, gap1]
theorem st_give0 {k : Nat} {rg nm : List UInt8} {ix : Bool} {xs : List Ex} {b e : Sts} (h : Wh k rg nm ix xs) (hg : gives k = true) (hn : named k = true) (ht : takes k = 0) (hk : k < 15) : stT k rg nm ix xs b e = rg ++ [32, 61, 32] ++ word k ++ [32] ++ ntT nm ix xs ++ [59, 10] := by
  unfold stT headT
  rw [exs_nil h ht, nameT_of hn, if_pos hg, if_neg (by omega)]
  simp
theorem st_give1 {k : Nat} {rg nm : List UInt8} {ix : Bool} {xs : List Ex} {b e : Sts} (h : Wh k rg nm ix xs) (hg : gives k = true) (hn : named k = true) (ht : 1 ≤ takes k) (hk : k < 15) : stT k rg nm ix xs b e = rg ++ [32, 61, 32] ++ word k ++ [32] ++ ntT nm ix xs ++ [44, 32] ++ atT ix xs ++ [59, 10] := by
  unfold stT headT
  rw [exs_of h ht, nameT_of hn, if_pos hg, if_neg (by omega)]
  simp [gap1, hn]
theorem st_store {rg nm : List UInt8} {ix : Bool} {xs : List Ex} {b e : Sts} (h : Wh 2 rg nm ix xs) : stT 2 rg nm ix xs b e = [115, 116, 111, 114, 101, 32] ++ ntT nm ix xs ++ [44, 32] ++ atT ix xs ++ [59, 10] := by
  unfold stT headT
  rw [exs_of h (by decide), nameT_of (by decide)]
  simp [gap1, gives, word, named]
theorem st_as {k : Nat} {rg nm : List UInt8} {ix : Bool} {xs : List Ex} {b e : Sts} (h : Wh k rg nm ix xs) (hk : k = 13 ∨ k = 14) : stT k rg nm ix xs b e = word k ++ [32] ++ atT ix xs ++ [59, 10] := by
  unfold stT headT
  rcases hk with rfl | rfl
  all_goals
    rw [exs_of h (by decide)]
    simp [gives, word, nameT, named, gap1]
theorem st_if {k : Nat} {rg nm : List UInt8} {ix : Bool} {xs : List Ex} {b e : Sts} (h : Wh k rg nm ix xs) (hk : k = 15 ∨ k = 16) : stT k rg nm ix xs b e = word k ++ [32] ++ atT ix xs ++ blkT b ++ elseT (blkT e) e.len ++ [10] := by
  unfold stT headT
  rcases hk with rfl | rfl
  all_goals
    rw [exs_of h (by decide)]
    simp [gives, word, nameT, named, gap1]
theorem st_plain {k : Nat} {rg nm : List UInt8} {ix : Bool} {xs : List Ex} {b e : Sts} (h : Wh k rg nm ix xs) (hg : gives k = false) (hn : named k = true) (ht : takes k = 0) (hk : k < 15) : stT k rg nm ix xs b e = word k ++ [32] ++ ntT nm ix xs ++ [59, 10] := by
  unfold stT headT
  rw [exs_nil h ht, nameT_of hn, if_neg (by rw [hg]; simp), if_neg (by omega)]
  simp
theorem nt_len {k : Nat} {rg nm : List UInt8} {ix : Bool} {xs : List Ex} {b e : Sts} (h : Wh k rg nm ix xs) (hn : named k = true) : (ntT nm ix xs).length ≤ (stT k rg nm ix xs b e).length := by
  unfold stT headT
  rw [nameT_of hn]
  simp only [List.length_append]
  omega
theorem at_len {k : Nat} {rg nm : List UInt8} {ix : Bool} {xs : List Ex} {b e : Sts} (h : Wh k rg nm ix xs) : (atT ix xs).length ≤ (stT k rg nm ix xs b e).length := by
  by_cases ht : 1 ≤ takes k
  · unfold stT headT
    rw [exs_of h ht]
    simp only [List.length_append]
    omega
  · have : atT ix xs = [] := by unfold atT; rw [rX_nil h (by omega)]; rfl
    rw [this]; simp
theorem exsT_len (g : List UInt8) (l : List Ex) : ∀ x ∈ l, (ext x).length ≤ (exsT g l).length := by
  induction l generalizing g with
  | nil => simp
  | cons y l ih =>
    intro x hx
    simp only [exsT, List.length_append]
    rcases List.mem_cons.1 hx with rfl | hx
    · omega
    · have := ih [44, 32] x hx; omega
theorem ex_len {k : Nat} {rg nm : List UInt8} {ix : Bool} {xs : List Ex} {b e : Sts} (h : Wh k rg nm ix xs) : ∀ x ∈ xs, (ext x).length ≤ (stT k rg nm ix xs b e).length := by
  intro x hx
  unfold stT headT
  simp only [List.length_append]
  have h1 := exsT_len (gap1 k) (restX k ix xs)
  cases ix with
  | false =>
    have hr : restX k false xs = xs := by simp [restX]
    rw [hr] at h1 ⊢
    have := h1 x hx
    omega
  | true =>
    have := h.cell rfl
    have hn : named k = true := by unfold named; simp; omega
    rw [nameT_of hn]
    cases xs with
    | nil => cases hx
    | cons y l =>
      have hr : restX k true (y :: l) = l := by simp [restX, hn]
      rw [hr] at h1 ⊢
      rcases List.mem_cons.1 hx with rfl | hx
      · simp only [ntT, List.length_append]; omega
      · have := h1 x hx; omega
end Go.Proofs.YtmomdcnlhljhcaaDoor
