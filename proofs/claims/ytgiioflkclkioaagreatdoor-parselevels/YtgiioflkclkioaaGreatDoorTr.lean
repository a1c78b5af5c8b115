/- Programs as trees, plainly: expressions, statements, declarations; their texts; what the law makes of small numbers. -/
import Derived.Lib.ItoaLen
import Derived.Lib.SmallJoins
set_option linter.unusedSimpArgs false
set_option linter.unusedVariables false
namespace Go.Proofs.YtgiioflkclkioaaGreatDoor

/-- An expression: a number, a register, something done with one part, or with two. -/
inductive Ex where
  | num (re im : Nat)
  | reg (r : List UInt8)
  | one (k : Nat) (a : Ex)
  | two (k : Nat) (a b : Ex)

/-- The names of what is done, the signs. -/
def op1 : Nat → List UInt8
  | 0 => [110, 101, 103]
  | 1 => [99, 111, 110, 106]
  | 2 => [110, 111, 116]
  | _ => [110, 111, 114, 109]
def sg1 : Nat → UInt8
  | 0 => 45
  | 1 => 126
  | 2 => 33
  | _ => 35
def op2 : Nat → List UInt8
  | 0 => [43]
  | 1 => [45]
  | 2 => [42]
  | 3 => [61, 61]
  | 4 => [33, 61]
  | _ => [60]

/-- A number's text: it has one part alone. -/
def numT (re im : Nat) : List UInt8 := if im = 0 then Lib.itoa re else Lib.itoa im ++ [105]
/-- An expression's text. -/
def ext : Ex → List UInt8
  | .num re im => numT re im
  | .reg r => r
  | .one k a => [40, sg1 k] ++ ext a ++ [41]
  | .two k a b => [40] ++ ext a ++ [32] ++ op2 k ++ [32] ++ ext b ++ [41]

/-- An expression that the law makes, or a part of one. -/
def Wx : Ex → Prop
  | .num re im => (re = 0 ∨ im = 0) ∧ re ≤ 1048576 ∧ im ≤ 1048576
  | .reg r => r ≠ [] ∧ r.length ≤ 16384
  | .one k a => k < 4 ∧ Wx a
  | .two k a b => k < 6 ∧ Wx a ∧ Wx b

/-- Statements, one behind the other, each with its bodies. -/
inductive Sts where
  | nil
  | cons (k : Nat) (rg nm : List UInt8) (ix : Bool) (xs : List Ex) (body els rest : Sts)

def Sts.len : Sts → Nat
  | .nil => 0
  | .cons _ _ _ _ _ _ _ r => r.len + 1
def Sts.app : Sts → Sts → Sts
  | .nil, m => m
  | .cons k rg nm ix xs b e r, m => .cons k rg nm ix xs b e (r.app m)
theorem Sts.app_nil (l : Sts) : l.app .nil = l := by
  induction l with
  | nil => rfl
  | cons k rg nm ix xs b e r _ _ ih => simp [Sts.app, ih]
theorem Sts.app_assoc (a b c : Sts) : (a.app b).app c = a.app (b.app c) := by
  induction a with
  | nil => rfl
  | cons k rg nm ix xs b e r _ _ ih => simp [Sts.app, ih]
theorem Sts.len_app (a b : Sts) : (a.app b).len = a.len + b.len := by
  induction a with
  | nil => simp [Sts.app, Sts.len]
  | cons k rg nm ix xs b e r _ _ ih => simp [Sts.app, Sts.len, ih]; omega

/-- The kinds: does one set a register; is it about something with a name; its word; how many expressions it has. -/
def gives (k : Nat) : Bool := k == 0 || k == 1 || k == 3 || k == 4 || k == 5 || k == 8
def named (k : Nat) : Bool := decide (1 ≤ k) && decide (k ≤ 12)
def word : Nat → List UInt8
  | 1 => [108, 111, 97, 100]
  | 2 => [115, 116, 111, 114, 101]
  | 3 => [97, 100, 100]
  | 4 => [115, 119, 97, 112]
  | 5 => [99, 97, 115]
  | 6 => [108, 111, 99, 107]
  | 7 => [117, 110, 108, 111, 99, 107]
  | 8 => [116, 114, 121]
  | 9 => [119, 97, 105, 116]
  | 10 => [112, 111, 115, 116]
  | 11 => [115, 112, 97, 119, 110]
  | 12 => [106, 111, 105, 110]
  | 13 => [97, 115, 115, 101, 114, 116]
  | 14 => [97, 115, 115, 117, 109, 101]
  | 15 => [105, 102]
  | 16 => [119, 104, 105, 108, 101]
  | _ => []
def takes (k : Nat) : Nat := if k = 5 then 2 else if k = 0 ∨ k = 2 ∨ k = 3 ∨ k = 4 ∨ 13 ≤ k then 1 else 0
def swd : Nat → List UInt8
  | 0 => [99, 101, 108, 108]
  | 1 => [97, 114, 114, 97, 121]
  | 2 => [109, 117, 116, 101, 120]
  | 3 => [115, 101, 109]
  | 4 => [98, 117, 100, 103, 101, 116]
  | 5 => [116, 104, 114, 101, 97, 100]
  | _ => []

/-- Expressions' texts, the first one behind a gap, the others behind a comma. -/
def exsT : List UInt8 → List Ex → List UInt8
  | _, [] => []
  | g, x :: l => g ++ ext x ++ exsT [44, 32] l
def gap1 (k : Nat) : List UInt8 := if named k then [44, 32] else if word k = [] then [] else [32]
/-- A name, and the index behind it. -/
def nameT (k : Nat) (nm : List UInt8) (ix : Bool) (xs : List Ex) : List UInt8 :=
  if named k then [32] ++ nm ++ (match ix, xs with | true, x :: _ => [91] ++ ext x ++ [93] | _, _ => []) else []
def restX (k : Nat) (ix : Bool) (xs : List Ex) : List Ex := if named k && ix then xs.drop 1 else xs
def headT (k : Nat) (rg nm : List UInt8) (ix : Bool) (xs : List Ex) : List UInt8 :=
  (if gives k then rg ++ [32, 61, 32] else []) ++ word k ++ nameT k nm ix xs ++ exsT (gap1 k) (restX k ix xs)
def elseT (e : List UInt8) (n : Nat) : List UInt8 := if n = 0 then [] else [32, 101, 108, 115, 101] ++ e
/-- Statements' text. -/
def stsT : Sts → List UInt8
  | .nil => []
  | .cons k rg nm ix xs b e r =>
    (headT k rg nm ix xs ++ if k = 15 ∨ k = 16 then ([32, 123, 10] ++ stsT b ++ [125]) ++ elseT ([32, 123, 10] ++ stsT e ++ [125]) e.len ++ [10] else [59, 10]) ++ stsT r
def blkT (b : Sts) : List UInt8 := [32, 123, 10] ++ stsT b ++ [125]
def stT (k : Nat) (rg nm : List UInt8) (ix : Bool) (xs : List Ex) (b e : Sts) : List UInt8 :=
  headT k rg nm ix xs ++ if k = 15 ∨ k = 16 then blkT b ++ elseT (blkT e) e.len ++ [10] else [59, 10]
theorem stsT_cons (k : Nat) (rg nm : List UInt8) (ix : Bool) (xs : List Ex) (b e r : Sts) : stsT (.cons k rg nm ix xs b e r) = stT k rg nm ix xs b e ++ stsT r := rfl
theorem stsT_app (a b : Sts) : stsT (a.app b) = stsT a ++ stsT b := by
  induction a with
  | nil => rfl
  | cons k rg nm ix xs b' e r _ _ ih => rw [Sts.app, stsT_cons, stsT_cons, ih, List.append_assoc]

/-- A declaration. -/
structure Dc where
  so : Nat
  nm : List UInt8
  re : Int
  im : Int
  body : Sts

/-- A declaration's number's text. -/
def dnT (r i : Int) : List UInt8 :=
  if i = 0 then Lib.itoa r
  else if r = 0 then Lib.itoa i ++ [105]
  else if 0 < i then Lib.itoa r ++ ([43] ++ (Lib.itoa i ++ [105]))
  else Lib.itoa r ++ (Lib.itoa i ++ [105])
def dcT (d : Dc) : List UInt8 :=
  if d.so = 5 then swd 5 ++ [32] ++ d.nm ++ blkT d.body ++ [10]
  else if d.so = 4 then swd 4 ++ [32] ++ dnT d.re d.im ++ [59, 10]
  else if d.so = 2 then swd 2 ++ [32] ++ d.nm ++ [59, 10]
  else swd d.so ++ [32] ++ d.nm ++ [32] ++ dnT d.re d.im ++ [59, 10]
def dcsT : List Dc → List UInt8
  | [] => []
  | d :: l => dcT d ++ dcsT l

/-! What the law makes. -/
structure S5 where
  d : Nat
  a : Nat
  b : Nat
  c : Nat
  n : Int
structure Sml where
  ce : Nat
  ar : Nat
  mu : Nat
  se : Nat
  bu : Nat
  n : Int
  th : List (List S5)

def aNum (n : Int) : Ex := if n < 0 then .num 0 ((n % 16).toNat + 1) else .num (n % 16).toNat 0
def aReg (r : Nat) : UInt8 := UInt8.ofNat (97 + r % 3)
def aExpr (kd : Nat) (n : Int) : Ex :=
  match kd % 16 with
  | 0 => aNum n
  | 1 => aNum n
  | 2 => aNum n
  | 3 => aNum n
  | 4 => .reg [aReg (kd / 16)]
  | 5 => .reg [aReg (kd / 16)]
  | 6 => .two 0 (.reg [aReg (kd / 16)]) (aNum n)
  | 7 => .two 1 (aNum n) (.reg [aReg (kd / 16)])
  | 8 => .two 2 (.reg [aReg (kd / 16)]) (aNum n)
  | 9 => .two 3 (.reg [aReg (kd / 16)]) (aNum n)
  | 10 => .two 4 (.reg [aReg (kd / 16)]) (aNum n)
  | 11 => .two 5 (.reg [aReg (kd / 16)]) (aNum n)
  | 12 => .one 0 (.two 0 (.reg [aReg (kd / 16)]) (aNum n))
  | 13 => .one 1 (.reg [aReg (kd / 16)])
  | 14 => .one 2 (.reg [aReg (kd / 16)])
  | _ => .one 3 (.two 2 (.reg [aReg (kd / 16)]) (.reg [aReg (kd / 16)]))
def lett (f : UInt8) (n m : Nat) : List UInt8 := [f, UInt8.ofNat (48 + n % m)]
end Go.Proofs.YtgiioflkclkioaaGreatDoor
