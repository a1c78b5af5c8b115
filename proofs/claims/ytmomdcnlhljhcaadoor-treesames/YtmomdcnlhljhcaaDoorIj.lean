/- Texts tell right programs apart. -/
import Derived.Test.YtmomdcnlhljhcaaDoorIn
import Derived.Test.YtmomdcnlhljhcaaDoorAq
/- Texts of right programs tell the programs apart: statements. -/
set_option linter.unusedSimpArgs false
set_option linter.unusedVariables false
namespace Go.Proofs.YtmomdcnlhljhcaaDoor
open Go.RowKit Ieee

theorem exs_stp (xs : List Ex) {t : List UInt8} (h : Stp t) : Stp (exsT [44, 32] xs ++ t) := by
  cases xs with
  | nil => exact h
  | cons x xs => exact stp44 _
theorem exs_inj (xs : List Ex) : ∀ (ys : List Ex) (g t u : List UInt8), xs.length = ys.length → (∀ x ∈ xs, Wx x) → (∀ x ∈ ys, Wx x) → Stp t → Stp u → exsT g xs ++ t = exsT g ys ++ u → xs = ys ∧ t = u := by
  induction xs with
  | nil =>
    intro ys g t u hl _ _ _ _ he
    cases ys with
    | nil => exact ⟨rfl, he⟩
    | cons y ys => simp at hl
  | cons x xs ih =>
    intro ys g t u hl hx hy ht hu he
    cases ys with
    | nil => simp at hl
    | cons y ys =>
      simp only [exsT, List.append_assoc] at he
      have he := List.append_cancel_left he
      obtain ⟨h1, h2⟩ := ext_inj x y _ _ (hx x List.mem_cons_self) (hy y List.mem_cons_self) (exs_stp xs ht) (exs_stp ys hu) he
      obtain ⟨h3, h4⟩ := ih ys [44, 32] t u (by simpa using hl) (fun z hz => hx z (List.mem_cons_of_mem _ hz)) (fun z hz => hy z (List.mem_cons_of_mem _ hz)) ht hu h2
      exact ⟨by rw [h1, h3], h4⟩
def sB : List UInt8 → UInt8
  | _ :: b :: _ => b
  | _ => 0
def bodT (k : Nat) (nm : List UInt8) (ix : Bool) (xs : List Ex) : List UInt8 := word k ++ nameT k nm ix xs ++ exsT (gap1 k) (restX k ix xs)
theorem k17 {k : Nat} (h : k < 17) : k = 0 ∨ k = 1 ∨ k = 2 ∨ k = 3 ∨ k = 4 ∨ k = 5 ∨ k = 6 ∨ k = 7 ∨ k = 8 ∨ k = 9 ∨ k = 10 ∨ k = 11 ∨ k = 12 ∨ k = 13 ∨ k = 14 ∨ k = 15 ∨ k = 16 := by omega
theorem sB_head {k : Nat} {rg nm : List UInt8} {ix : Bool} {xs : List Ex} (h : Wh k rg nm ix xs) (t : List UInt8) : (sB (headT k rg nm ix xs ++ t) = 32) ↔ gives k = true := by
  have hr := h.reg
  have hn : ¬ gives k = true → sB (bodT k nm ix xs ++ t) ≠ 32 := by
    intro hg
    unfold bodT
    rcases k17 h.kd with rfl | rfl | rfl | rfl | rfl | rfl | rfl | rfl | rfl | rfl | rfl | rfl | rfl | rfl | rfl | rfl | rfl <;> first | (exact absurd rfl hg) | (simp [word, sB])
  by_cases hg : gives k = true
  · rw [if_pos hg] at hr
    simp only [hg, iff_true]
    unfold headT
    rw [if_pos hg]
    rcases hr with rfl | rfl | rfl <;> simp [sB]
  · have : headT k rg nm ix xs = bodT k nm ix xs := by unfold headT bodT; rw [if_neg hg, List.nil_append]
    rw [this]
    exact ⟨fun e => absurd e (hn hg), fun e => absurd e hg⟩
def kx (t : List UInt8) : Nat :=
  if (word 1 ++ [32]).isPrefixOf t then 1 else if (word 2 ++ [32]).isPrefixOf t then 2 else if (word 3 ++ [32]).isPrefixOf t then 3 else if (word 4 ++ [32]).isPrefixOf t then 4 else
  if (word 5 ++ [32]).isPrefixOf t then 5 else if (word 6 ++ [32]).isPrefixOf t then 6 else if (word 7 ++ [32]).isPrefixOf t then 7 else if (word 8 ++ [32]).isPrefixOf t then 8 else
  if (word 9 ++ [32]).isPrefixOf t then 9 else if (word 10 ++ [32]).isPrefixOf t then 10 else if (word 11 ++ [32]).isPrefixOf t then 11 else if (word 12 ++ [32]).isPrefixOf t then 12 else
  if (word 13 ++ [32]).isPrefixOf t then 13 else if (word 14 ++ [32]).isPrefixOf t then 14 else if (word 15 ++ [32]).isPrefixOf t then 15 else if (word 16 ++ [32]).isPrefixOf t then 16 else 0
theorem kx_word (k : Nat) (h0 : 0 < k) (h : k < 17) (t : List UInt8) : kx (word k ++ 32 :: t) = k := by
  have : k = 1 ∨ k = 2 ∨ k = 3 ∨ k = 4 ∨ k = 5 ∨ k = 6 ∨ k = 7 ∨ k = 8 ∨ k = 9 ∨ k = 10 ∨ k = 11 ∨ k = 12 ∨ k = 13 ∨ k = 14 ∨ k = 15 ∨ k = 16 := by omega
  rcases this with rfl | rfl | rfl | rfl | rfl | rfl | rfl | rfl | rfl | rfl | rfl | rfl | rfl | rfl | rfl | rfl <;> simp [kx, word, List.isPrefixOf]
theorem bod_word {k : Nat} {rg nm : List UInt8} {ix : Bool} {xs : List Ex} (h : Wh k rg nm ix xs) (h0 : 0 < k) : ∃ t, nameT k nm ix xs ++ exsT (gap1 k) (restX k ix xs) = 32 :: t := by
  by_cases hn : named k = true
  · unfold nameT; rw [if_pos hn]; exact ⟨_, rfl⟩
  · have hk : 13 ≤ k := by
      have := h.kd
      unfold named at hn; simp at hn; omega
    have hix : ix = false := by
      cases ix with
      | false => rfl
      | true => have := h.cell rfl; omega
    subst hix
    have hm := h.many
    have htk : takes k = 1 := by unfold takes; rw [if_neg (by omega), if_pos (by omega)]
    have hne : xs ≠ [] := by intro e; rw [e, htk] at hm; simp at hm
    obtain ⟨x, l, rfl⟩ : ∃ x l, xs = x :: l := by cases xs with
      | nil => exact absurd rfl hne
      | cons x l => exact ⟨x, l, rfl⟩
    have hg : gap1 k = [32] := by
      unfold gap1; rw [if_neg hn, if_neg]
      have : k = 13 ∨ k = 14 ∨ k = 15 ∨ k = 16 := by have := h.kd; omega
      rcases this with rfl | rfl | rfl | rfl <;> simp [word]
    have hr : restX k false (x :: l) = x :: l := by unfold restX; simp
    unfold nameT
    rw [if_neg hn, hr, hg]
    exact ⟨_, rfl⟩
theorem kx_bod {k : Nat} {rg nm : List UInt8} {ix : Bool} {xs : List Ex} (h : Wh k rg nm ix xs) (t : List UInt8) (ht : Stp t) : kx (bodT k nm ix xs ++ t) = k := by
  by_cases h0 : 0 < k
  · obtain ⟨u, hu⟩ := bod_word h h0
    unfold bodT
    rw [List.append_assoc (word k), hu, List.append_assoc, List.cons_append]
    exact kx_word k h0 h.kd _
  · have h0 : k = 0 := by omega
    subst h0
    have hix : ix = false := by
      cases ix with
      | false => rfl
      | true => have := h.cell rfl; omega
    subst hix
    have hm : xs.length = 1 := by have := h.many; simpa [takes] using this
    obtain ⟨x, rfl⟩ : ∃ x, xs = [x] := List.length_eq_one_iff.1 hm
    have hb : bodT 0 nm false [x] = ext x := by simp [bodT, word, nameT, named, restX, gap1, exsT]
    rw [hb]
    have hx := h.ex x List.mem_cons_self
    cases t with
    | nil => exact absurd ht id
    | cons c t =>
      cases x with
      | num re im =>
        obtain ⟨a, u, h1, h2, h3⟩ := num_head hx
        rw [h1]
        have hne : ∀ b : UInt8, (97 ≤ b) → (b == a) = false := by
          intro b hb
          apply Bool.eq_false_iff.2
          intro e
          have := eq_of_beq e
          subst this
          exact absurd hb (by intro hb; have : b.toNat ≤ 57 := h3; have : 97 ≤ b.toNat := hb; omega)
        have f : ∀ b l, 97 ≤ b → (b :: l).isPrefixOf (a :: u ++ c :: t) = false := fun b l hb => by simp [List.isPrefixOf, hne b hb]
        simp only [kx, word, List.cons_append, List.nil_append]
        simp only [List.cons_append] at f
        simp [f]
      | reg r => rcases hx with rfl | rfl | rfl <;> (rcases ht with rfl | rfl | rfl | rfl | rfl <;> simp [kx, word, ext, List.isPrefixOf])
      | one k a => simp [kx, word, ext, List.isPrefixOf]
      | two k a b => simp [kx, word, ext, List.isPrefixOf]
/-- A statement's head tells all of it, and what stands behind it. -/
theorem head_inj {k1 k2 : Nat} {rg1 rg2 nm1 nm2 : List UInt8} {ix1 ix2 : Bool} {xs1 xs2 : List Ex} (h1 : Wh k1 rg1 nm1 ix1 xs1) (h2 : Wh k2 rg2 nm2 ix2 xs2) {t1 t2 : List UInt8} (s1 : Stp t1) (s2 : Stp t2)
    (he : headT k1 rg1 nm1 ix1 xs1 ++ t1 = headT k2 rg2 nm2 ix2 xs2 ++ t2) : k1 = k2 ∧ rg1 = rg2 ∧ nm1 = nm2 ∧ ix1 = ix2 ∧ xs1 = xs2 ∧ t1 = t2 := by
  have hg : gives k1 = gives k2 := by
    have a := sB_head h1 t1
    have b := sB_head h2 t2
    rw [he] at a
    have := a.symm.trans b
    cases g1 : gives k1 <;> cases g2 : gives k2 <;> simp_all
  have hb : rg1 = rg2 ∧ bodT k1 nm1 ix1 xs1 ++ t1 = bodT k2 nm2 ix2 xs2 ++ t2 := by
    have r1 := h1.reg
    have r2 := h2.reg
    unfold headT at he
    cases g : gives k1 with
    | false =>
      rw [← hg, g] at he r2
      rw [g] at r1
      simp only [Bool.false_eq_true, if_false, List.nil_append] at he r1 r2
      exact ⟨by rw [r1, r2], he⟩
    | true =>
      rw [← hg, g] at he r2
      rw [g] at r1
      simp only [if_true] at he r1 r2
      rcases r1 with rfl | rfl | rfl <;> rcases r2 with rfl | rfl | rfl <;> simp only [List.cons_append, List.nil_append, List.cons.injEq, true_and] at he <;> first
        | exact ⟨rfl, he⟩
        | exact absurd he.1 (by decide)
  obtain ⟨hrg, he⟩ := hb
  have hk : k1 = k2 := by
    have := congrArg kx he
    rwa [kx_bod h1 t1 s1, kx_bod h2 t2 s2] at this
  subst hk
  refine ⟨rfl, hrg, ?_⟩
  unfold bodT at he
  simp only [List.append_assoc] at he
  have he := List.append_cancel_left he
  have m1 := h1.many
  have m2 := h2.many
  have n1 := h1.name
  have n2 := h2.name
  unfold Wnm at n1 n2
  unfold nameT at he
  by_cases hn : named k1 = true
  · rw [if_pos hn] at he n1 n2
    rw [if_pos hn] at he
    have hfk : ∀ f : UInt8, f = (if k1 ≤ 5 then 120 else if k1 ≤ 8 then 109 else if k1 ≤ 10 then 115 else 116) → f ≠ 118 := by
      intro f hf e
      rw [e] at hf
      split at hf
      · exact absurd hf (by decide)
      · split at hf
        · exact absurd hf (by decide)
        · split at hf <;> exact absurd hf (by decide)
    cases ix1 with
    | true =>
      simp only [if_true] at n1 m1
      obtain ⟨x1, l1, rfl⟩ : ∃ x l, xs1 = x :: l := by cases xs1 with
        | nil => simp at m1
        | cons x l => exact ⟨x, l, rfl⟩
      cases ix2 with
      | true =>
        simp only [if_true] at n2 m2
        obtain ⟨x2, l2, rfl⟩ : ∃ x l, xs2 = x :: l := by cases xs2 with
          | nil => simp at m2
          | cons x l => exact ⟨x, l, rfl⟩
        subst n1 n2
        simp only [List.cons_append, List.nil_append, List.append_assoc, List.cons.injEq, true_and] at he
        obtain ⟨e1, e2⟩ := ext_inj x1 x2 _ _ (h1.ex _ List.mem_cons_self) (h2.ex _ List.mem_cons_self) (stp93 _) (stp93 _) he
        simp only [List.cons.injEq, true_and] at e2
        have hr : ∀ (x : Ex) (l : List Ex), restX k1 true (x :: l) = l := fun x l => by unfold restX; simp [hn]
        rw [hr, hr] at e2
        obtain ⟨e3, e4⟩ := exs_inj l1 l2 _ _ _ (by simp at m1 m2; omega) (fun z hz => h1.ex z (List.mem_cons_of_mem _ hz)) (fun z hz => h2.ex z (List.mem_cons_of_mem _ hz)) s1 s2 e2
        exact ⟨rfl, rfl, by rw [e1, e3], e4⟩
      | false =>
        simp only [Bool.false_eq_true, if_false] at n2
        obtain ⟨f, d, rfl, hf⟩ := n2
        subst n1
        simp only [List.cons_append, List.nil_append, List.append_assoc, List.cons.injEq, true_and] at he
        exact absurd he.1.symm (hfk f hf)
    | false =>
      simp only [Bool.false_eq_true, if_false] at n1 m1
      obtain ⟨f1, d1, rfl, hf1⟩ := n1
      cases ix2 with
      | true =>
        simp only [if_true] at n2 m2
        obtain ⟨x2, l2, rfl⟩ : ∃ x l, xs2 = x :: l := by cases xs2 with
          | nil => simp at m2
          | cons x l => exact ⟨x, l, rfl⟩
        subst n2
        simp only [List.cons_append, List.nil_append, List.append_assoc, List.cons.injEq, true_and] at he
        exact absurd he.1 (hfk f1 hf1)
      | false =>
        simp only [Bool.false_eq_true, if_false] at n2 m2
        obtain ⟨f2, d2, rfl, hf2⟩ := n2
        have hr : ∀ (l : List Ex), restX k1 false l = l := fun l => by unfold restX; simp
        rw [hr, hr] at he
        simp only [List.cons_append, List.nil_append, List.append_assoc, List.cons.injEq, true_and] at he
        obtain ⟨e1, e2, e3⟩ := he
        obtain ⟨e4, e5⟩ := exs_inj xs1 xs2 _ _ _ (by omega) h1.ex h2.ex s1 s2 e3
        exact ⟨by rw [e1, e2], rfl, e4, e5⟩
  · rw [if_neg hn] at n1 n2
    rw [if_neg hn, if_neg hn] at he
    have hix : ∀ {ix : Bool}, (ix = true → 1 ≤ k1 ∧ k1 ≤ 5) → ix = false := by
      intro ix h
      cases ix with
      | false => rfl
      | true => have := h rfl; unfold named at hn; simp at hn; omega
    obtain rfl := hix h1.cell
    obtain rfl := hix h2.cell
    have hr : ∀ (l : List Ex), restX k1 false l = l := fun l => by unfold restX; simp
    rw [hr, hr] at he
    simp only [List.nil_append] at he
    simp only [Bool.false_eq_true, if_false] at m1 m2
    obtain ⟨e4, e5⟩ := exs_inj xs1 xs2 _ _ _ (by omega) h1.ex h2.ex s1 s2 he
    exact ⟨by rw [n1, n2], rfl, e4, e5⟩
theorem head_ne (k : Nat) {rg nm : List UInt8} {ix : Bool} {xs : List Ex} (h : Wh k rg nm ix xs) (t : List UInt8) (ht : Stp t) : ∃ c u, headT k rg nm ix xs ++ t = c :: u ∧ c ≠ 125 := by
  have hr := h.reg
  unfold headT
  by_cases hg : gives k = true
  · rw [if_pos hg] at hr ⊢
    rcases hr with rfl | rfl | rfl
    · exact ⟨97, _, rfl, by decide⟩
    · exact ⟨98, _, rfl, by decide⟩
    · exact ⟨99, _, rfl, by decide⟩
  · rw [if_neg hg, List.nil_append]
    rcases k17 h.kd with rfl | rfl | rfl | rfl | rfl | rfl | rfl | rfl | rfl | rfl | rfl | rfl | rfl | rfl | rfl | rfl | rfl <;> first | exact absurd rfl hg | exact ⟨_, _, rfl, by decide⟩
def tailT (k : Nat) (b e : Sts) : List UInt8 := if k = 15 ∨ k = 16 then ([32, 123, 10] ++ stsT b ++ [125]) ++ elseT ([32, 123, 10] ++ stsT e ++ [125]) e.len ++ [10] else [59, 10]
theorem stsT_head (k : Nat) (rg nm : List UInt8) (ix : Bool) (xs : List Ex) (b e r : Sts) (t : List UInt8) : stsT (.cons k rg nm ix xs b e r) ++ t = headT k rg nm ix xs ++ (tailT k b e ++ (stsT r ++ t)) := by
  rw [stsT]
  unfold tailT
  simp only [List.append_assoc]
theorem tail_stp (k : Nat) (b e : Sts) (t : List UInt8) : Stp (tailT k b e ++ t) := by
  unfold tailT
  split
  · exact stp32 _
  · exact stp59 _
theorem len_zero {s : Sts} (h : s.len = 0) : s = .nil := by
  cases s with
  | nil => rfl
  | cons _ _ _ _ _ _ _ _ => simp [Sts.len] at h
theorem sts_inj (s1 : Sts) : ∀ (s2 : Sts) (r1 r2 : List UInt8), Ws s1 → Ws s2 → stsT s1 ++ 125 :: r1 = stsT s2 ++ 125 :: r2 → s1 = s2 ∧ r1 = r2 := by
  induction s1 with
  | nil =>
    intro s2 r1 r2 _ w2 he
    cases s2 with
    | nil => simp only [stsT, List.nil_append, List.cons.injEq, true_and] at he; exact ⟨rfl, he⟩
    | cons k rg nm ix xs b e r =>
      rw [stsT_head] at he
      obtain ⟨c, u, h1, h2⟩ := head_ne k w2.1 _ (tail_stp k b e (stsT r ++ 125 :: r2))
      rw [h1] at he
      simp only [stsT, List.nil_append, List.cons.injEq] at he
      exact absurd he.1.symm h2
  | cons k rg nm ix xs b e r ihb ihe ihr =>
    intro s2 r1 r2 w1 w2 he
    cases s2 with
    | nil =>
      rw [stsT_head] at he
      obtain ⟨c, u, h1, h2⟩ := head_ne k w1.1 _ (tail_stp k b e (stsT r ++ 125 :: r1))
      rw [h1] at he
      simp only [stsT, List.nil_append, List.cons.injEq] at he
      exact absurd he.1 h2
    | cons k' rg' nm' ix' xs' b' e' r' =>
      rw [stsT_head, stsT_head] at he
      obtain ⟨rfl, rfl, rfl, rfl, rfl, hq⟩ := head_inj w1.1 w2.1 (tail_stp _ _ _ _) (tail_stp _ _ _ _) he
      clear he
      have he := hq
      clear hq
      obtain ⟨w0, wb, we, wbb, wee, wr⟩ := w1
      obtain ⟨_, wb', we', wbb', wee', wr'⟩ := w2
      unfold tailT at he
      by_cases hk : k = 15 ∨ k = 16
      · rw [if_pos hk, if_pos hk] at he
        simp only [List.append_assoc, List.cons_append, List.nil_append, List.cons.injEq, true_and] at he
        obtain ⟨hb, hq⟩ := ihb b' _ _ wbb wbb' he
        clear he
        have he := hq
        clear hq
        subst hb
        have hee : e = e' ∧ stsT r ++ 125 :: r1 = stsT r' ++ 125 :: r2 := by
          unfold elseT at he
          by_cases h1 : e.len = 0
          · by_cases h2 : e'.len = 0
            · rw [if_pos h1, if_pos h2] at he
              simp only [List.nil_append, List.cons.injEq, true_and] at he
              exact ⟨by rw [len_zero h1, len_zero h2], he⟩
            · rw [if_pos h1, if_neg h2] at he
              simp at he
          · by_cases h2 : e'.len = 0
            · rw [if_neg h1, if_pos h2] at he
              simp at he
            · rw [if_neg h1, if_neg h2] at he
              simp only [List.append_assoc, List.cons_append, List.nil_append, List.cons.injEq, true_and] at he
              obtain ⟨h3, h4⟩ := ihe e' _ _ wee wee' he
              simp only [List.cons.injEq, true_and] at h4
              exact ⟨h3, h4⟩
        obtain ⟨hx, hq⟩ := hee
        obtain ⟨hy, hz⟩ := ihr r' _ _ wr wr' hq
        exact ⟨by rw [hx, hy], hz⟩
      · rw [if_neg hk, if_neg hk] at he
        simp only [List.cons_append, List.nil_append, List.cons.injEq, true_and] at he
        obtain ⟨hy, hz⟩ := ihr r' _ _ wr wr' he
        have hk15 : k < 15 := by have := w0.kd; omega
        obtain rfl := wb hk15
        obtain rfl := wb' hk15
        obtain rfl := we (by omega)
        obtain rfl := we' (by omega)
        exact ⟨by rw [hy], hz⟩
end Go.Proofs.YtmomdcnlhljhcaaDoor
/- Texts of right programs tell the programs apart: declarations. -/
set_option linter.unusedSimpArgs false
set_option linter.unusedVariables false
namespace Go.Proofs.YtmomdcnlhljhcaaDoor
open Go.RowKit Ieee

def rdD : List UInt8 → Nat → Nat × List UInt8
  | [], n => (n, [])
  | c :: t, n => if 48 ≤ c ∧ c ≤ 57 then rdD t (n * 10 + (c.toNat - 48)) else (n, c :: t)
def rdI (t : List UInt8) : Int × List UInt8 :=
  match t with
  | [] => (0, [])
  | c :: t' => if c = 45 then (-((rdD t' 0).1 : Int), (rdD t' 0).2) else (((rdD (c :: t') 0).1 : Int), (rdD (c :: t') 0).2)
def dnR (t : List UInt8) : Int × Int :=
  match (rdI t).2 with
  | [] => ((rdI t).1, 0)
  | c :: u => if c = 105 then (0, (rdI t).1) else if c = 43 then ((rdI t).1, (rdI u).1) else ((rdI t).1, (rdI (c :: u)).1)
theorem dnR_all : ∀ (a : Fin 28) (b : Fin 5), dnR (dnT ((a.val : Int) - 3) ((b.val : Int) - 2)) = ((a.val : Int) - 3, (b.val : Int) - 2) ∧ (dnT ((a.val : Int) - 3) ((b.val : Int) - 2)).all (fun c => c != 59) = true := by decide +kernel
def cut59 : List UInt8 → List UInt8 × List UInt8
  | [] => ([], [])
  | c :: t => if c = 59 then ([], t) else (c :: (cut59 t).1, (cut59 t).2)
theorem cut59_app (a t : List UInt8) (h : a.all (fun c => c != 59) = true) : cut59 (a ++ 59 :: t) = (a, t) := by
  induction a with
  | nil => simp [cut59]
  | cons c a ih =>
    simp only [List.all_cons, Bool.and_eq_true, bne_iff_ne, ne_eq] at h
    simp only [List.cons_append, cut59, if_neg h.1, ih h.2]
structure Wr (d : Dc) : Prop where
  re : -3 ≤ d.re ∧ d.re ≤ 24
  im : -2 ≤ d.im ∧ d.im ≤ 2
theorem dn_at {r i : Int} (h1 : -3 ≤ r ∧ r ≤ 24) (h2 : -2 ≤ i ∧ i ≤ 2) : dnR (dnT r i) = (r, i) ∧ (dnT r i).all (fun c => c != 59) = true := by
  have := dnR_all ⟨(r + 3).toNat, by omega⟩ ⟨(i + 2).toNat, by omega⟩
  have e1 : (((r + 3).toNat : Nat) : Int) - 3 = r := by omega
  have e2 : (((i + 2).toNat : Nat) : Int) - 2 = i := by omega
  simp only [e1, e2] at this
  exact this
theorem dn_inj {r1 i1 r2 i2 : Int} (h1 : -3 ≤ r1 ∧ r1 ≤ 24) (h2 : -2 ≤ i1 ∧ i1 ≤ 2) (h3 : -3 ≤ r2 ∧ r2 ≤ 24) (h4 : -2 ≤ i2 ∧ i2 ≤ 2) {t1 t2 : List UInt8} (he : dnT r1 i1 ++ 59 :: t1 = dnT r2 i2 ++ 59 :: t2) : r1 = r2 ∧ i1 = i2 ∧ t1 = t2 := by
  obtain ⟨a1, b1⟩ := dn_at h1 h2
  obtain ⟨a2, b2⟩ := dn_at h3 h4
  have := congrArg cut59 he
  rw [cut59_app _ _ b1, cut59_app _ _ b2] at this
  simp only [Prod.mk.injEq] at this
  have hr := congrArg dnR this.1
  rw [a1, a2] at hr
  simp only [Prod.mk.injEq] at hr
  exact ⟨hr.1, hr.2, this.2⟩
def fB : List UInt8 → UInt8
  | c :: _ => c
  | [] => 0
theorem so6 {s : Nat} (h : s < 6) : s = 0 ∨ s = 1 ∨ s = 2 ∨ s = 3 ∨ s = 4 ∨ s = 5 := by omega
def soB (s : Nat) : UInt8 := fB (swd s)
theorem fB_dc {d : Dc} (h : Wdc d) (t : List UInt8) : fB (dcT d ++ t) = soB d.so := by
  unfold dcT soB
  rcases so6 h.so with hs | hs | hs | hs | hs | hs <;> rw [hs] <;> simp [swd, fB]
theorem soB_inj : ∀ a b : Fin 6, soB a.val = soB b.val → a = b := by decide
theorem dc0 (nm : List UInt8) (r i : Int) (b : Sts) : dcT ⟨0, nm, r, i, b⟩ = swd 0 ++ [32] ++ nm ++ [32] ++ dnT r i ++ [59, 10] := rfl
theorem dc1 (nm : List UInt8) (r i : Int) (b : Sts) : dcT ⟨1, nm, r, i, b⟩ = swd 1 ++ [32] ++ nm ++ [32] ++ dnT r i ++ [59, 10] := rfl
theorem dc2 (nm : List UInt8) (r i : Int) (b : Sts) : dcT ⟨2, nm, r, i, b⟩ = swd 2 ++ [32] ++ nm ++ [59, 10] := rfl
theorem dc3 (nm : List UInt8) (r i : Int) (b : Sts) : dcT ⟨3, nm, r, i, b⟩ = swd 3 ++ [32] ++ nm ++ [32] ++ dnT r i ++ [59, 10] := rfl
theorem dc4 (nm : List UInt8) (r i : Int) (b : Sts) : dcT ⟨4, nm, r, i, b⟩ = swd 4 ++ [32] ++ dnT r i ++ [59, 10] := rfl
theorem dc5 (nm : List UInt8) (r i : Int) (b : Sts) : dcT ⟨5, nm, r, i, b⟩ = swd 5 ++ [32] ++ nm ++ ([32, 123, 10] ++ stsT b ++ [125]) ++ [10] := rfl
theorem dc_inj {d1 d2 : Dc} (h1 : Wdc d1) (h2 : Wdc d2) (r1 : Wr d1) (r2 : Wr d2) {t1 t2 : List UInt8} (he : dcT d1 ++ t1 = dcT d2 ++ t2) : d1 = d2 ∧ t1 = t2 := by
  have hso : d1.so = d2.so := by
    have := congrArg fB he
    rw [fB_dc h1, fB_dc h2] at this
    have := soB_inj ⟨d1.so, h1.so⟩ ⟨d2.so, h2.so⟩ this
    exact congrArg Fin.val this
  obtain ⟨s1, n1, re1, im1, b1⟩ := d1
  obtain ⟨s2, n2, re2, im2, b2⟩ := d2
  simp only at hso
  subst hso
  have m1 := h1.name
  have m2 := h2.name
  have q1 := h1.bare
  have q2 := h2.bare
  have z1 := h1.none
  have z2 := h2.none
  have w1 := h1.body
  have w2 := h2.body
  have a1 := r1.re
  have a2 := r2.re
  have c1 := r1.im
  have c2 := r2.im
  simp only at m1 m2 q1 q2 z1 z2 w1 w2 a1 a2 c1 c2
  rcases so6 h1.so with hs | hs | hs | hs | hs | hs <;> (simp only at hs; subst hs)
  · obtain ⟨u1, rfl⟩ : ∃ c, n1 = [120, c] := by rcases m1 with ⟨h, h'⟩ | ⟨h, h'⟩ | ⟨h, h'⟩ | ⟨h, h'⟩ | ⟨h, h'⟩ | ⟨h, h'⟩ <;> first | exact h' | (exfalso; omega)
    obtain ⟨u2, rfl⟩ : ∃ c, n2 = [120, c] := by rcases m2 with ⟨h, h'⟩ | ⟨h, h'⟩ | ⟨h, h'⟩ | ⟨h, h'⟩ | ⟨h, h'⟩ | ⟨h, h'⟩ <;> first | exact h' | (exfalso; omega)
    simp only [dc0, swd, List.append_assoc, List.cons_append, List.nil_append, List.cons.injEq, true_and] at he
    obtain ⟨e1, e2⟩ := he
    obtain ⟨e3, e4, e5⟩ := dn_inj a1 c1 a2 c2 e2
    simp only [List.cons.injEq, true_and] at e5
    rw [q1 (by decide), q2 (by decide), e1, e3, e4]
    exact ⟨rfl, e5⟩
  · obtain rfl : n1 = [118] := by rcases m1 with ⟨h, h'⟩ | ⟨h, h'⟩ | ⟨h, h'⟩ | ⟨h, h'⟩ | ⟨h, h'⟩ | ⟨h, h'⟩ <;> first | exact h' | (exfalso; omega)
    obtain rfl : n2 = [118] := by rcases m2 with ⟨h, h'⟩ | ⟨h, h'⟩ | ⟨h, h'⟩ | ⟨h, h'⟩ | ⟨h, h'⟩ | ⟨h, h'⟩ <;> first | exact h' | (exfalso; omega)
    simp only [dc1, swd, List.append_assoc, List.cons_append, List.nil_append, List.cons.injEq, true_and] at he
    obtain ⟨e3, e4, e5⟩ := dn_inj a1 c1 a2 c2 he
    simp only [List.cons.injEq, true_and] at e5
    rw [q1 (by decide), q2 (by decide), e3, e4]
    exact ⟨rfl, e5⟩
  · obtain ⟨u1, rfl⟩ : ∃ c, n1 = [109, c] := by rcases m1 with ⟨h, h'⟩ | ⟨h, h'⟩ | ⟨h, h'⟩ | ⟨h, h'⟩ | ⟨h, h'⟩ | ⟨h, h'⟩ <;> first | exact h' | (exfalso; omega)
    obtain ⟨u2, rfl⟩ : ∃ c, n2 = [109, c] := by rcases m2 with ⟨h, h'⟩ | ⟨h, h'⟩ | ⟨h, h'⟩ | ⟨h, h'⟩ | ⟨h, h'⟩ | ⟨h, h'⟩ <;> first | exact h' | (exfalso; omega)
    simp only [dc2, swd, List.append_assoc, List.cons_append, List.nil_append, List.cons.injEq, true_and] at he
    obtain ⟨e1, e2⟩ := he
    rw [q1 (by decide), q2 (by decide), e1, (z1 (.inl rfl)).1, (z1 (.inl rfl)).2, (z2 (.inl rfl)).1, (z2 (.inl rfl)).2]
    exact ⟨rfl, e2⟩
  · obtain ⟨u1, rfl⟩ : ∃ c, n1 = [115, c] := by rcases m1 with ⟨h, h'⟩ | ⟨h, h'⟩ | ⟨h, h'⟩ | ⟨h, h'⟩ | ⟨h, h'⟩ | ⟨h, h'⟩ <;> first | exact h' | (exfalso; omega)
    obtain ⟨u2, rfl⟩ : ∃ c, n2 = [115, c] := by rcases m2 with ⟨h, h'⟩ | ⟨h, h'⟩ | ⟨h, h'⟩ | ⟨h, h'⟩ | ⟨h, h'⟩ | ⟨h, h'⟩ <;> first | exact h' | (exfalso; omega)
    simp only [dc3, swd, List.append_assoc, List.cons_append, List.nil_append, List.cons.injEq, true_and] at he
    obtain ⟨e1, e2⟩ := he
    obtain ⟨e3, e4, e5⟩ := dn_inj a1 c1 a2 c2 e2
    simp only [List.cons.injEq, true_and] at e5
    rw [q1 (by decide), q2 (by decide), e1, e3, e4]
    exact ⟨rfl, e5⟩
  · obtain rfl : n1 = [] := by rcases m1 with ⟨h, h'⟩ | ⟨h, h'⟩ | ⟨h, h'⟩ | ⟨h, h'⟩ | ⟨h, h'⟩ | ⟨h, h'⟩ <;> first | exact h' | (exfalso; omega)
    obtain rfl : n2 = [] := by rcases m2 with ⟨h, h'⟩ | ⟨h, h'⟩ | ⟨h, h'⟩ | ⟨h, h'⟩ | ⟨h, h'⟩ | ⟨h, h'⟩ <;> first | exact h' | (exfalso; omega)
    simp only [dc4, swd, List.append_assoc, List.cons_append, List.nil_append, List.cons.injEq, true_and] at he
    obtain ⟨e3, e4, e5⟩ := dn_inj a1 c1 a2 c2 he
    simp only [List.cons.injEq, true_and] at e5
    rw [q1 (by decide), q2 (by decide), e3, e4]
    exact ⟨rfl, e5⟩
  · obtain ⟨u1, rfl⟩ : ∃ c, n1 = [116, c] := by rcases m1 with ⟨h, h'⟩ | ⟨h, h'⟩ | ⟨h, h'⟩ | ⟨h, h'⟩ | ⟨h, h'⟩ | ⟨h, h'⟩ <;> first | exact h' | (exfalso; omega)
    obtain ⟨u2, rfl⟩ : ∃ c, n2 = [116, c] := by rcases m2 with ⟨h, h'⟩ | ⟨h, h'⟩ | ⟨h, h'⟩ | ⟨h, h'⟩ | ⟨h, h'⟩ | ⟨h, h'⟩ <;> first | exact h' | (exfalso; omega)
    simp only [dc5, swd, List.append_assoc, List.cons_append, List.nil_append, List.cons.injEq, true_and] at he
    obtain ⟨e1, e2⟩ := he
    obtain ⟨e3, e4⟩ := sts_inj b1 b2 _ _ w1 w2 e2
    simp only [List.cons.injEq, true_and] at e4
    rw [e1, e3, (z1 (.inr rfl)).1, (z1 (.inr rfl)).2, (z2 (.inr rfl)).1, (z2 (.inr rfl)).2]
    exact ⟨rfl, e4⟩
theorem dcs_inj (l1 : List Dc) : ∀ l2 : List Dc, (∀ d ∈ l1, Wdc d ∧ Wr d) → (∀ d ∈ l2, Wdc d ∧ Wr d) → dcsT l1 = dcsT l2 → l1 = l2 := by
  induction l1 with
  | nil =>
    intro l2 _ h2 he
    cases l2 with
    | nil => rfl
    | cons d l =>
      have := dcsT_len (d :: l)
      rw [← he] at this
      simp [dcsT] at this
  | cons d l ih =>
    intro l2 h1 h2 he
    cases l2 with
    | nil =>
      have := dcsT_len (d :: l)
      rw [he] at this
      simp [dcsT] at this
    | cons d' l' =>
      simp only [dcsT] at he
      obtain ⟨e1, e2⟩ := dc_inj (h1 d List.mem_cons_self).1 (h2 d' List.mem_cons_self).1 (h1 d List.mem_cons_self).2 (h2 d' List.mem_cons_self).2 he
      rw [e1, ih l' (fun z hz => h1 z (List.mem_cons_of_mem _ hz)) (fun z hz => h2 z (List.mem_cons_of_mem _ hz)) e2]
theorem aProg_small (x : Sml) (hx : Smok x) : ∀ d ∈ aProg x, Wr d := by
  intro d hd
  have h4 := tmod_b x.n 4 (by omega)
  have h3 := tmod_b (x.n.tdiv 16) 3 (by omega)
  have zz : ∀ d : Dc, d.re = 0 → d.im = 0 → Wr d := fun d h1 h2 => ⟨by omega, by omega⟩
  rcases List.mem_append.1 hd with hd | hd
  · rcases List.mem_append.1 hd with hd | hd
    · rcases List.mem_append.1 hd with hd | hd
      · rcases List.mem_append.1 hd with hd | hd
        · rcases List.mem_append.1 hd with hd | hd
          · obtain ⟨i, _, rfl⟩ := List.mem_map.1 hd
            exact ⟨by show -3 ≤ x.n.tmod 4 ∧ x.n.tmod 4 ≤ 24; omega, by show -2 ≤ (x.n.tdiv 16).tmod 3 ∧ (x.n.tdiv 16).tmod 3 ≤ 2; omega⟩
          · split at hd
            · rw [List.mem_singleton] at hd
              subst hd
              exact ⟨by show -3 ≤ ((x.ar % 4 : Nat) : Int) ∧ ((x.ar % 4 : Nat) : Int) ≤ 24; omega, by show (-2 : Int) ≤ 0 ∧ (0 : Int) ≤ 2; omega⟩
            · cases hd
        · obtain ⟨i, _, rfl⟩ := List.mem_map.1 hd
          exact zz _ rfl rfl
      · obtain ⟨i, _, rfl⟩ := List.mem_map.1 hd
        exact ⟨by show -3 ≤ ((x.se / 4 % 3 : Nat) : Int) ∧ ((x.se / 4 % 3 : Nat) : Int) ≤ 24; omega, by show (-2 : Int) ≤ 0 ∧ (0 : Int) ≤ 2; omega⟩
    · rw [List.mem_singleton] at hd
      subst hd
      exact ⟨by show -3 ≤ ((1 + x.bu % 24 : Nat) : Int) ∧ ((1 + x.bu % 24 : Nat) : Int) ≤ 24; omega, by show (-2 : Int) ≤ 0 ∧ (0 : Int) ≤ 2; omega⟩
  · have key : ∀ (ls : List (List S5)) (i : Nat) (d : Dc), d ∈ thrs x i ls → Wr d := by
      intro ls
      induction ls with
      | nil => intro i d h; cases h
      | cons l ls ih =>
        intro i d h
        rcases List.mem_cons.1 h with rfl | h
        · exact zz _ rfl rfl
        · exact ih _ _ h
    exact key _ _ _ hd
end Go.Proofs.YtmomdcnlhljhcaaDoor
