/- The one form by places, as the document's own loops tell it; whatever comes of a list by exchanging neighbours, one by one. Pure. -/
import Derived.Test.YtcbpkagegdfidaaTz
set_option linter.unusedSimpArgs false
set_option linter.unusedVariables false
namespace Go.Proofs.Ytcbpkagegdfidaa

section
variable {α : Type} (dep : α → α → Bool) (thr : α → Int)
/-- Those that depend on none ahead of them, where 'seen' lies ahead. -/
def frs (seen : List α) : List α → List α
  | [] => []
  | i :: q => (if seen.all fun k => !dep k i then [i] else []) ++ frs (seen ++ [i]) q
/-- The first of the lowest, from the left: the best so far. -/
def mnF : Option α → List α → Option α
  | b, [] => b
  | Option.none, i :: l => mnF (some i) l
  | some b, i :: l => mnF (some (if thr i < thr b then i else b)) l
end
section
variable {α : Type} {dep : α → α → Bool} {thr : α → Int}
theorem frs_picks : ∀ (l seen : List α), frs dep seen l = ((picks dep l).filter fun y => seen.all fun k => !dep k y.1).map (·.1)
  | [], seen => rfl
  | x :: l, seen => by
    rw [frs, picks, List.filter_cons, frs_picks l (seen ++ [x]), List.filter_map, List.filter_filter]
    have e : (fun y : α × List α => (seen ++ [x]).all fun k => !dep k y.1) = fun y => ((fun y : α × List α => seen.all fun k => !dep k y.1) ∘ fun y => (y.1, x :: y.2)) y && !dep x y.1 := by
      funext y
      simp only [List.all_append, List.all_cons, List.all_nil, Bool.and_true, Function.comp]
    rw [e]
    by_cases h : (seen.all fun k => !dep k x) = true
    · simp only [h, if_true, List.map_cons, List.map_map]
      rfl
    · simp only [h, if_false, Bool.false_eq_true, List.map_map, List.nil_append]
      rfl
/-- The list up to a place, and behind. -/
theorem frs_app : ∀ (p q seen : List α), frs dep seen (p ++ q) = frs dep seen p ++ frs dep (seen ++ p) q
  | [], q, seen => by simp [frs]
  | i :: p, q, seen => by
    rw [List.cons_append, frs, frs, frs_app p q (seen ++ [i])]
    simp [List.append_assoc]
theorem frs_all (l : List α) : frs dep [] l = (picks dep l).map (·.1) := by
  rw [frs_picks]
  congr 1
  rw [List.filter_eq_self]
  simp
theorem mnF_some : ∀ (l : List α) (b : α), mnF thr (some b) l = some (match mnF thr Option.none l with
    | Option.none => b
    | some z => if thr z < thr b then z else b)
  | [], b => rfl
  | i :: l, b => by
    show mnF thr (some (if thr i < thr b then i else b)) l = _
    rw [show mnF thr Option.none (i :: l) = mnF thr (some i) l from rfl, mnF_some l i, mnF_some l (if thr i < thr b then i else b)]
    cases mnF thr Option.none l with
    | none => rfl
    | some z =>
      simp only
      by_cases h1 : thr i < thr b
      · rw [if_pos h1]
        by_cases h2 : thr z < thr i
        · rw [if_pos h2, if_pos (by omega)]
        · rw [if_neg h2, if_pos h1]
      · rw [if_neg h1]
        by_cases h2 : thr z < thr i
        · rw [if_pos h2]
        · rw [if_neg h2, if_neg (by omega), if_neg h1]
theorem low_mnF : ∀ ys : List (α × List α), (low thr ys).map (·.1) = mnF thr Option.none (ys.map (·.1))
  | [] => rfl
  | y :: ys => by
    rw [List.map_cons]
    show _ = mnF thr (some y.1) (ys.map (·.1))
    rw [mnF_some, ← low_mnF ys, low]
    cases low thr ys with
    | none => rfl
    | some z =>
      simp only [Option.map_some]
      by_cases h : thr z.1 < thr y.1
      · rw [if_pos h, if_pos h]; rfl
      · rw [if_neg h, if_neg h]; rfl
theorem mnF_none {l : List α} (h : mnF thr Option.none l = Option.none) : l = [] := by
  cases l with
  | nil => rfl
  | cons i l => rw [show mnF thr Option.none (i :: l) = mnF thr (some i) l from rfl, mnF_some] at h; cases h
end

/-! ### Places -/
section
variable {dep : Nat → Nat → Bool} {thr : Nat → Int}
/-- One step: the best of what is left, and what is left then. -/
theorem nfN_step {n : Nat} {left : List Nat} (hnd : left.Nodup) {b : Nat} (hb : mnF thr Option.none (frs dep [] left) = some b) :
    nfN dep thr (n + 1) left = b :: nfN dep thr n (left.filter fun i => decide (i ≠ b)) ∧ b ∈ left ∧ (left.filter fun i => decide (i ≠ b)).length + 1 = left.length ∧ (left.filter fun i => decide (i ≠ b)).Nodup := by
  rw [frs_all, ← low_mnF] at hb
  cases hl : low thr (picks dep left) with
  | none => rw [hl] at hb; cases hb
  | some y =>
    obtain ⟨a, r⟩ := y
    rw [hl] at hb
    simp only [Option.map_some, Option.some.injEq] at hb
    subst hb
    obtain ⟨p, q, rfl, rfl, _⟩ := mem_picks.1 (low_mem hl).1
    have hnd' := List.pairwise_append.1 hnd
    have hq := List.pairwise_cons.1 hnd'.2.1
    have e : (p ++ a :: q).filter (fun i => decide (i ≠ a)) = p ++ q := by
      rw [List.filter_append, List.filter_cons]
      have h1 : p.filter (fun i => decide (i ≠ a)) = p := by
        rw [List.filter_eq_self]
        intro c hc
        exact decide_eq_true (hnd'.2.2 c hc a (by simp))
      have h2 : q.filter (fun i => decide (i ≠ a)) = q := by
        rw [List.filter_eq_self]
        intro c hc
        exact decide_eq_true (hq.1 c hc).symm
      rw [h1, h2, if_neg (by simp)]
    rw [e]
    refine ⟨?_, by simp, by simp; omega, ?_⟩
    · rw [nfN, hl]
    · exact List.pairwise_append.2 ⟨hnd'.1, hq.2, fun c hc d hd => hnd'.2.2 c hc d (List.mem_cons_of_mem _ hd)⟩
end
section
variable {α : Type} [Inhabited α] {dep : α → α → Bool} {thr : α → Int}
/-- The places of a list's form. -/
def nfI (dep : α → α → Bool) (thr : α → Int) (x : List α) : List Nat := nf (fun i j => dep x[i]! x[j]!) (fun i => thr x[i]!) (List.range x.length)
theorem range_get (x : List α) : (List.range x.length).map (fun i => x[i]!) = x := by
  apply List.ext_getElem
  · simp
  · intro i h1 h2
    simp [getElem!_pos, h2]
theorem nfI_map (x : List α) : (nfI dep thr x).map (fun i => x[i]!) = nf dep thr x := by
  unfold nfI
  rw [← nf_map (fun i => x[i]!) (dep := dep) (thr := thr), range_get]
theorem nfI_perm (x : List α) : (nfI dep thr x).Perm (List.range x.length) := (nf_tr _).perm.symm
theorem nfI_len (x : List α) : (nfI dep thr x).length = x.length := by rw [(nfI_perm x).length_eq, List.length_range]
theorem nfI_lt {x : List α} {i : Nat} (h : i ∈ nfI dep thr x) : i < x.length := List.mem_range.1 ((nfI_perm x).mem_iff.1 h)
end

/-! ### All that comes of a list by exchanges -/
section
variable {α : Type} {dep : α → α → Bool}
/-- Two neighbours exchanged, where they don't depend on one another. -/
def swp (dep : α → α → Bool) (l : List α) (i : Nat) : List α := match l[i]?, l[i + 1]? with
  | some a, some b => if dep a b then l else xch l i
  | _, _ => l
theorem swp_out {l : List α} {i : Nat} (h : l.length ≤ i + 1) : swp dep l i = l := by
  unfold swp
  rw [show l[i + 1]? = Option.none from List.getElem?_eq_none h]
  cases l[i]? <;> rfl
theorem swp_in {l : List α} {i : Nat} {a b : α} (ha : l[i]? = some a) (hb : l[i + 1]? = some b) : swp dep l i = if dep a b then l else xch l i := by
  unfold swp; rw [ha, hb]
theorem swp_tr (l : List α) (i : Nat) : Tr dep l (swp dep l i) := by
  unfold swp
  split
  · rename_i a b ha hb
    cases hd : dep a b with
    | true => simp only [if_true]; exact Tr.refl _
    | false => simp only [Bool.false_eq_true, if_false]; exact tr_xch ha hb hd
  · exact Tr.refl _
theorem swp_len (l : List α) (i : Nat) : (swp dep l i).length = l.length := (swp_tr l i).len.symm
/-- A list of lists that holds what each exchange in one of them gives holds all that is the same but for swaps. -/
theorem all_closed {x : List α} {out : List (List α)} (hx : x ∈ out) (hc : ∀ y ∈ out, ∀ i, i < x.length → swp dep y i ∈ out) {y : List α} (h : Tr dep x y) : y ∈ out := by
  have key := Tr.closed (S := fun z => z ∈ out ∧ z.length = x.length) (dep := dep) (fun z k a b hz ha hb hd => by
    have hk : k + 1 < z.length := (List.getElem?_eq_some_iff.1 hb).1
    have := hc z hz.1 k (by rw [← hz.2]; omega)
    rw [swp_in ha hb, hd] at this
    simp only [Bool.false_eq_true, if_false] at this
    exact ⟨this, by rw [xch_len]; exact hz.2⟩) h [] ⟨hx, rfl⟩
  exact key.1
/-- All orders. -/
def ins (a : α) : List α → List (List α)
  | [] => [[a]]
  | b :: l => (a :: b :: l) :: (ins a l).map (b :: ·)
def prm : List α → List (List α)
  | [] => [[]]
  | a :: l => (prm l).flatMap (ins a)
theorem ins_len (a : α) : ∀ l : List α, (ins a l).length = l.length + 1
  | [] => rfl
  | b :: l => by simp [ins, ins_len a l]
theorem ins_mem (a : α) : ∀ p q : List α, p ++ a :: q ∈ ins a (p ++ q)
  | [], [] => by simp [ins]
  | [], b :: q => by simp [ins]
  | c :: p, q => by
    simp only [List.cons_append, ins, List.mem_cons, List.mem_map]
    exact .inr ⟨_, ins_mem a p q, rfl⟩
theorem prm_each : ∀ (l : List α), ∀ m ∈ prm l, m.length = l.length
  | [], m, h => by simp [prm] at h; simp [h]
  | a :: l, m, h => by
    simp only [prm, List.mem_flatMap] at h
    obtain ⟨r, hr, hm⟩ := h
    have := prm_each l r hr
    have hins : ∀ (s : List α), ∀ m ∈ ins a s, m.length = s.length + 1 := by
      intro s
      induction s with
      | nil => intro m hm; simp [ins] at hm; simp [hm]
      | cons b s ih =>
        intro m hm
        simp only [ins, List.mem_cons, List.mem_map] at hm
        rcases hm with rfl | ⟨t, ht, rfl⟩
        · simp
        · have := ih t ht; simp [this]
    rw [hins r m hm, this]; simp
theorem prm_mem : ∀ (l m : List α), l.Perm m → m ∈ prm l
  | [], m, h => by rw [List.nil_perm.1 h]; simp [prm]
  | a :: l, m, h => by
    have ha : a ∈ m := h.mem_iff.1 (by simp)
    obtain ⟨p, q, rfl⟩ := List.append_of_mem ha
    have h2 : l.Perm (p ++ q) := by
      have := h.trans (List.perm_middle (l₁ := p) (l₂ := q) (a := a))
      exact List.Perm.cons_inv this
    simp only [prm, List.mem_flatMap]
    exact ⟨p ++ q, prm_mem l _ h2, ins_mem a p q⟩
def fac : Nat → Nat
  | 0 => 1
  | n + 1 => fac n * (n + 1)
theorem prm_len : ∀ l : List α, (prm l).length = fac l.length
  | [] => rfl
  | a :: l => by
    have h : ∀ ls : List (List α), (∀ m ∈ ls, m.length = l.length) → (ls.flatMap (ins a)).length = ls.length * (l.length + 1) := by
      intro ls
      induction ls with
      | nil => intro _; simp
      | cons m ls ih =>
        intro hm
        rw [List.flatMap_cons, List.length_append, ih fun n hn => hm n (List.mem_cons_of_mem _ hn), ins_len, hm m (by simp), List.length_cons, Nat.add_mul, Nat.one_mul, Nat.add_comm]
    rw [prm, h _ (prm_each l), prm_len l]
    rfl
theorem fac_le : ∀ {n m : Nat}, n ≤ m → fac n ≤ fac m := by
  intro n m h
  induction m with
  | zero => rw [Nat.le_zero.1 h]; exact Nat.le_refl _
  | succ m ih =>
    by_cases hn : n = m + 1
    · rw [hn]; exact Nat.le_refl _
    · have := ih (by omega)
      have h2 : fac m * 1 ≤ fac m * (m + 1) := Nat.mul_le_mul_left _ (by omega)
      rw [Nat.mul_one] at h2
      exact Nat.le_trans this h2
/-- So many that are the same but for swaps there are at most. -/
theorem out_len [DecidableEq α] {x : List α} {out : List (List α)} (hnd : out.Nodup) (h : ∀ y ∈ out, Tr dep x y) (hx : x.length ≤ 5) : out.length ≤ 120 := by
  have h1 := hnd.length_le_of_subset (l₂ := prm x) fun y hy => prm_mem x y (h y hy).perm
  rw [prm_len] at h1
  exact Nat.le_trans h1 (fac_le hx)
end
end Go.Proofs.Ytcbpkagegdfidaa
