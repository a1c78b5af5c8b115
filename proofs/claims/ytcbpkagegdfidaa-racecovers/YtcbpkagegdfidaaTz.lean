/- Runs that are the same but for swaps of neighbours that don't depend on one another: by what depends; the one form of each. Pure: over whatever is symmetric and reflexive. -/
import Derived.Test.YtcbpkagegdfidaaHb
set_option linter.unusedSimpArgs false
set_option linter.unusedVariables false
namespace Go.Proofs.Ytcbpkagegdfidaa

section
variable {α : Type} (dep : α → α → Bool)
/-- The same but for swaps. -/
inductive Tr : List α → List α → Prop
  | nil : Tr [] []
  | cons (a : α) {l m : List α} (h : Tr l m) : Tr (a :: l) (a :: m)
  | swap (a b : α) (l : List α) (h : dep a b = false) : Tr (a :: b :: l) (b :: a :: l)
  | trans {l m n : List α} (h : Tr l m) (g : Tr m n) : Tr l n
/-- What depends on none ahead of it, and what is left without it: all ways. -/
def picks : List α → List (α × List α)
  | [] => []
  | x :: l => (x, l) :: ((picks l).filter fun y => !dep x y.1).map fun y => (y.1, x :: y.2)
end
section
variable {α : Type} {dep : α → α → Bool}
theorem Tr.refl : ∀ l : List α, Tr dep l l
  | [] => .nil
  | a :: l => .cons a (Tr.refl l)
theorem Tr.symm (hs : ∀ a b, dep a b = dep b a) {l m : List α} (h : Tr dep l m) : Tr dep m l := by
  induction h with
  | nil => exact .nil
  | cons a _ ih => exact .cons a ih
  | swap a b l h => exact .swap b a l (by rw [hs]; exact h)
  | trans _ _ i1 i2 => exact .trans i2 i1
theorem Tr.perm {l m : List α} (h : Tr dep l m) : l.Perm m := by
  induction h with
  | nil => exact .nil
  | cons a _ ih => exact .cons a ih
  | swap a b l _ => exact .swap b a l
  | trans _ _ i1 i2 => exact i1.trans i2
theorem Tr.len {l m : List α} (h : Tr dep l m) : l.length = m.length := h.perm.length_eq
theorem Tr.app {l m : List α} (p : List α) (h : Tr dep l m) : Tr dep (p ++ l) (p ++ m) := by
  induction p with
  | nil => exact h
  | cons a p ih => exact .cons a ih
theorem Tr.front (a : α) : ∀ (p q : List α), (∀ c ∈ p, dep c a = false) → Tr dep (p ++ a :: q) (a :: (p ++ q))
  | [], q, _ => Tr.refl _
  | c :: p, q, h => by
    refine .trans (.cons c (Tr.front a p q fun d hd => h d (List.mem_cons_of_mem _ hd))) ?_
    exact .swap c a _ (h c (by simp))
theorem Tr.back (hs : ∀ a b, dep a b = dep b a) (a : α) (p q : List α) (h : ∀ c ∈ p, dep c a = false) : Tr dep (a :: (p ++ q)) (p ++ a :: q) := (Tr.front a p q h).symm hs
/-- Two neighbours exchanged. -/
theorem xch_split {x : List α} {k : Nat} {a b : α} (ha : x[k]? = some a) (hb : x[k + 1]? = some b) : x = x.take k ++ a :: b :: x.drop (k + 2) ∧ xch x k = x.take k ++ b :: a :: x.drop (k + 2) := by
  have hk : k + 1 < x.length := (List.getElem?_eq_some_iff.1 hb).1
  have h1 : x = x.take k ++ a :: b :: x.drop (k + 2) := by
    conv => lhs; rw [← List.take_append_drop k x]
    congr 1
    rw [List.drop_eq_getElem_cons (by omega), List.drop_eq_getElem_cons hk]
    rw [List.getElem?_eq_getElem (by omega)] at ha hb
    rw [Option.some.inj ha, Option.some.inj hb]
  refine ⟨h1, ?_⟩
  have hl : (x.take k).length = k := by rw [List.length_take]; omega
  unfold xch
  rw [ha, hb]
  simp only
  conv => lhs; rw [h1]
  rw [List.set_append_right _ _ (by omega), hl, Nat.sub_self]
  rw [List.set_append_right _ _ (by omega), hl, show k + 1 - k = 1 by omega]
  rfl
theorem tr_xch {x : List α} {k : Nat} {a b : α} (ha : x[k]? = some a) (hb : x[k + 1]? = some b) (h : dep a b = false) : Tr dep x (xch x k) := by
  obtain ⟨h1, h2⟩ := xch_split ha hb
  rw [h2]
  conv => lhs; rw [h1]
  exact (Tr.swap a b _ h).app _
/-- What is kept by each exchange is kept by all. -/
theorem Tr.closed {S : List α → Prop} (hS : ∀ (y : List α) (k : Nat) (a b : α), S y → y[k]? = some a → y[k + 1]? = some b → dep a b = false → S (xch y k)) {l m : List α} (h : Tr dep l m) : ∀ p, S (p ++ l) → S (p ++ m) := by
  induction h with
  | nil => exact fun p hp => hp
  | cons a _ ih =>
      intro p hp
      have := ih (p ++ [a]) (by simpa using hp)
      simpa using this
  | swap a b l h =>
      intro p hp
      have ha : (p ++ a :: b :: l)[p.length]? = some a := by simp
      have hb : (p ++ a :: b :: l)[p.length + 1]? = some b := by rw [List.getElem?_append_right (by omega)]; simp
      have := hS _ _ a b hp ha hb h
      have e := (xch_split ha hb).2
      rw [e] at this
      have e1 : (p ++ a :: b :: l).take p.length = p := by simp
      have e2 : (p ++ a :: b :: l).drop (p.length + 2) = l := by rw [List.drop_append, List.drop_of_length_le (by omega), show p.length + 2 - p.length = 2 by omega]; rfl
      rw [e1, e2] at this
      exact this
  | trans _ _ i1 i2 => exact fun p hp => i2 p (i1 p hp)

theorem mem_picks : ∀ {l : List α} {a : α} {r : List α}, (a, r) ∈ picks dep l ↔ ∃ p q, l = p ++ a :: q ∧ r = p ++ q ∧ ∀ c ∈ p, dep c a = false
  | [], a, r => by simp [picks]
  | x :: l, a, r => by
    simp only [picks, List.mem_cons, List.mem_map, List.mem_filter, Bool.not_eq_true', Prod.mk.injEq]
    constructor
    · rintro (⟨rfl, rfl⟩ | ⟨⟨b, s⟩, ⟨hm, hd⟩, rfl, rfl⟩)
      · exact ⟨[], _, rfl, rfl, by simp⟩
      · obtain ⟨p, q, rfl, rfl, hp⟩ := mem_picks.1 hm
        refine ⟨x :: p, q, rfl, rfl, fun c hc => ?_⟩
        rcases List.mem_cons.1 hc with rfl | hc
        · exact hd
        · exact hp c hc
    · rintro ⟨p, q, h1, rfl, hp⟩
      cases p with
      | nil =>
        simp only [List.nil_append, List.cons.injEq] at h1
        exact .inl ⟨h1.1.symm, by simpa using h1.2.symm⟩
      | cons c p =>
        simp only [List.cons_append, List.cons.injEq] at h1
        obtain ⟨rfl, rfl⟩ := h1
        exact .inr ⟨(a, p ++ q), ⟨mem_picks.2 ⟨p, q, rfl, rfl, fun d hd => hp d (List.mem_cons_of_mem _ hd)⟩, hp x (by simp)⟩, rfl, rfl⟩
theorem picks_tr {l : List α} {a : α} {r : List α} (h : (a, r) ∈ picks dep l) : Tr dep l (a :: r) := by
  obtain ⟨p, q, rfl, rfl, hp⟩ := mem_picks.1 h
  exact Tr.front a p q hp
theorem picks_len {l : List α} {a : α} {r : List α} (h : (a, r) ∈ picks dep l) : l.length = r.length + 1 := by
  have := (picks_tr h).len
  simpa using this
theorem picks_nil {l : List α} (h : picks dep l = []) : l = [] := by
  cases l with
  | nil => rfl
  | cons x l => simp [picks] at h
end

/-! ### By what depends -/
section
variable {α : Type} [DecidableEq α] {dep : α → α → Bool}
/-- Of a list those that are one of two. -/
def prj (a b : α) (l : List α) : List α := l.filter fun c => c == a || c == b
theorem prj_cons (a b c : α) (l : List α) : prj a b (c :: l) = if c == a || c == b then c :: prj a b l else prj a b l := by
  unfold prj; rw [List.filter_cons]
theorem prj_app (a b : α) (l m : List α) : prj a b (l ++ m) = prj a b l ++ prj a b m := List.filter_append ..
theorem Tr.prj (hr : ∀ a, dep a a = true) {a b : α} (hd : dep a b = true) (hd' : dep b a = true) {l m : List α} (h : Tr dep l m) : prj a b l = prj a b m := by
  induction h with
  | nil => rfl
  | cons c _ ih => rw [prj_cons, prj_cons, ih]
  | swap c d l h =>
    rw [prj_cons, prj_cons, prj_cons, prj_cons]
    by_cases hc : (c == a || c == b) = true
    · by_cases hdd : (d == a || d == b) = true
      · simp only [Bool.or_eq_true, beq_iff_eq] at hc hdd
        exfalso
        rcases hc with rfl | rfl <;> rcases hdd with rfl | rfl
        · rw [hr] at h; cases h
        · rw [hd] at h; cases h
        · rw [hd'] at h; cases h
        · rw [hr] at h; cases h
      · simp [hc, hdd]
    · by_cases hdd : (d == a || d == b) = true
      · simp [hc, hdd]
      · simp [hc, hdd]
  | trans _ _ i1 i2 => exact i1.trans i2
/-- Where the first of it is. -/
theorem split_first (a : α) : ∀ {m : List α}, a ∈ m → ∃ p q, m = p ++ a :: q ∧ a ∉ p
  | [], h => by simp at h
  | c :: m, h => by
    by_cases hc : c = a
    · subst hc; exact ⟨[], m, rfl, by simp⟩
    · rcases List.mem_cons.1 h with h | h
      · exact absurd h.symm hc
      · obtain ⟨p, q, rfl, hp⟩ := split_first a h
        refine ⟨c :: p, q, rfl, fun h => ?_⟩
        rcases List.mem_cons.1 h with h | h
        · exact hc h.symm
        · exact hp h
/-- The order of any two that depend on one another being the same, what comes first can come first. -/
theorem prj_front {a : α} {l m : List α} (hr : ∀ a, dep a a = true) (hs : ∀ a b, dep a b = dep b a) (h : ∀ b c, dep b c = true → prj b c (a :: l) = prj b c m) :
    ∃ p q, m = p ++ a :: q ∧ (∀ c ∈ p, dep c a = false) ∧ ∀ b c, dep b c = true → prj b c l = prj b c (p ++ q) := by
  have hmem : a ∈ m := by
    have h1 := h a a (hr a)
    rw [prj_cons] at h1
    simp only [beq_self_eq_true, Bool.or_true, if_true] at h1
    have : a ∈ prj a a m := by rw [← h1]; simp
    exact (List.mem_filter.1 this).1
  obtain ⟨p, q, rfl, hp⟩ := split_first a hmem
  have hin : ∀ c ∈ p, dep c a = false := by
    intro c hc
    cases hd : dep c a with
    | false => rfl
    | true =>
      exfalso
      have h1 := h c a hd
      rw [prj_cons, prj_app] at h1
      simp only [beq_self_eq_true, Bool.or_true, if_true] at h1
      have hcp : c ∈ prj c a p := List.mem_filter.2 ⟨hc, by simp⟩
      cases hpp : prj c a p with
      | nil => rw [hpp] at hcp; simp at hcp
      | cons d r =>
        rw [hpp, List.cons_append] at h1
        have hda : a = d := (List.cons.inj h1).1
        have hd2 : d ∈ prj c a p := by rw [hpp]; simp
        rw [← hda] at hd2
        exact hp (List.mem_filter.1 hd2).1
  refine ⟨p, q, rfl, hin, fun b c hbc => ?_⟩
  have h1 := h b c hbc
  rw [prj_cons, prj_app, prj_cons] at h1
  rw [prj_app]
  by_cases ha : (a == b || a == c) = true
  · rw [if_pos ha, if_pos ha] at h1
    have hpn : prj b c p = [] := by
      unfold prj
      rw [List.filter_eq_nil_iff]
      intro d hd hdd
      have hda := hin d hd
      simp only [Bool.or_eq_true, beq_iff_eq] at ha hdd
      rcases ha with rfl | rfl <;> rcases hdd with rfl | rfl
      · rw [hr] at hda; cases hda
      · rw [hs, hbc] at hda; cases hda
      · rw [hbc] at hda; cases hda
      · rw [hr] at hda; cases hda
    rw [hpn, List.nil_append] at h1 ⊢
    exact (List.cons.inj h1).2
  · rw [if_neg ha, if_neg ha] at h1
    exact h1
theorem tr_of_prj (hr : ∀ a, dep a a = true) (hs : ∀ a b, dep a b = dep b a) : ∀ (l m : List α), (∀ b c, dep b c = true → prj b c l = prj b c m) → Tr dep l m
  | [], m, h => by
    cases m with
    | nil => exact .nil
    | cons c m =>
      have h1 := h c c (hr c)
      rw [prj_cons] at h1
      simp [prj] at h1
  | a :: l, m, h => by
    obtain ⟨p, q, rfl, hin, hrest⟩ := prj_front hr hs h
    exact .trans (.cons a (tr_of_prj hr hs l (p ++ q) hrest)) (Tr.back hs a p q hin)
theorem tr_iff_prj (hr : ∀ a, dep a a = true) (hs : ∀ a b, dep a b = dep b a) {l m : List α} : Tr dep l m ↔ ∀ b c, dep b c = true → prj b c l = prj b c m :=
  ⟨fun h b c hbc => h.prj hr hbc (by rw [hs]; exact hbc), tr_of_prj hr hs l m⟩
/-- What comes first in the one can come first in the other. -/
theorem Tr.head (hr : ∀ a, dep a a = true) (hs : ∀ a b, dep a b = dep b a) {a : α} {l m : List α} (h : Tr dep (a :: l) m) : ∃ r, (a, r) ∈ picks dep m ∧ Tr dep l r := by
  obtain ⟨p, q, rfl, hin, hrest⟩ := prj_front hr hs fun b c hbc => h.prj hr hbc (by rw [hs]; exact hbc)
  exact ⟨p ++ q, mem_picks.2 ⟨p, q, rfl, rfl, hin⟩, tr_of_prj hr hs l _ hrest⟩
theorem Tr.picks (hr : ∀ a, dep a a = true) (hs : ∀ a b, dep a b = dep b a) {a : α} {l m r : List α} (h : Tr dep l m) (hp : (a, r) ∈ Go.Proofs.Ytcbpkagegdfidaa.picks dep l) : ∃ s, (a, s) ∈ Go.Proofs.Ytcbpkagegdfidaa.picks dep m ∧ Tr dep r s :=
  Tr.head hr hs (((picks_tr hp).symm hs).trans h)

/-! ### The one form -/
variable {thr : α → Int}
omit [DecidableEq α] in
/-- Of one thread one alone can come first. -/
theorem picks_one (ht : ∀ a b : α, thr a = thr b → dep a b = true) : ∀ {l : List α} {a b : α} {r s : List α}, (a, r) ∈ picks dep l → (b, s) ∈ picks dep l → thr a = thr b → a = b ∧ r = s
  | [], a, b, r, s, h, _, _ => by simp [picks] at h
  | x :: l, a, b, r, s, h, g, hab => by
    simp only [picks, List.mem_cons, List.mem_map, List.mem_filter, Bool.not_eq_true', Prod.mk.injEq] at h g
    rcases h with ⟨rfl, rfl⟩ | ⟨⟨a', r'⟩, ⟨hm, hd⟩, rfl, rfl⟩ <;> rcases g with ⟨rfl, rfl⟩ | ⟨⟨b', s'⟩, ⟨gm, gd⟩, rfl, rfl⟩
    · exact ⟨rfl, rfl⟩
    · rw [ht _ _ hab] at gd; cases gd
    · rw [ht _ _ hab.symm] at hd; cases hd
    · obtain ⟨e1, e2⟩ := picks_one ht hm gm hab
      exact ⟨e1, by simp only; rw [e2]⟩
/-- The first of the lowest. -/
def low (thr : α → Int) : List (α × List α) → Option (α × List α)
  | [] => Option.none
  | y :: ys => match low thr ys with
    | Option.none => some y
    | some z => if thr z.1 < thr y.1 then some z else some y
omit [DecidableEq α] in
theorem low_mem : ∀ {ys : List (α × List α)} {z : α × List α}, low thr ys = some z → z ∈ ys ∧ ∀ y ∈ ys, thr z.1 ≤ thr y.1
  | [], z, h => by simp [low] at h
  | y :: ys, z, h => by
    unfold low at h
    cases hl : low thr ys with
    | none =>
      rw [hl] at h
      simp only [Option.some.injEq] at h
      subst h
      have : ys = [] := by
        cases ys with
        | nil => rfl
        | cons u us =>
          unfold low at hl
          cases hu : low thr us with
          | none => rw [hu] at hl; cases hl
          | some v => rw [hu] at hl; simp only at hl; split at hl <;> cases hl
      subst this
      simp
    | some u =>
      obtain ⟨h1, h2⟩ := low_mem hl
      rw [hl] at h
      simp only at h
      split at h
      · rename_i hlt
        simp only [Option.some.injEq] at h
        subst h
        refine ⟨List.mem_cons_of_mem _ h1, fun v hv => ?_⟩
        rcases List.mem_cons.1 hv with rfl | hv
        · omega
        · exact h2 v hv
      · rename_i hlt
        simp only [Option.some.injEq] at h
        subst h
        refine ⟨by simp, fun v hv => ?_⟩
        rcases List.mem_cons.1 hv with rfl | hv
        · omega
        · have := h2 v hv; omega
omit [DecidableEq α] in
theorem low_none {ys : List (α × List α)} (h : low thr ys = Option.none) : ys = [] := by
  cases ys with
  | nil => rfl
  | cons y ys =>
    unfold low at h
    cases hu : low thr ys with
    | none => rw [hu] at h; cases h
    | some v => rw [hu] at h; simp only at h; split at h <;> cases h
/-- Always, of those that depend on none ahead of them that is left, the lowest thread's. -/
def nfN (dep : α → α → Bool) (thr : α → Int) : Nat → List α → List α
  | 0, _ => []
  | n + 1, l => match low thr (picks dep l) with
    | Option.none => []
    | some (a, r) => a :: nfN dep thr n r
def nf (dep : α → α → Bool) (thr : α → Int) (l : List α) : List α := nfN dep thr l.length l
omit [DecidableEq α] in
theorem nfN_tr : ∀ (n : Nat) (l : List α), l.length = n → Tr dep l (nfN dep thr n l)
  | 0, l, h => by
    obtain rfl := List.eq_nil_of_length_eq_zero h
    exact .nil
  | n + 1, l, h => by
    unfold nfN
    cases hl : low thr (picks dep l) with
    | none =>
      have := picks_nil (low_none hl)
      subst this
      simp at h
    | some y =>
      obtain ⟨a, r⟩ := y
      have hm := (low_mem hl).1
      have hlen := picks_len hm
      exact (picks_tr hm).trans (.cons a (nfN_tr n r (by omega)))
omit [DecidableEq α] in
theorem nf_tr (l : List α) : Tr dep l (nf dep thr l) := nfN_tr _ l rfl
theorem nfN_eq (hr : ∀ a, dep a a = true) (hs : ∀ a b, dep a b = dep b a) (ht : ∀ a b : α, thr a = thr b → dep a b = true) : ∀ (n : Nat) (l m : List α), l.length = n → Tr dep l m → nfN dep thr n l = nfN dep thr n m
  | 0, _, _, _, _ => rfl
  | n + 1, l, m, h, htr => by
    unfold nfN
    cases hl : low thr (picks dep l) with
    | none =>
      have := picks_nil (low_none hl)
      subst this
      simp at h
    | some y =>
      obtain ⟨a, r⟩ := y
      obtain ⟨hm, hmin⟩ := low_mem hl
      obtain ⟨s, hs1, hs2⟩ := htr.picks hr hs hm
      cases hl2 : low thr (picks dep m) with
      | none => rw [low_none hl2] at hs1; simp at hs1
      | some z =>
        obtain ⟨b, t⟩ := z
        obtain ⟨gm, gmin⟩ := low_mem hl2
        obtain ⟨u, hu1, hu2⟩ := (htr.symm hs).picks hr hs gm
        have h1 := hmin _ hu1
        have h2 := gmin _ hs1
        simp only at h1 h2
        obtain ⟨e1, e2⟩ := picks_one ht gm hs1 (by omega)
        subst e1; subst e2
        have hlen := picks_len hm
        simp only
        rw [nfN_eq hr hs ht n r _ (by omega) hs2]
/-- Two are the same but for swaps just if their forms are the same. -/
theorem tr_iff_nf (hr : ∀ a, dep a a = true) (hs : ∀ a b, dep a b = dep b a) (ht : ∀ a b : α, thr a = thr b → dep a b = true) {l m : List α} : Tr dep l m ↔ nf dep thr l = nf dep thr m := by
  constructor
  · intro h
    unfold nf
    rw [← h.len]
    exact nfN_eq hr hs ht _ l m rfl h
  · intro h
    exact (nf_tr (thr := thr) l).trans (by rw [h]; exact (nf_tr (thr := thr) m).symm hs)
theorem nf_nf (hr : ∀ a, dep a a = true) (hs : ∀ a b, dep a b = dep b a) (ht : ∀ a b : α, thr a = thr b → dep a b = true) (l : List α) : nf dep thr (nf dep thr l) = nf dep thr l :=
  ((tr_iff_nf hr hs ht).1 (nf_tr (thr := thr) l)).symm
omit [DecidableEq α] in
theorem nf_len (l : List α) : (nf dep thr l).length = l.length := (nf_tr (thr := thr) l).len.symm
end

/-! ### The form of places is the places' form -/
section
variable {α β : Type} (f : β → α) {dep : α → α → Bool} {thr : α → Int}
theorem picks_map : ∀ l : List β, picks dep (l.map f) = (picks (fun a b => dep (f a) (f b)) l).map fun y => (f y.1, y.2.map f)
  | [] => rfl
  | x :: l => by
    simp only [List.map_cons, picks, picks_map l, List.filter_map, List.map_map]
    rfl
theorem low_map : ∀ ys : List (β × List β), low thr (ys.map fun y => (f y.1, y.2.map f)) = (low (fun b => thr (f b)) ys).map fun y => (f y.1, y.2.map f)
  | [] => rfl
  | y :: ys => by
    rw [List.map_cons]
    unfold low
    rw [low_map ys]
    cases low (fun b => thr (f b)) ys with
    | none => rfl
    | some z =>
      simp only [Option.map_some]
      split <;> rfl
theorem nfN_map : ∀ (n : Nat) (l : List β), nfN dep thr n (l.map f) = (nfN (fun a b => dep (f a) (f b)) (fun b => thr (f b)) n l).map f
  | 0, _ => rfl
  | n + 1, l => by
    unfold nfN
    rw [picks_map, low_map]
    cases low (fun b => thr (f b)) (picks (fun a b => dep (f a) (f b)) l) with
    | none => rfl
    | some z =>
      obtain ⟨a, r⟩ := z
      simp only [Option.map_some, List.map_cons]
      rw [nfN_map n r]
theorem nf_map (l : List β) : nf dep thr (l.map f) = (nf (fun a b => dep (f a) (f b)) (fun b => thr (f b)) l).map f := by
  unfold nf
  rw [List.length_map, nfN_map]
end
end Go.Proofs.Ytcbpkagegdfidaa
