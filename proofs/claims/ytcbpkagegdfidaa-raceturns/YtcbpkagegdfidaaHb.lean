/- What happens ahead of what, in a list: by dependence, one behind the other. Pure: over whatever is symmetric. -/
import Derived.Sort.LotA
set_option linter.unusedSimpArgs false
set_option linter.unusedVariables false
namespace Go.Proofs.Ytcbpkagegdfidaa

section
variable {α : Type} (dep : α → α → Bool)
/-- The one at i happens ahead of that at j. -/
inductive Hb (x : List α) : Nat → Nat → Prop
  | one {i j : Nat} {a b : α} (hij : i < j) (ha : x[i]? = some a) (hb : x[j]? = some b) (hd : dep a b = true) : Hb x i j
  | more {i k j : Nat} {a b : α} (h : Hb x i k) (hkj : k < j) (ha : x[k]? = some a) (hb : x[j]? = some b) (hd : dep a b = true) : Hb x i j
end
variable {α : Type} {dep : α → α → Bool} {x : List α}
theorem Hb.lt {i j : Nat} (h : Hb dep x i j) : i < j := by
  induction h with
  | one hij => exact hij
  | more _ hkj _ _ _ ih => omega
theorem Hb.len {i j : Nat} (h : Hb dep x i j) : j < x.length := by
  cases h with
  | one _ _ hb _ => exact (List.getElem?_eq_some_iff.1 hb).1
  | more _ _ _ hb _ => exact (List.getElem?_eq_some_iff.1 hb).1
theorem Hb.trans {i j k : Nat} (h : Hb dep x i j) (g : Hb dep x j k) : Hb dep x i k := by
  induction g with
  | one hij ha hb hd => exact .more h hij ha hb hd
  | more _ hkj ha hb hd ih => exact .more ih hkj ha hb hd
/-- The last step. -/
theorem Hb.last {i j : Nat} (h : Hb dep x i j) : ∃ k a b, (k = i ∨ Hb dep x i k) ∧ k < j ∧ x[k]? = some a ∧ x[j]? = some b ∧ dep a b = true := by
  cases h with
  | one hij ha hb hd => exact ⟨i, _, _, .inl rfl, hij, ha, hb, hd⟩
  | more h hkj ha hb hd => exact ⟨_, _, _, .inr h, hkj, ha, hb, hd⟩
/-- By definition: the first one at once, or through one that depends. -/
theorem hb_iff {i j : Nat} : Hb dep x i j ↔ ∃ b, x[j]? = some b ∧ ((i < j ∧ ∃ a, x[i]? = some a ∧ dep a b = true) ∨ ∃ k a, k < j ∧ x[k]? = some a ∧ dep a b = true ∧ Hb dep x i k) := by
  constructor
  · intro h
    cases h with
    | one hij ha hb hd => exact ⟨_, hb, .inl ⟨hij, _, ha, hd⟩⟩
    | more h hkj ha hb hd => exact ⟨_, hb, .inr ⟨_, _, hkj, ha, hd, h⟩⟩
  · rintro ⟨b, hb, ⟨hij, a, ha, hd⟩ | ⟨k, a, hkj, ha, hd, h⟩⟩
    · exact .one hij ha hb hd
    · exact .more h hkj ha hb hd
/-- What happens ahead hangs on the list up to the later one alone. -/
theorem Hb.take {i j n : Nat} (h : Hb dep x i j) (hn : j < n) : Hb dep (x.take n) i j := by
  induction h with
  | one hij ha hb hd => exact .one hij (by rw [List.getElem?_take, if_pos (by omega)]; exact ha) (by rw [List.getElem?_take, if_pos (by omega)]; exact hb) hd
  | more _ hkj ha hb hd ih => exact .more (ih (by omega)) hkj (by rw [List.getElem?_take, if_pos (by omega)]; exact ha) (by rw [List.getElem?_take, if_pos (by omega)]; exact hb) hd
theorem Hb.of_take {i j n : Nat} (h : Hb dep (x.take n) i j) : Hb dep x i j := by
  have key : ∀ q (a : α), (x.take n)[q]? = some a → x[q]? = some a := fun q a h => by
    rw [List.getElem?_take] at h
    split at h
    · exact h
    · cases h
  induction h with
  | one hij ha hb hd => exact .one hij (key _ _ ha) (key _ _ hb) hd
  | more _ hkj ha hb hd ih => exact .more ih hkj (key _ _ ha) (key _ _ hb) hd

/-- The places exchanged. -/
def trn (k i : Nat) : Nat := if i = k then k + 1 else if i = k + 1 then k else i
theorem trn_trn (k i : Nat) : trn k (trn k i) = i := by
  unfold trn
  by_cases h1 : i = k
  · subst h1; simp
  · by_cases h2 : i = k + 1
    · subst h2; simp
    · simp [h1, h2]
theorem trn_inj {k i j : Nat} (h : trn k i = trn k j) : i = j := by rw [← trn_trn k i, h, trn_trn]
/-- Two neighbours exchanged. -/
def xch (x : List α) (k : Nat) : List α := match x[k]?, x[k + 1]? with
  | some a, some b => (x.set k b).set (k + 1) a
  | _, _ => x
theorem xch_len (x : List α) (k : Nat) : (xch x k).length = x.length := by
  unfold xch; split <;> simp
theorem xch_get {x : List α} {k : Nat} (h : k + 1 < x.length) (i : Nat) : (xch x k)[trn k i]? = x[i]? := by
  have ha : x[k]? = some (x[k]'(by omega)) := List.getElem?_eq_getElem _
  have hb : x[k + 1]? = some (x[k + 1]'h) := List.getElem?_eq_getElem _
  unfold xch trn
  rw [ha, hb]
  simp only
  by_cases h1 : i = k
  · subst h1
    rw [if_pos rfl, List.getElem?_set_self (by simpa using h), ha]
  · rw [if_neg h1]
    by_cases h2 : i = k + 1
    · subst h2
      rw [if_pos rfl, List.getElem?_set_ne (by omega), List.getElem?_set_self (by omega), hb]
    · rw [if_neg h2, List.getElem?_set_ne (by omega), List.getElem?_set_ne (by omega)]
theorem xch_xch {x : List α} {k : Nat} (h : k + 1 < x.length) : xch (xch x k) k = x := by
  apply List.ext_getElem?
  intro i
  have h1 := xch_get (x := xch x k) (k := k) (by rw [xch_len]; exact h) (trn k i)
  have h2 := xch_get h i
  rw [trn_trn] at h1
  rw [h1, h2]
/-- Exchanged where they don't depend on one another: what depends comes in the same order. -/
theorem trn_lt {k i j : Nat} (hij : i < j) (h : ¬ (i = k ∧ j = k + 1)) : trn k i < trn k j := by
  unfold trn
  split <;> split <;> (try split) <;> (try split) <;> omega
theorem Hb.xch {k i j : Nat} {a b : α} (ha : x[k]? = some a) (hb : x[k + 1]? = some b) (hn : dep a b = false) (h : Hb dep x i j) : Hb dep (xch x k) (trn k i) (trn k j) := by
  have hk : k + 1 < x.length := (List.getElem?_eq_some_iff.1 hb).1
  have key : ∀ {p q : Nat} {c d : α}, p < q → x[p]? = some c → x[q]? = some d → dep c d = true → trn k p < trn k q := fun {p q c d} hpq hc hd hdd => by
    refine trn_lt hpq ?_
    rintro ⟨rfl, rfl⟩
    rw [ha] at hc; rw [hb] at hd
    obtain rfl := Option.some.inj hc
    obtain rfl := Option.some.inj hd
    rw [hn] at hdd; cases hdd
  induction h with
  | one hij hc hd hdd => exact .one (key hij hc hd hdd) (by rw [xch_get hk]; exact hc) (by rw [xch_get hk]; exact hd) hdd
  | more _ hij hc hd hdd ih => exact .more ih (key hij hc hd hdd) (by rw [xch_get hk]; exact hc) (by rw [xch_get hk]; exact hd) hdd
theorem hb_xch {k i j : Nat} {a b : α} (ha : x[k]? = some a) (hb : x[k + 1]? = some b) (hn : dep a b = false) (hn' : dep b a = false) : Hb dep (xch x k) (trn k i) (trn k j) ↔ Hb dep x i j := by
  refine ⟨fun h => ?_, fun h => h.xch ha hb hn⟩
  have hk : k + 1 < x.length := (List.getElem?_eq_some_iff.1 hb).1
  have g0 : (xch x k)[k]? = some b := by
    have := xch_get hk (k + 1)
    rw [show trn k (k + 1) = k by simp [trn]] at this
    rw [this, hb]
  have g1 : (xch x k)[k + 1]? = some a := by
    have := xch_get hk k
    rw [show trn k k = k + 1 by simp [trn]] at this
    rw [this, ha]
  have := h.xch g0 g1 hn'
  rwa [xch_xch hk, trn_trn, trn_trn] at this

/-! ### Races -/
section
variable {thr : α → Int}
/-- A race: of unlike threads, the one depends on the other, with none between that the first happens ahead of and that happens ahead of the second. -/
def Rac (dep : α → α → Bool) (thr : α → Int) (x : List α) (i j : Nat) : Prop := i < j ∧ ∃ a b, x[i]? = some a ∧ x[j]? = some b ∧ thr a ≠ thr b ∧ dep a b = true ∧ ∀ k, i < k → k < j → ¬ (Hb dep x i k ∧ Hb dep x k j)
theorem Rac.hb {i j : Nat} (h : Rac dep thr x i j) : Hb dep x i j := by
  obtain ⟨hij, a, b, ha, hb, _, hd, _⟩ := h
  exact .one hij ha hb hd
/-- What happens ahead does so by races, and the order of each thread's events. -/
theorem hb_last {i : Nat} (h : ∀ a b : α, thr a = thr b → dep a b = true) : ∀ (n j : Nat), j ≤ i + n → Hb dep x i j → ∃ k, (k = i ∨ Hb dep x i k) ∧ k < j ∧ (Rac dep thr x k j ∨ ∃ a b, x[k]? = some a ∧ x[j]? = some b ∧ thr a = thr b) := by
  intro n j hn hij
  -- the latest one between
  have latest : ∀ m, m < j → (∃ k, j ≤ k + (m + 1) ∧ k < j ∧ (k = i ∨ Hb dep x i k) ∧ Hb dep x k j) → ∃ k, k < j ∧ (k = i ∨ Hb dep x i k) ∧ Hb dep x k j ∧ ∀ q, k < q → q < j → ¬ (Hb dep x i q ∧ Hb dep x q j) := by
    intro m
    induction m with
    | zero =>
      rintro _ ⟨k, h1, h2, h3, h4⟩
      exact ⟨k, h2, h3, h4, fun q hq1 hq2 => by omega⟩
    | succ m ih =>
      rintro hm ⟨k, h1, h2, h3, h4⟩
      by_cases hq : ∃ q, k < q ∧ q < j ∧ Hb dep x i q ∧ Hb dep x q j
      · obtain ⟨q, q1, q2, q3, q4⟩ := hq
        exact ih (by omega) ⟨q, by omega, q2, .inr q3, q4⟩
      · exact ⟨k, h2, h3, h4, fun q hq1 hq2 hh => hq ⟨q, hq1, hq2, hh⟩⟩
  have hij' := hij.lt
  obtain ⟨k, hk, hik, hkj, hno⟩ := latest (j - 1) (by omega) ⟨i, by omega, hij', .inl rfl, hij⟩
  refine ⟨k, hik, hk, ?_⟩
  have hdirect : ∃ a b, x[k]? = some a ∧ x[j]? = some b ∧ dep a b = true := by
    cases hkj with
    | one _ ha hb hd => exact ⟨_, _, ha, hb, hd⟩
    | more h1 h2 ha hb hd =>
      rename_i q a b
      have hiq : Hb dep x i q := by
        rcases hik with rfl | hik
        · exact h1
        · exact hik.trans h1
      exact absurd ⟨hiq, .one h2 ha hb hd⟩ (hno q h1.lt h2)
  obtain ⟨a, b, ha, hb, hd⟩ := hdirect
  by_cases ht : thr a = thr b
  · exact .inr ⟨a, b, ha, hb, ht⟩
  · refine .inl ⟨hk, a, b, ha, hb, ht, hd, fun q h1 h2 ⟨h3, h4⟩ => hno q h1 h2 ⟨?_, h4⟩⟩
    rcases hik with rfl | hik
    · exact h3
    · exact hik.trans h3
/-- .. just by them. -/
theorem hb_covers {i j : Nat} (h : ∀ a b : α, thr a = thr b → dep a b = true) : Hb dep x i j ↔ ∃ k, (k = i ∨ Hb dep x i k) ∧ k < j ∧ (Rac dep thr x k j ∨ ∃ a b, x[k]? = some a ∧ x[j]? = some b ∧ thr a = thr b) := by
  refine ⟨fun hij => hb_last h j j (by omega) hij, ?_⟩
  rintro ⟨k, hik, hkj, hr⟩
  have hkj' : Hb dep x k j := by
    rcases hr with hr | ⟨a, b, ha, hb, ht⟩
    · exact hr.hb
    · exact .one hkj ha hb (h a b ht)
  rcases hik with rfl | hik
  · exact hkj'
  · exact hik.trans hkj'
theorem Rac.xch {k i j : Nat} {a b : α} (ha : x[k]? = some a) (hb : x[k + 1]? = some b) (hn : dep a b = false) (hn' : dep b a = false) (h : Rac dep thr x i j) : Rac dep thr (xch x k) (trn k i) (trn k j) := by
  have hk : k + 1 < x.length := (List.getElem?_eq_some_iff.1 hb).1
  obtain ⟨hij, c, d, hc, hd, ht, hdd, hno⟩ := h
  have hlt := ((Hb.one hij hc hd hdd : Hb dep x i j).xch ha hb hn).lt
  refine ⟨hlt, c, d, by rw [xch_get hk]; exact hc, by rw [xch_get hk]; exact hd, ht, hdd, fun q h1 h2 ⟨h3, h4⟩ => ?_⟩
  have g3 : Hb dep x i (trn k q) := by have := (hb_xch (i := i) (j := trn k q) ha hb hn hn').1 (by rw [trn_trn]; exact h3); exact this
  have g4 : Hb dep x (trn k q) j := by have := (hb_xch (i := trn k q) (j := j) ha hb hn hn').1 (by rw [trn_trn]; exact h4); exact this
  exact hno _ g3.lt g4.lt ⟨g3, g4⟩
theorem rac_xch {k i j : Nat} {a b : α} (ha : x[k]? = some a) (hb : x[k + 1]? = some b) (hn : dep a b = false) (hn' : dep b a = false) : Rac dep thr (xch x k) (trn k i) (trn k j) ↔ Rac dep thr x i j := by
  refine ⟨fun h => ?_, fun h => h.xch ha hb hn hn'⟩
  have hk : k + 1 < x.length := (List.getElem?_eq_some_iff.1 hb).1
  have g0 : (xch x k)[k]? = some b := by
    have := xch_get hk (k + 1)
    rw [show trn k (k + 1) = k by simp [trn]] at this
    rw [this, hb]
  have g1 : (xch x k)[k + 1]? = some a := by
    have := xch_get hk k
    rw [show trn k k = k + 1 by simp [trn]] at this
    rw [this, ha]
  have := h.xch g0 g1 hn' hn
  rwa [xch_xch hk, trn_trn, trn_trn] at this
end
end Go.Proofs.Ytcbpkagegdfidaa
