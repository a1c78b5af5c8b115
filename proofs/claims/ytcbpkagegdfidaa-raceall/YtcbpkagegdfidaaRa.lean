/- Which events happen ahead of one with none between: the last one found first. Pure. -/
import Derived.Test.YtcbpkagegdfidaaAh
set_option linter.unusedSimpArgs false
set_option linter.unusedVariables false
namespace Go.Proofs.Ytcbpkagegdfidaa
open Classical

section
variable {α : Type} (dep : α → α → Bool) (thr : α → Int) (x : List α)
/-- Happens i ahead of J, with none between? -/
noncomputable def kvd (i J : Nat) : Bool := decide (Hb dep x i J ∧ ∀ k, ¬ (Hb dep x i k ∧ Hb dep x k J))
/-- Those from m on, the last one first. -/
noncomputable def cvs (J m : Nat) : List Nat := (((List.range J).filter fun i => decide (m ≤ i) && kvd dep x i J)).reverse
/-- Happens m ahead of one of the first k of them? -/
noncomputable def cvh (J m k : Nat) : Bool := decide (∃ i, i < k ∧ ∃ b, (cvs dep x J (m + 1))[i]? = some b ∧ Hb dep x m b)
end
section
variable {α : Type} {dep : α → α → Bool} {thr : α → Int} {x : List α}
theorem kvd_iff {i J : Nat} : kvd dep x i J = true ↔ Hb dep x i J ∧ ∀ k, ¬ (Hb dep x i k ∧ Hb dep x k J) := by simp [kvd]
theorem cvs_mem {J m i : Nat} : i ∈ cvs dep x J m ↔ i < J ∧ m ≤ i ∧ kvd dep x i J = true := by
  unfold cvs
  rw [List.mem_reverse, List.mem_filter, List.mem_range, Bool.and_eq_true, decide_eq_true_iff]
theorem cvs_start (J : Nat) : cvs dep x J J = [] := by
  unfold cvs
  rw [List.reverse_eq_nil_iff, List.filter_eq_nil_iff]
  intro i hi
  have := List.mem_range.1 hi
  simp; omega
theorem range_two {m J : Nat} (h : m < J) : ∃ L, List.range J = List.range m ++ m :: L ∧ ∀ i ∈ L, m < i := by
  obtain ⟨d, rfl⟩ : ∃ d, J = (m + 1) + d := ⟨J - (m + 1), by omega⟩
  refine ⟨(List.range d).map (m + 1 + ·), ?_, ?_⟩
  · rw [List.range_add, List.range_succ, List.append_assoc]; rfl
  · intro i hi
    obtain ⟨k, _, rfl⟩ := List.mem_map.1 hi
    omega
theorem cvs_step {J m : Nat} (h : m < J) : cvs dep x J m = cvs dep x J (m + 1) ++ (if kvd dep x m J then [m] else []) := by
  obtain ⟨L, hL, hm⟩ := range_two h
  unfold cvs
  rw [hL]
  have e1 : (List.range m).filter (fun i => decide (m ≤ i) && kvd dep x i J) = [] := by
    rw [List.filter_eq_nil_iff]; intro i hi; have := List.mem_range.1 hi; simp; omega
  have e2 : (List.range m).filter (fun i => decide (m + 1 ≤ i) && kvd dep x i J) = [] := by
    rw [List.filter_eq_nil_iff]; intro i hi; have := List.mem_range.1 hi; simp; omega
  have e3 : L.filter (fun i => decide (m ≤ i) && kvd dep x i J) = L.filter (fun i => decide (m + 1 ≤ i) && kvd dep x i J) := by
    refine List.filter_congr fun i hi => ?_
    have := hm i hi
    rw [decide_eq_true (show m ≤ i by omega), decide_eq_true (show m + 1 ≤ i by omega)]
  rw [List.filter_append, List.filter_append, e1, e2, List.nil_append, List.nil_append, List.filter_cons, List.filter_cons, e3]
  rw [decide_eq_true (show m ≤ m by omega), decide_eq_false (show ¬ m + 1 ≤ m by omega)]
  simp only [Bool.true_and, Bool.false_and]
  cases kvd dep x m J <;> simp
theorem cvs_len (J m : Nat) : (cvs dep x J m).length ≤ J := by
  unfold cvs
  rw [List.length_reverse]
  have := List.length_filter_le (fun i => decide (m ≤ i) && kvd dep x i J) (List.range J)
  simpa using this
/-- One that happens ahead of J, and isn't told: it happens ahead of one that is. -/
theorem kvd_up {J : Nat} : ∀ (n i : Nat), J ≤ i + n → Hb dep x i J → kvd dep x i J = false → ∃ b, Hb dep x i b ∧ kvd dep x b J = true
  | 0, i, h, hi, _ => by have := hi.lt; omega
  | n + 1, i, h, hi, hc => by
    have : ∃ k, Hb dep x i k ∧ Hb dep x k J := by
      refine Classical.byContradiction fun hno => ?_
      have : kvd dep x i J = true := kvd_iff.2 ⟨hi, fun k hk => hno ⟨k, hk⟩⟩
      rw [hc] at this; cases this
    obtain ⟨k, h1, h2⟩ := this
    cases hk : kvd dep x k J with
    | true => exact ⟨k, h1, hk⟩
    | false =>
      obtain ⟨b, h3, h4⟩ := kvd_up n k (by have := h1.lt; omega) h2 hk
      exact ⟨b, h1.trans h3, h4⟩
theorem cvh_end {J m : Nat} (hm : hbd dep x m J = true) : cvh dep x J m (cvs dep x J (m + 1)).length = !kvd dep x m J := by
  have hb := hbd_iff.1 hm
  cases hc : kvd dep x m J with
  | true =>
    refine decide_eq_false ?_
    rintro ⟨i, _, b, hi, hmb⟩
    have h2 := (cvs_mem.1 (List.mem_of_getElem? hi)).2.2
    exact (kvd_iff.1 hc).2 b ⟨hmb, (kvd_iff.1 h2).1⟩
  | false =>
    refine decide_eq_true ?_
    obtain ⟨b, h1, h2⟩ := kvd_up J m (by omega) hb hc
    have hmem : b ∈ cvs dep x J (m + 1) := cvs_mem.2 ⟨(kvd_iff.1 h2).1.lt, h1.lt, h2⟩
    obtain ⟨i, hi, he⟩ := List.getElem_of_mem hmem
    exact ⟨i, hi, b, by rw [List.getElem?_eq_getElem hi, he], h1⟩
theorem cvh_zero (J m : Nat) : cvh dep x J m 0 = false := by
  refine decide_eq_false ?_
  rintro ⟨i, hi, _⟩; omega
theorem cvh_step {J m k b : Nat} (h : (cvs dep x J (m + 1))[k]? = some b) (h0 : cvh dep x J m k = false) : cvh dep x J m (k + 1) = hbd dep x m b := by
  have hn := of_decide_eq_false h0
  cases hd : hbd dep x m b with
  | true => exact decide_eq_true ⟨k, by omega, b, h, hbd_iff.1 hd⟩
  | false =>
    refine decide_eq_false ?_
    rintro ⟨i, hi, c, hc, hm⟩
    by_cases hik : i = k
    · subst hik
      rw [h] at hc
      obtain rfl := Option.some.inj hc
      rw [hbd_iff.2 hm] at hd; cases hd
    · exact hn ⟨i, by omega, c, hc, hm⟩
theorem cvh_mono {J m k : Nat} (h : cvh dep x J m k = true) {n : Nat} (hn : k ≤ n) : cvh dep x J m n = true := by
  obtain ⟨i, hi, r⟩ := of_decide_eq_true h
  exact decide_eq_true ⟨i, by omega, r⟩
theorem kvd_no {J m : Nat} (h : hbd dep x m J = false) : kvd dep x m J = false := by
  cases hc : kvd dep x m J with
  | false => rfl
  | true => rw [hbd_iff.2 (kvd_iff.1 hc).1] at h; cases h
/-- A race: none between, unlike threads. -/
theorem racd_cvd {i J : Nat} {a b : α} (ha : x[i]? = some a) (hb : x[J]? = some b) : racd dep thr x i J = (kvd dep x i J && decide (thr a ≠ thr b)) := by
  have e : ∀ p q : Bool, (p = true ↔ q = true) → p = q := by intro p q h; cases p <;> cases q <;> simp_all
  refine e _ _ ?_
  rw [racd_iff, Bool.and_eq_true, kvd_iff, decide_eq_true_iff]
  constructor
  · rintro h
    obtain ⟨hij, a', b', ha', hb', hne, hd, hno⟩ := id h
    rw [ha] at ha'; rw [hb] at hb'
    obtain rfl := Option.some.inj ha'
    obtain rfl := Option.some.inj hb'
    exact ⟨⟨h.hb, fun k hk => hno k hk.1.lt hk.2.lt hk⟩, hne⟩
  · rintro ⟨⟨h1, h2⟩, hne⟩
    refine ⟨h1.lt, a, b, ha, hb, hne, ?_, fun k _ _ hk => h2 k hk⟩
    obtain ⟨k, a', b', hk, hkJ, ha', hb', hd⟩ := h1.last
    rw [hb] at hb'
    obtain rfl := Option.some.inj hb'
    rcases hk with rfl | hk
    · rw [ha] at ha'
      obtain rfl := Option.some.inj ha'
      exact hd
    · exact absurd ⟨hk, hb_iff.2 ⟨b, hb, .inl ⟨hkJ, a', ha', hd⟩⟩⟩ (h2 k)
/-- The races with one as the second: of those told, rising, of unlike threads. -/
theorem racn_cvs {J : Nat} {b : α} [Inhabited α] (hb : x[J]? = some b) : racn dep thr x J J = (((cvs dep x J 0).reverse.filter fun i => decide (thr x[i]! ≠ thr b)).map fun i => (i, J)) := by
  unfold racn cvs
  rw [List.reverse_reverse, List.filter_filter]
  congr 1
  refine List.filter_congr fun i hi => ?_
  have hiJ := List.mem_range.1 hi
  have hJl := (List.getElem?_eq_some_iff.1 hb).1
  have ha : x[i]? = some x[i]! := by rw [getElem!_pos x i (by omega)]; exact List.getElem?_eq_getElem _
  rw [racd_cvd ha hb]
  simp [Bool.and_comm]
end
end Go.Proofs.Ytcbpkagegdfidaa
