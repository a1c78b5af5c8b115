/- What happens ahead of what, races: as the document's own loops tell it; lists of places. Pure. -/
import Derived.Test.YtcbpkagegdfidaaHb
set_option linter.unusedSimpArgs false
set_option linter.unusedVariables false
namespace Go.Proofs.Ytcbpkagegdfidaa
open Classical

section
variable {α : Type} (dep : α → α → Bool) (thr : α → Int) (x : List α)
/-- Does the one at i happen ahead of that at j? -/
noncomputable def hbd (i j : Nat) : Bool := decide (Hb dep x i j)
/-- .. as far as through places below m. -/
noncomputable def hbm (i j m : Nat) : Bool := decide (∃ b, x[j]? = some b ∧ ((∃ a, x[i]? = some a ∧ dep a b = true) ∨ ∃ k a, i < k ∧ k < m ∧ x[k]? = some a ∧ dep a b = true ∧ Hb dep x i k))
/-- The places that happen ahead of one. -/
noncomputable def ahd (j : Nat) : List Nat := (List.range j).filter fun i => hbd dep x i j
noncomputable def ahn (j n : Nat) : List Nat := (List.range n).filter fun i => hbd dep x i j
/-- Is it a race, as far as the places below m tell? -/
noncomputable def racm (i j m : Nat) : Bool := decide (i < j ∧ ∃ a b, x[i]? = some a ∧ x[j]? = some b ∧ thr a ≠ thr b ∧ dep a b = true ∧ ∀ k, i < k → k < m → ¬ (Hb dep x i k ∧ Hb dep x k j))
noncomputable def racd (i j : Nat) : Bool := decide (Rac dep thr x i j)
/-- The races. -/
noncomputable def racn (j n : Nat) : List (Nat × Nat) := ((List.range n).filter fun i => racd dep thr x i j).map fun i => (i, j)
noncomputable def racs (n : Nat) : List (Nat × Nat) := (List.range n).flatMap fun j => racn dep thr x j j
end
section
variable {α : Type} {dep : α → α → Bool} {thr : α → Int} {x : List α}
theorem hbd_iff {i j : Nat} : hbd dep x i j = true ↔ Hb dep x i j := by simp [hbd]
theorem hbm_start {i j : Nat} {a b : α} (ha : x[i]? = some a) (hb : x[j]? = some b) : hbm dep x i j (i + 1) = dep a b := by
  unfold hbm
  cases hd : dep a b with
  | true => exact decide_eq_true ⟨b, hb, .inl ⟨a, ha, hd⟩⟩
  | false =>
    refine decide_eq_false ?_
    rintro ⟨b', hb', ⟨a', ha', hd'⟩ | ⟨k, a', h1, h2, _⟩⟩
    · rw [ha] at ha'; rw [hb] at hb'
      obtain rfl := Option.some.inj ha'
      obtain rfl := Option.some.inj hb'
      rw [hd] at hd'; cases hd'
    · omega
theorem hbm_step {i j m : Nat} {c b : α} (him : i < m) (hc : x[m]? = some c) (hb : x[j]? = some b) : hbm dep x i j (m + 1) = (hbm dep x i j m || (dep c b && hbd dep x i m)) := by
  have e : ∀ p q r : Bool, (p = true ↔ (q = true ∨ r = true)) → p = (q || r) := by intro p q r h; cases p <;> cases q <;> cases r <;> simp_all
  refine e _ _ _ ?_
  unfold hbm
  rw [decide_eq_true_iff, decide_eq_true_iff, Bool.and_eq_true, hbd_iff]
  constructor
  · rintro ⟨b', hb', h | ⟨k, a', h1, h2, h3, h4, h5⟩⟩
    · exact .inl ⟨b', hb', .inl h⟩
    · by_cases hk : k = m
      · subst hk
        rw [hc] at h3; rw [hb] at hb'
        obtain rfl := Option.some.inj h3
        obtain rfl := Option.some.inj hb'
        exact .inr ⟨h4, h5⟩
      · exact .inl ⟨b', hb', .inr ⟨k, a', h1, by omega, h3, h4, h5⟩⟩
  · rintro (⟨b', hb', h | ⟨k, a', h1, h2, h3⟩⟩ | ⟨h1, h2⟩)
    · exact ⟨b', hb', .inl h⟩
    · exact ⟨b', hb', .inr ⟨k, a', h1, by omega, h3⟩⟩
    · exact ⟨b, hb, .inr ⟨m, c, him, by omega, hc, h1, h2⟩⟩
theorem hbm_end {i j : Nat} (hij : i < j) : hbm dep x i j j = hbd dep x i j := by
  have e : ∀ p q : Bool, (p = true ↔ q = true) → p = q := by intro p q h; cases p <;> cases q <;> simp_all
  refine e _ _ ?_
  rw [hbd_iff, hb_iff]
  unfold hbm
  rw [decide_eq_true_iff]
  constructor
  · rintro ⟨b, hb, h | ⟨k, a, h1, h2, h3, h4, h5⟩⟩
    · exact ⟨b, hb, .inl ⟨hij, h⟩⟩
    · exact ⟨b, hb, .inr ⟨k, a, h2, h3, h4, h5⟩⟩
  · rintro ⟨b, hb, ⟨_, h⟩ | ⟨k, a, h2, h3, h4, h5⟩⟩
    · exact ⟨b, hb, .inl h⟩
    · exact ⟨b, hb, .inr ⟨k, a, h5.lt, h2, h3, h4, h5⟩⟩
theorem ahn_step (j n : Nat) : ahn dep x j (n + 1) = ahn dep x j n ++ (if hbd dep x n j then [n] else []) := by
  unfold ahn
  rw [List.range_succ, List.filter_append]
  congr 1
  by_cases h : hbd dep x n j = true <;> simp [h]
theorem mem_ahn {i j n : Nat} : i ∈ ahn dep x j n ↔ i < n ∧ Hb dep x i j := by
  unfold ahn
  rw [List.mem_filter, List.mem_range, hbd_iff]
theorem mem_ahd {i j : Nat} : i ∈ ahd dep x j ↔ Hb dep x i j := by
  show i ∈ ahn dep x j j ↔ _
  rw [mem_ahn]
  exact ⟨fun h => h.2, fun h => ⟨h.lt, h⟩⟩
theorem ahn_len (j n : Nat) : (ahn dep x j n).length ≤ n := by
  have := List.length_filter_le (fun i => hbd dep x i j) (List.range n)
  rw [List.length_range] at this
  exact this
theorem racm_start {i j : Nat} {a b : α} (hij : i < j) (ha : x[i]? = some a) (hb : x[j]? = some b) : racm dep thr x i j (i + 1) = (decide (thr a ≠ thr b) && dep a b) := by
  have e : ∀ p q r : Bool, (p = true ↔ (q = true ∧ r = true)) → p = (q && r) := by intro p q r h; cases p <;> cases q <;> cases r <;> simp_all
  refine e _ _ _ ?_
  unfold racm
  rw [decide_eq_true_iff, decide_eq_true_iff]
  constructor
  · rintro ⟨_, a', b', ha', hb', h1, h2, _⟩
    rw [ha] at ha'; rw [hb] at hb'
    obtain rfl := Option.some.inj ha'
    obtain rfl := Option.some.inj hb'
    exact ⟨h1, h2⟩
  · rintro ⟨h1, h2⟩
    exact ⟨hij, a, b, ha, hb, h1, h2, fun k h3 h4 => by omega⟩
theorem racm_step {i j m : Nat} (him : i < m) : racm dep thr x i j (m + 1) = (racm dep thr x i j m && !(hbd dep x i m && hbd dep x m j)) := by
  have e : ∀ p q r : Bool, (p = true ↔ (q = true ∧ r = false)) → p = (q && !r) := by intro p q r h; cases p <;> cases q <;> cases r <;> simp_all
  refine e _ _ _ ?_
  have hf : (hbd dep x i m && hbd dep x m j) = false ↔ ¬ (Hb dep x i m ∧ Hb dep x m j) := by
    rw [← Bool.not_eq_true, Bool.and_eq_true, hbd_iff, hbd_iff]
  rw [hf]
  unfold racm
  rw [decide_eq_true_iff, decide_eq_true_iff]
  constructor
  · rintro ⟨h0, a, b, ha, hb, h1, h2, h3⟩
    exact ⟨⟨h0, a, b, ha, hb, h1, h2, fun k h4 h5 => h3 k h4 (by omega)⟩, h3 m him (by omega)⟩
  · rintro ⟨⟨h0, a, b, ha, hb, h1, h2, h3⟩, h4⟩
    refine ⟨h0, a, b, ha, hb, h1, h2, fun k h5 h6 => ?_⟩
    by_cases hk : k = m
    · subst hk; exact h4
    · exact h3 k h5 (by omega)
theorem racm_end (i j : Nat) : racm dep thr x i j j = racd dep thr x i j := by unfold racm racd; exact decide_eq_decide.2 Iff.rfl
theorem racd_iff {i j : Nat} : racd dep thr x i j = true ↔ Rac dep thr x i j := by simp [racd]
theorem racn_step (j n : Nat) : racn dep thr x j (n + 1) = racn dep thr x j n ++ (if racd dep thr x n j then [(n, j)] else []) := by
  unfold racn
  rw [List.range_succ, List.filter_append, List.map_append]
  congr 1
  rw [List.filter_cons]
  split <;> rfl
theorem racs_step (n : Nat) : racs dep thr x (n + 1) = racs dep thr x n ++ racn dep thr x n n := by
  unfold racs
  rw [List.range_succ, List.flatMap_append]
  simp
theorem mem_racn {j n : Nat} {p : Nat × Nat} : p ∈ racn dep thr x j n ↔ p.1 < n ∧ p.2 = j ∧ Rac dep thr x p.1 j := by
  unfold racn
  simp only [List.mem_map, List.mem_filter, List.mem_range, racd_iff]
  constructor
  · rintro ⟨i, ⟨h1, h2⟩, rfl⟩; exact ⟨h1, rfl, h2⟩
  · rintro ⟨h1, h2, h3⟩; exact ⟨p.1, ⟨h1, h3⟩, by rw [← h2]⟩
theorem mem_racs {n : Nat} {p : Nat × Nat} : p ∈ racs dep thr x n ↔ p.2 < n ∧ Rac dep thr x p.1 p.2 := by
  unfold racs
  simp only [List.mem_flatMap, List.mem_range, mem_racn]
  constructor
  · rintro ⟨j, h1, h2, h3, h4⟩; rw [h3]; exact ⟨h1, h4⟩
  · rintro ⟨h1, h2⟩; exact ⟨p.2, h1, h2.1, rfl, h2⟩
theorem racs_nodup (n : Nat) : (racs dep thr x n).Nodup := by
  induction n with
  | zero => exact List.Pairwise.nil
  | succ n ih =>
    rw [racs_step]
    refine List.pairwise_append.2 ⟨ih, ?_, fun p hp q hq e => ?_⟩
    · unfold racn
      rw [List.pairwise_map]
      refine List.Pairwise.filter _ (List.Pairwise.imp ?_ (List.nodup_range (n := n)))
      intro a b h e
      exact h (Prod.mk.inj e).1
    · subst e
      have h1 := (mem_racs.1 hp).1
      have h2 := (mem_racn.1 hq).2.1
      omega
/-- Exchanged: as many races, between the same events. -/
theorem racs_xch {k : Nat} {a b : α} (ha : x[k]? = some a) (hb : x[k + 1]? = some b) (hn : dep a b = false) (hn' : dep b a = false) :
    (racs dep thr (xch x k) x.length).length = (racs dep thr x x.length).length ∧ ∀ p, p ∈ racs dep thr x x.length → (trn k p.1, trn k p.2) ∈ racs dep thr (xch x k) x.length := by
  have hk : k + 1 < x.length := (List.getElem?_eq_some_iff.1 hb).1
  have hlt : ∀ i, i < x.length → trn k i < x.length := fun i hi => by unfold trn; split <;> (try split) <;> omega
  have fwd : ∀ p, p ∈ racs dep thr x x.length → (trn k p.1, trn k p.2) ∈ racs dep thr (xch x k) x.length := fun p hp => by
    obtain ⟨h1, h2⟩ := mem_racs.1 hp
    exact mem_racs.2 ⟨hlt _ h1, h2.xch ha hb hn hn'⟩
  have bwd : ∀ p, p ∈ racs dep thr (xch x k) x.length → (trn k p.1, trn k p.2) ∈ racs dep thr x x.length := fun p hp => by
    obtain ⟨h1, h2⟩ := mem_racs.1 hp
    refine mem_racs.2 ⟨hlt _ h1, ?_⟩
    refine (rac_xch (i := trn k p.1) (j := trn k p.2) ha hb hn hn').1 ?_
    rw [trn_trn, trn_trn]
    exact h2
  have nd : ∀ l : List (Nat × Nat), l.Nodup → (l.map fun p => (trn k p.1, trn k p.2)).Nodup := fun l hl => by
    rw [List.Nodup, List.pairwise_map]
    refine List.Pairwise.imp ?_ hl
    intro p q h e
    refine h ?_
    obtain ⟨e1, e2⟩ := Prod.mk.inj e
    exact Prod.ext (trn_inj e1) (trn_inj e2)
  refine ⟨Nat.le_antisymm ?_ ?_, fwd⟩
  · have := (nd _ (racs_nodup (dep := dep) (thr := thr) (x := xch x k) x.length)).length_le_of_subset (l₂ := racs dep thr x x.length) (fun q hq => by
      obtain ⟨p, hp, rfl⟩ := List.mem_map.1 hq
      exact bwd p hp)
    rwa [List.length_map] at this
  · have := (nd _ (racs_nodup (dep := dep) (thr := thr) (x := x) x.length)).length_le_of_subset (l₂ := racs dep thr (xch x k) x.length) (fun q hq => by
      obtain ⟨p, hp, rfl⟩ := List.mem_map.1 hq
      exact fwd p hp)
    rwa [List.length_map] at this
/-- Of each thread how many: of those that happen ahead, and itself. -/
noncomputable def cnt (dep : α → α → Bool) (thr : α → Int) (x : List α) (j : Nat) (t : Int) : Nat :=
  ((List.range (j + 1)).filter fun i => decide (i = j ∨ Hb dep x i j) && decide (∃ a, x[i]? = some a ∧ thr a = t)).length
end
end Go.Proofs.Ytcbpkagegdfidaa
