/- Marks by objects: each object once, written, if one of its marks is. Pure. -/
import Derived.Sort.LotA
set_option linter.unusedSimpArgs false
set_option linter.unusedVariables false
namespace Go.Proofs.Ytcbpkagegdfidaa

/-- The marks stand by objects, each object once. -/
def asc (l : List (Int × Bool)) : Prop := l.Pairwise fun x y => x.1 < y.1
/-- Is an object touched, is it written? -/
def smo (l : List (Int × Bool)) (o : Int) : Bool := l.any fun x => x.1 == o
def wro (l : List (Int × Bool)) (o : Int) : Bool := l.any fun x => x.1 == o && x.2
theorem smo_iff {l : List (Int × Bool)} {o : Int} : smo l o = true ↔ ∃ b, (o, b) ∈ l := by
  simp only [smo, List.any_eq_true, beq_iff_eq]
  constructor
  · rintro ⟨⟨p, b⟩, h, rfl⟩; exact ⟨b, h⟩
  · rintro ⟨b, h⟩; exact ⟨_, h, rfl⟩
theorem wro_iff {l : List (Int × Bool)} {o : Int} : wro l o = true ↔ (o, true) ∈ l := by
  simp only [wro, List.any_eq_true, Bool.and_eq_true, beq_iff_eq]
  constructor
  · rintro ⟨⟨p, b⟩, h, rfl, hb⟩; simp only at hb; subst hb; exact h
  · intro h; exact ⟨_, h, rfl, rfl⟩
theorem smo_of_wro {l : List (Int × Bool)} {o : Int} (h : wro l o = true) : smo l o = true := smo_iff.2 ⟨_, wro_iff.1 h⟩
theorem bool_ext {a b : Bool} (h : a = true ↔ b = true) : a = b := by
  cases a <;> cases b <;> simp_all

/-- m: l's marks by objects. -/
structure Nrm (l m : List (Int × Bool)) : Prop where
  asc : asc m
  mem : ∀ o b, (o, b) ∈ m ↔ smo l o = true ∧ b = wro l o
theorem asc_ext : ∀ {m n : List (Int × Bool)}, asc m → asc n → (∀ x, x ∈ m ↔ x ∈ n) → m = n
  | [], [], _, _, _ => rfl
  | [], y :: n, _, _, h => by have := (h y).2 (by simp); simp at this
  | x :: m, [], _, _, h => by have := (h x).1 (by simp); simp at this
  | x :: m, y :: n, hm, hn, h => by
    have hm' := List.pairwise_cons.1 hm
    have hn' := List.pairwise_cons.1 hn
    have e : x = y := by
      have h1 := (h x).1 (by simp)
      have h2 := (h y).2 (by simp)
      rcases List.mem_cons.1 h1 with h1 | h1
      · exact h1
      · rcases List.mem_cons.1 h2 with h2 | h2
        · exact h2.symm
        · have a := hn'.1 x h1
          have b := hm'.1 y h2
          omega
    subst e
    refine congrArg _ (asc_ext hm'.2 hn'.2 fun z => ⟨fun hz => ?_, fun hz => ?_⟩)
    · have a := hm'.1 z hz
      rcases List.mem_cons.1 ((h z).1 (List.mem_cons_of_mem _ hz)) with h1 | h1
      · rw [h1] at a; omega
      · exact h1
    · have a := hn'.1 z hz
      rcases List.mem_cons.1 ((h z).2 (List.mem_cons_of_mem _ hz)) with h1 | h1
      · rw [h1] at a; omega
      · exact h1
theorem Nrm.smo {l m : List (Int × Bool)} (h : Nrm l m) (o : Int) : smo m o = smo l o := by
  refine bool_ext (smo_iff.trans ⟨?_, fun hs => ⟨_, (h.mem o (wro l o)).2 ⟨hs, rfl⟩⟩⟩)
  rintro ⟨b, hb⟩; exact ((h.mem o b).1 hb).1
theorem Nrm.wro {l m : List (Int × Bool)} (h : Nrm l m) (o : Int) : wro m o = wro l o := by
  refine bool_ext (wro_iff.trans ?_)
  rw [h.mem]
  exact ⟨fun hs => hs.2.symm, fun hs => ⟨smo_of_wro hs, hs.symm⟩⟩
theorem Nrm.eq {l k m n : List (Int × Bool)} (h : Nrm l m) (g : Nrm k n) (hs : ∀ o, Go.Proofs.Ytcbpkagegdfidaa.smo l o = Go.Proofs.Ytcbpkagegdfidaa.smo k o) (hw : ∀ o, Go.Proofs.Ytcbpkagegdfidaa.wro l o = Go.Proofs.Ytcbpkagegdfidaa.wro k o) : m = n :=
  asc_ext h.asc g.asc fun x => by rw [show x = (x.1, x.2) from rfl, h.mem, g.mem, hs, hw]
theorem nrm_self {l : List (Int × Bool)} (h : asc l) : Nrm l l := by
  refine ⟨h, fun o b => ⟨fun hb => ⟨smo_iff.2 ⟨_, hb⟩, ?_⟩, fun ⟨hs, hb⟩ => ?_⟩⟩
  · have key : ∀ c, (o, c) ∈ l → c = b := by
      intro c hc
      induction l with
      | nil => simp at hb
      | cons x l ih =>
        have h' := List.pairwise_cons.1 h
        rcases List.mem_cons.1 hb with h1 | h1 <;> rcases List.mem_cons.1 hc with h2 | h2
        · rw [← h1] at h2; exact (Prod.mk.inj h2).2
        · have := h'.1 _ h2; rw [← h1] at this; simp at this
        · have := h'.1 _ h1; rw [← h2] at this; simp at this
        · exact ih h'.2 h1 h2
    cases hb' : b with
    | true => subst hb'; exact (wro_iff.2 hb).symm
    | false =>
      cases hw : wro l o with
      | false => rfl
      | true => have := key true (wro_iff.1 hw); rw [hb'] at this; cases this
  · obtain ⟨c, hc⟩ := smo_iff.1 hs
    cases hw : wro l o with
    | true => rw [hb, hw]; exact wro_iff.1 hw
    | false =>
      rw [hb, hw]
      cases c with
      | false => exact hc
      | true => rw [wro_iff.2 hc] at hw; cases hw

/-- The order of marks: by objects, the written ones first. -/
def cmpM (x y : Int × Bool) : Int := if x.1 = y.1 ∧ x.2 = y.2 then 0 else if x.1 ≠ y.1 then (if x.1 < y.1 then -1 else 1) else if x.2 then -1 else 1
def ltM (x y : Int × Bool) : Bool := decide (x.1 < y.1) || (x.1 == y.1 && x.2 && !y.2)
theorem ltM_of (x y : Int × Bool) : decide (cmpM x y < 0) = ltM x y := by
  unfold cmpM ltM
  obtain ⟨a, b⟩ := x
  obtain ⟨c, d⟩ := y
  simp only
  by_cases h : a = c
  · subst h
    cases b <;> cases d <;> simp
  · by_cases h2 : a < c
    · simp [h, h2]
    · simp [h, h2]
theorem ltM_iff {x y : Int × Bool} : ltM x y = true ↔ x.1 < y.1 ∨ (x.1 = y.1 ∧ x.2 = true ∧ y.2 = false) := by
  simp [ltM, and_assoc]
theorem ltM_no {x y : Int × Bool} (h : ltM y x = false) : x.1 < y.1 ∨ (x.1 = y.1 ∧ (x.2 = true ∨ y.2 = false)) := by
  have h' : ¬ (ltM y x = true) := by rw [h]; simp
  rw [ltM_iff] at h'
  cases hx : x.2 <;> cases hy : y.2 <;> simp [hx, hy] at h' ⊢ <;> omega
theorem swoM : Go.Sort.SWO ltM where
  irrefl x := by
    cases h : ltM x x with
    | false => rfl
    | true => rw [ltM_iff] at h; rcases h with h | ⟨_, h1, h2⟩
              · omega
              · rw [h1] at h2; cases h2
  trans x y z h1 h2 := by
    rw [ltM_iff] at *
    rcases h1 with h1 | ⟨h1, a, b⟩ <;> rcases h2 with h2 | ⟨h2, c, d⟩
    · left; omega
    · left; omega
    · left; omega
    · rw [b] at c; cases c
  ntrans x y z h1 h2 := by
    cases h : ltM x z with
    | false => rfl
    | true =>
      have h3 := ltM_no h1
      have h4 := ltM_no h2
      rw [ltM_iff] at h
      rcases h with h | ⟨h, a, b⟩
      · rcases h3 with h3 | ⟨h3, _⟩ <;> rcases h4 with h4 | ⟨h4, _⟩ <;> omega
      · rcases h3 with h3 | ⟨h3, c⟩ <;> rcases h4 with h4 | ⟨h4, d⟩
        · omega
        · omega
        · omega
        · rw [b] at d
          rw [a] at c
          simp at c d
          rw [c] at d; cases d

/-- Of neighbours of one object the first one. -/
def cptF (p : Int) : List (Int × Bool) → List (Int × Bool)
  | [] => []
  | y :: r => if y.1 = p then cptF p r else y :: cptF y.1 r
def cpt : List (Int × Bool) → List (Int × Bool)
  | [] => []
  | x :: r => x :: cptF x.1 r
abbrev stdd (l : List (Int × Bool)) : Prop := l.Pairwise fun x y => ltM y x = false
theorem smo_cons (x : Int × Bool) (l : List (Int × Bool)) (o : Int) : smo (x :: l) o = (x.1 == o || smo l o) := rfl
theorem wro_cons (x : Int × Bool) (l : List (Int × Bool)) (o : Int) : wro (x :: l) o = (x.1 == o && x.2 || wro l o) := rfl
theorem wro_head {y : Int × Bool} {r : List (Int × Bool)} (hs : stdd (y :: r)) : wro (y :: r) y.1 = y.2 := by
  have hs' := List.pairwise_cons.1 hs
  rw [wro_cons]
  cases hy : y.2 with
  | true => simp
  | false =>
    simp only [Bool.and_false, Bool.false_or]
    cases hw : wro r y.1 with
    | false => rfl
    | true =>
      have h := hs'.1 _ (wro_iff.1 hw)
      have := ltM_no h
      simp [hy] at this
theorem cptF_spec : ∀ (l : List (Int × Bool)) (p : Int), stdd l → (∀ x ∈ l, p ≤ x.1) →
    asc (cptF p l) ∧ (∀ x ∈ cptF p l, p < x.1) ∧ ∀ o b, (o, b) ∈ cptF p l ↔ p < o ∧ smo l o = true ∧ b = wro l o
  | [], p, _, _ => by refine ⟨List.Pairwise.nil, by simp [cptF], fun o b => by simp [cptF, smo]⟩
  | y :: r, p, hs, hp => by
    have hs' := List.pairwise_cons.1 hs
    have hy := hp y (by simp)
    by_cases he : y.1 = p
    · have ih := cptF_spec r p hs'.2 fun x hx => hp x (List.mem_cons_of_mem _ hx)
      rw [show cptF p (y :: r) = cptF p r by simp [cptF, he]]
      refine ⟨ih.1, ih.2.1, fun o b => ?_⟩
      rw [ih.2.2, smo_cons, wro_cons]
      constructor
      · rintro ⟨h1, h2, h3⟩
        have : (y.1 == o) = false := by simp; omega
        simp [this, h1, h2, h3]
      · rintro ⟨h1, h2, h3⟩
        have : (y.1 == o) = false := by simp; omega
        simp [this] at h2 h3
        exact ⟨h1, h2, h3⟩
    · have hge : ∀ x ∈ r, y.1 ≤ x.1 := fun x hx => by have := ltM_no (hs'.1 x hx); omega
      have ih := cptF_spec r y.1 hs'.2 hge
      rw [show cptF p (y :: r) = y :: cptF y.1 r by simp [cptF, he]]
      refine ⟨List.pairwise_cons.2 ⟨ih.2.1, ih.1⟩, fun x hx => ?_, fun o b => ?_⟩
      · rcases List.mem_cons.1 hx with rfl | hx
        · omega
        · have := ih.2.1 x hx; omega
      · rw [List.mem_cons, ih.2.2]
        constructor
        · rintro (h | ⟨h1, h2, h3⟩)
          · obtain ⟨rfl, rfl⟩ : o = y.1 ∧ b = y.2 := by rw [← h]; exact ⟨rfl, rfl⟩
            exact ⟨by omega, by simp [smo_cons], (wro_head hs).symm⟩
          · have : (y.1 == o) = false := by simp; omega
            rw [smo_cons, wro_cons]
            simp [this, h2, h3]; omega
        · rintro ⟨h1, h2, h3⟩
          by_cases ho : o = y.1
          · left
            subst ho
            rw [wro_head hs] at h3
            rw [h3]
          · right
            have : (y.1 == o) = false := by simp; omega
            rw [smo_cons] at h2
            rw [wro_cons] at h3
            simp [this] at h2 h3
            refine ⟨?_, h2, h3⟩
            obtain ⟨c, hc⟩ := smo_iff.1 h2
            have := hge _ hc
            simp at this; omega
theorem cpt_spec {l : List (Int × Bool)} (hs : stdd l) : Nrm l (cpt l) := by
  cases l with
  | nil => exact ⟨List.Pairwise.nil, fun o b => by simp [cpt, smo]⟩
  | cons x r =>
    have hs' := List.pairwise_cons.1 hs
    have h := cptF_spec r (x.1 - 1) hs'.2 fun z hz => by have := ltM_no (hs'.1 z hz); omega
    have g := cptF_spec (x :: r) (x.1 - 1) hs fun z hz => by
      rcases List.mem_cons.1 hz with rfl | hz
      · omega
      · have := ltM_no (hs'.1 z hz); omega
    rw [show cptF (x.1 - 1) (x :: r) = cpt (x :: r) by simp [cptF, cpt]; omega] at g
    refine ⟨g.1, fun o b => ?_⟩
    rw [g.2.2]
    constructor
    · rintro ⟨_, h⟩; exact h
    · rintro ⟨h1, h2⟩
      refine ⟨?_, h1, h2⟩
      obtain ⟨c, hc⟩ := smo_iff.1 h1
      rcases List.mem_cons.1 hc with hc | hc
      · rw [← hc]; simp only; omega
      · have := ltM_no (hs'.1 _ hc)
        simp only at this; omega
theorem smo_perm {l k : List (Int × Bool)} (h : l.Perm k) (o : Int) : smo l o = smo k o :=
  bool_ext (by rw [smo_iff, smo_iff]; exact ⟨fun ⟨b, hb⟩ => ⟨b, h.mem_iff.1 hb⟩, fun ⟨b, hb⟩ => ⟨b, h.mem_iff.2 hb⟩⟩)
theorem wro_perm {l k : List (Int × Bool)} (h : l.Perm k) (o : Int) : wro l o = wro k o :=
  bool_ext (by rw [wro_iff, wro_iff]; exact h.mem_iff)
theorem nrm_of {l k : List (Int × Bool)} (h : k.Perm l) (hs : stdd k) : Nrm l (cpt k) := by
  have g := cpt_spec hs
  exact ⟨g.asc, fun o b => by rw [g.mem, smo_perm h, wro_perm h]⟩
/-- The marks by objects. -/
def nrm (l : List (Int × Bool)) : List (Int × Bool) := cpt (l.mergeSort fun x y => !ltM y x)
theorem nrm_is (l : List (Int × Bool)) : Nrm l (nrm l) := by
  refine nrm_of (List.mergeSort_perm _ _) ?_
  have := List.pairwise_mergeSort (le := fun x y : Int × Bool => !ltM y x) ?_ ?_ l
  · exact this.imp fun h => by simpa using h
  · intro a b c h1 h2
    simp only [Bool.not_eq_true'] at h1 h2 ⊢
    exact swoM.ntrans c b a h2 h1
  · intro a b
    cases h : ltM b a with
    | false => simp
    | true => simp [swoM.asymmA h]
theorem nrm_eq {l m : List (Int × Bool)} (h : Nrm l m) : m = nrm l := h.eq (nrm_is l) (fun _ => rfl) fun _ => rfl
theorem nrm_congr {l k : List (Int × Bool)} (hs : ∀ o, smo l o = smo k o) (hw : ∀ o, wro l o = wro k o) : nrm l = nrm k := (nrm_is l).eq (nrm_is k) hs hw
theorem nrm_iff {l k : List (Int × Bool)} : nrm l = nrm k ↔ ∀ o, smo l o = smo k o ∧ wro l o = wro k o := by
  refine ⟨fun h o => ?_, fun h => nrm_congr (fun o => (h o).1) fun o => (h o).2⟩
  rw [← (nrm_is l).smo, ← (nrm_is l).wro, h, (nrm_is k).smo, (nrm_is k).wro]
  exact ⟨rfl, rfl⟩
theorem nrm_asc {l : List (Int × Bool)} (h : asc l) : nrm l = l := (nrm_eq (nrm_self h)).symm
theorem cptF_len : ∀ (l : List (Int × Bool)) (p : Int), (cptF p l).length ≤ l.length
  | [], _ => by simp [cptF]
  | y :: r, p => by
    have a := cptF_len r p
    have b := cptF_len r y.1
    unfold cptF; split <;> simp <;> omega
theorem nrm_len (l : List (Int × Bool)) : (nrm l).length ≤ l.length := by
  have h : (l.mergeSort fun x y => !ltM y x).length = l.length := List.length_mergeSort l
  unfold nrm
  cases hm : l.mergeSort fun x y => !ltM y x with
  | nil => simp [cpt]
  | cons x r =>
    rw [hm] at h
    have := cptF_len r x.1
    simp only [cpt, List.length_cons] at h ⊢; omega

/-- Is there an object in both, that one of them writes? -/
def clh (a b : List (Int × Bool)) : Bool := a.any fun x => b.any fun y => x.1 == y.1 && (x.2 || y.2)
theorem clh_iff {a b : List (Int × Bool)} : clh a b = true ↔ ∃ o, smo a o = true ∧ smo b o = true ∧ (wro a o = true ∨ wro b o = true) := by
  simp only [clh, List.any_eq_true, Bool.and_eq_true, beq_iff_eq, Bool.or_eq_true]
  constructor
  · rintro ⟨⟨o, c⟩, hx, ⟨p, d⟩, hy, rfl, h⟩
    refine ⟨o, smo_iff.2 ⟨_, hx⟩, smo_iff.2 ⟨_, hy⟩, ?_⟩
    simp only at h hx hy
    rcases h with rfl | rfl
    · exact .inl (wro_iff.2 hx)
    · exact .inr (wro_iff.2 hy)
  · rintro ⟨o, hs, ht, h⟩
    obtain ⟨c, hc⟩ := smo_iff.1 hs
    obtain ⟨d, hd⟩ := smo_iff.1 ht
    rcases h with h | h
    · exact ⟨_, wro_iff.1 h, _, hd, rfl, .inl rfl⟩
    · exact ⟨_, hc, _, wro_iff.1 h, rfl, .inr rfl⟩
theorem clh_congr {a b c d : List (Int × Bool)} (h1 : ∀ o, smo a o = smo c o) (h2 : ∀ o, wro a o = wro c o) (h3 : ∀ o, smo b o = smo d o) (h4 : ∀ o, wro b o = wro d o) : clh a b = clh c d :=
  bool_ext (by rw [clh_iff, clh_iff]; simp only [h1, h2, h3, h4])
theorem clh_nrm (a b : List (Int × Bool)) : clh (nrm a) (nrm b) = clh a b :=
  clh_congr (nrm_is a).smo (nrm_is a).wro (nrm_is b).smo (nrm_is b).wro
theorem nrm_nrm (a : List (Int × Bool)) : nrm (nrm a) = nrm a := nrm_asc (nrm_is a).asc
theorem clh_comm (a b : List (Int × Bool)) : clh a b = clh b a := bool_ext (by
  rw [clh_iff, clh_iff]
  constructor <;> (rintro ⟨o, h1, h2, h3⟩; exact ⟨o, h2, h1, h3.symm⟩))
theorem clh_nil_l (b : List (Int × Bool)) : clh [] b = false := rfl
theorem clh_nil_r (a : List (Int × Bool)) : clh a [] = false := by simp [clh]
/-- One step of going through both. -/
theorem any_none {a : List (Int × Bool)} {y : Int × Bool} (h : ∀ x ∈ a, y.1 < x.1) : (a.any fun x => x.1 == y.1 && (x.2 || y.2)) = false := by
  rw [List.any_eq_false]
  intro x hx
  have := h x hx
  simp only [Bool.and_eq_true, beq_iff_eq, not_and]; omega
theorem any_none' {b : List (Int × Bool)} {x : Int × Bool} (h : ∀ y ∈ b, x.1 < y.1) : (b.any fun y => x.1 == y.1 && (x.2 || y.2)) = false := by
  rw [List.any_eq_false]
  intro y hy
  have := h y hy
  simp only [Bool.and_eq_true, beq_iff_eq, not_and]; omega
theorem clh_lt {x y : Int × Bool} {a b : List (Int × Bool)} (hb : asc (y :: b)) (h : x.1 < y.1) : clh (x :: a) (y :: b) = clh a (y :: b) := by
  have hb' := List.pairwise_cons.1 hb
  have : ((y :: b).any fun y => x.1 == y.1 && (x.2 || y.2)) = false := any_none' fun z hz => by
    rcases List.mem_cons.1 hz with rfl | hz
    · exact h
    · have := hb'.1 z hz; omega
  unfold clh
  rw [List.any_cons, this, Bool.false_or]
theorem clh_gt {x y : Int × Bool} {a b : List (Int × Bool)} (ha : asc (x :: a)) (h : y.1 < x.1) : clh (x :: a) (y :: b) = clh (x :: a) b := by
  rw [clh_comm, clh_lt ha h, clh_comm]
theorem clh_hit {x y : Int × Bool} {a b : List (Int × Bool)} (h : x.1 = y.1) (hw : (x.2 || y.2) = true) : clh (x :: a) (y :: b) = true := by
  unfold clh
  rw [List.any_cons, List.any_cons, h, hw]
  simp
theorem clh_eq {x y : Int × Bool} {a b : List (Int × Bool)} (ha : asc (x :: a)) (hb : asc (y :: b)) (h : x.1 = y.1) (hw : (x.2 || y.2) = false) : clh (x :: a) (y :: b) = clh a b := by
  have ha' := List.pairwise_cons.1 ha
  have hb' := List.pairwise_cons.1 hb
  have e1 : ((y :: b).any fun y => x.1 == y.1 && (x.2 || y.2)) = false := by
    rw [List.any_cons, hw, any_none' fun z hz => by have := hb'.1 z hz; omega]
    simp
  have e2 : clh a (y :: b) = clh a b := by
    have : clh (y :: b) a = clh b a := by
      unfold clh
      rw [List.any_cons, any_none' fun z hz => by have := ha'.1 z hz; omega, Bool.false_or]
    rw [clh_comm, this, clh_comm]
  rw [← e2]
  unfold clh
  rw [List.any_cons, e1, Bool.false_or]

/-- What the document asks of an event's marks, over all small objects. -/
def wnt (l : List (Int × Bool)) : Nat → List (Int × Bool)
  | 0 => []
  | n + 1 => wnt l n ++ (if smo l ((n : Int) - 128) then [((n : Int) - 128, wro l ((n : Int) - 128))] else [])
theorem wnt_mem (l : List (Int × Bool)) : ∀ n o b, (o, b) ∈ wnt l n ↔ -128 ≤ o ∧ o < (n : Int) - 128 ∧ smo l o = true ∧ b = wro l o
  | 0, o, b => by simp [wnt]; omega
  | n + 1, o, b => by
    rw [wnt, List.mem_append, wnt_mem l n]
    constructor
    · rintro (⟨h1, h2, h3, h4⟩ | h)
      · exact ⟨h1, by omega, h3, h4⟩
      · split at h
        · rename_i hs
          simp only [List.mem_singleton, Prod.mk.injEq] at h
          obtain ⟨rfl, rfl⟩ := h
          exact ⟨by omega, by omega, hs, rfl⟩
        · simp at h
    · rintro ⟨h1, h2, h3, h4⟩
      by_cases h : o = (n : Int) - 128
      · right
        subst h
        rw [if_pos h3, h4]; simp
      · left
        exact ⟨h1, by omega, h3, h4⟩
theorem wnt_asc (l : List (Int × Bool)) : ∀ n, asc (wnt l n)
  | 0 => List.Pairwise.nil
  | n + 1 => by
    rw [wnt]
    refine List.pairwise_append.2 ⟨wnt_asc l n, by split <;> simp, fun x hx y hy => ?_⟩
    obtain ⟨o, b⟩ := x
    have h1 := (wnt_mem l n o b).1 hx
    split at hy
    · simp only [List.mem_singleton] at hy
      subst hy
      simp only; omega
    · simp at hy
/-- The objects of the marks are small. -/
def sml (l : List (Int × Bool)) : Prop := ∀ x ∈ l, -128 ≤ x.1 ∧ x.1 ≤ 127
theorem smo_sml {l : List (Int × Bool)} (h : sml l) {o : Int} (hs : smo l o = true) : -128 ≤ o ∧ o ≤ 127 := by
  obtain ⟨b, hb⟩ := smo_iff.1 hs
  exact h _ hb
theorem wnt_is {l : List (Int × Bool)} (h : sml l) : wnt l 256 = nrm l := nrm_eq ⟨wnt_asc l 256, fun o b => by
  rw [wnt_mem]
  refine ⟨fun ⟨_, _, h3⟩ => h3, fun ⟨h3, h4⟩ => ?_⟩
  have := smo_sml h h3
  exact ⟨by omega, by omega, h3, h4⟩⟩
theorem wnt_len (l : List (Int × Bool)) : ∀ n, (wnt l n).length ≤ n
  | 0 => by simp [wnt]
  | n + 1 => by have := wnt_len l n; rw [wnt]; split <;> simp <;> omega
/-- Are as many small objects touched alike? -/
def alk (a b : List (Int × Bool)) : Nat → Bool
  | 0 => true
  | n + 1 => alk a b n && (smo a ((n : Int) - 128) == smo b ((n : Int) - 128)) && (wro a ((n : Int) - 128) == wro b ((n : Int) - 128))
theorem alk_iff {a b : List (Int × Bool)} : ∀ n, alk a b n = true ↔ ∀ o : Int, -128 ≤ o → o < (n : Int) - 128 → smo a o = smo b o ∧ wro a o = wro b o
  | 0 => by simp [alk]; intro o h1 h2; omega
  | n + 1 => by
    rw [alk]
    simp only [Bool.and_eq_true, beq_iff_eq, alk_iff n]
    constructor
    · rintro ⟨⟨h1, h2⟩, h3⟩ o ho1 ho2
      by_cases h : o = (n : Int) - 128
      · subst h; exact ⟨h2, h3⟩
      · exact h1 o ho1 (by omega)
    · intro h
      exact ⟨⟨fun o h1 h2 => h o h1 (by omega), (h _ (by omega) (by omega)).1⟩, (h _ (by omega) (by omega)).2⟩
theorem alk_is {a b : List (Int × Bool)} (ha : sml a) (hb : sml b) : alk a b 256 = decide (nrm a = nrm b) := by
  refine bool_ext ?_
  rw [alk_iff, decide_eq_true_iff, nrm_iff]
  refine ⟨fun h o => ?_, fun h o _ _ => h o⟩
  by_cases hr : -128 ≤ o ∧ o ≤ 127
  · exact h o hr.1 (by omega)
  · have na : ∀ {l : List (Int × Bool)}, sml l → smo l o = false ∧ wro l o = false := by
      intro l hl
      have : smo l o = false := by
        cases hs : smo l o with
        | false => rfl
        | true => exact absurd (smo_sml hl hs) hr
      refine ⟨this, ?_⟩
      cases hw : wro l o with
      | false => rfl
      | true => rw [smo_of_wro hw] at this; cases this
    rw [(na ha).1, (na ha).2, (na hb).1, (na hb).2]; exact ⟨rfl, rfl⟩
/-- Is one of so many of the first list's in the second, and one of them written? -/
def cls (a b : List (Int × Bool)) : Bool := a.any fun x => smo b x.1 && (x.2 || wro b x.1)
theorem cls_is (a b : List (Int × Bool)) : cls a b = clh a b := by
  refine bool_ext ?_
  rw [clh_iff]
  simp only [cls, List.any_eq_true, Bool.and_eq_true, Bool.or_eq_true]
  constructor
  · rintro ⟨⟨o, c⟩, hx, hs, h⟩
    simp only at hs h
    refine ⟨o, smo_iff.2 ⟨_, hx⟩, hs, ?_⟩
    rcases h with rfl | h
    · exact .inl (wro_iff.2 hx)
    · exact .inr h
  · rintro ⟨o, hs, ht, h⟩
    rcases h with h | h
    · exact ⟨_, wro_iff.1 h, ht, .inl rfl⟩
    · obtain ⟨c, hc⟩ := smo_iff.1 hs
      exact ⟨_, hc, ht, .inr h⟩
theorem smo_app (a b : List (Int × Bool)) (o : Int) : smo (a ++ b) o = (smo a o || smo b o) := by simp [smo]
theorem wro_app (a b : List (Int × Bool)) (o : Int) : wro (a ++ b) o = (wro a o || wro b o) := by simp [wro]
theorem nrm_twice (a : List (Int × Bool)) : nrm (a ++ a) = nrm a := nrm_congr (fun o => by rw [smo_app]; simp) fun o => by rw [wro_app]; simp
theorem nrm_turn (a : List (Int × Bool)) (i : Nat) : nrm (a.drop i ++ a.take i) = nrm a := by
  have h : (a.drop i ++ a.take i).Perm a := by
    have := List.perm_append_comm (l₁ := a.drop i) (l₂ := a.take i)
    rwa [List.take_append_drop] at this
  exact nrm_congr (smo_perm h) (wro_perm h)
theorem clh_more {a b m : List (Int × Bool)} (h : clh a b = true) : clh (nrm (a ++ m)) b = true := by
  rw [clh_congr (nrm_is (a ++ m)).smo (nrm_is (a ++ m)).wro (fun _ => rfl) fun _ => rfl]
  rw [clh_iff] at h ⊢
  obtain ⟨o, h1, h2, h3⟩ := h
  refine ⟨o, by rw [smo_app, h1]; rfl, h2, ?_⟩
  rcases h3 with h3 | h3
  · left; rw [wro_app, h3]; rfl
  · exact .inr h3
end Go.Proofs.Ytcbpkagegdfidaa
