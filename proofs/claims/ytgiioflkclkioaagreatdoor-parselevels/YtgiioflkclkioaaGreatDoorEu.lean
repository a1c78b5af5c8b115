/- tree.Same of programs that are alike but for their places: true. -/
import Derived.Test.YtgiioflkclkioaaGreatDoorAw
set_option linter.unusedSimpArgs false
set_option linter.unusedVariables false
namespace Go.Proofs.YtgiioflkclkioaaGreatDoor
open Go.RowKit Ieee

def Lt (w : World) (g : Nat) : Prop := g < w.heap.size
def prts : Ex → List Ex
  | .num _ _ => []
  | .reg _ => []
  | .one _ a => [a]
  | .two _ a b => [a, b]
theorem prts_len (a : Ex) : (prts a).length = npB a := by cases a <;> rfl
theorem px_xs {w : World} {S : Nat → Prop} {a : Ex} {p : Option Addr} (h : Px w S a p) : XsV w S (prts a) p (npB a) := by
  cases a with
  | num re im => exact .inl ⟨rfl, h, rfl⟩
  | reg r => exact .inl ⟨rfl, h, rfl⟩
  | one k a =>
    obtain ⟨g, q, rfl, hg, hc, hp⟩ := h
    refine .inr ⟨g, rfl, hg, by simp [prts], by simp [prts, npB], by simp [npB, maxLen], fun i e he => ?_⟩
    cases i with
    | zero => simp [prts] at he; subst he; exact ⟨q, by simpa using hc, hp⟩
    | succ i => simp [prts] at he
  | two k a b =>
    obtain ⟨g, q, r, rfl, hg, hc, hd, hp, hr⟩ := h
    refine .inr ⟨g, rfl, hg, by simp [prts], by simp [prts, npB], by simp [npB, maxLen], fun i e he => ?_⟩
    cases i with
    | zero => simp [prts] at he; subst he; exact ⟨q, by simpa using hc, hp⟩
    | succ i =>
      cases i with
      | zero => simp [prts] at he; subst he; exact ⟨r, by simpa using hd, hr⟩
      | succ i => simp [prts] at he
def Tt (w : World) (e : Ending) (w' : World) : Prop := e = .returned (.bool true) ∧ Below w.heap.size w w'
def SeC (a : Ex) : Prop := ∀ (p q : Option Addr) (w : World), Px w (Lt w) a p → Px w (Lt w) a q → Calls Tryz.prog 115 #[exv a p, exv a q] w (Tt w)
def XqC (xs : List Ex) : Prop := ∀ (p q : Option Addr) (c d : Nat) (w : World), XsV w (Lt w) xs p c → XsV w (Lt w) xs q d → Calls Tryz.prog 114 #[.slice p xs.length c, .slice q xs.length d, .func (.func 115) #[] #[]] w (Tt w)
theorem ord_n {n : Nat} (h : n ≤ 1048576) : (FloatKind.f64.format.order (fl false (n : Int)) (fl false (n : Int)) == some .eq) = true := by
  rw [eq_fl false false (sm_of (by omega) (by omega)) (sm_of (by omega) (by omega))]; simp
theorem ord_ex {a : Ex} (h : Wx a) : (FloatKind.f64.format.order (nxB a) (nxB a) == some .eq) = true ∧ (FloatKind.f64.format.order (nyB a) (nyB a) == some .eq) = true := by
  have h0 : (FloatKind.f64.format.order 0 0 == some .eq) = true := by decide +kernel
  cases a with
  | num re im => exact ⟨ord_n h.2.1, ord_n h.2.2⟩
  | reg r => exact ⟨h0, h0⟩
  | one k a => exact ⟨h0, h0⟩
  | two k a b => exact ⟨h0, h0⟩
set_option maxRecDepth 100000 in
set_option maxHeartbeats 3200000 in
theorem same115 (a : Ex) (ha : Wx a) (h : XqC (prts a)) : SeC a := by
  intro p q w hp hq
  obtain ⟨o1, o2⟩ := ord_ex ha
  have HQ : Hid (∀ w', Below w.heap.size w w' → Calls Tryz.prog 114 #[.slice p (npB a) (npB a), .slice q (npB a) (npB a), .func (.func 115) #[] #[]] w' (Tt w')) := Lib.hid (fun w' hb' => by
    have hs := hb'.size
    have := h p q (npB a) (npB a) w' ((px_xs hp).on (Same.below hb' (fun g hg => hg)) (fun g hg => Nat.lt_of_lt_of_le hg hs)) ((px_xs hq).on (Same.below hb' (fun g hg => hg)) (fun g hg => Nat.lt_of_lt_of_le hg hs))
    rw [prts_len] at this
    exact this)
  unfold exv
  unfold Tt at HQ ⊢
  generalize opB a = s1 at *
  generalize nxB a = x1 at *
  generalize nyB a = y1 at *
  generalize nmB a = m1 at *
  generalize npB a = k1 at *
  clear hp hq h ha
  go_enter Tryz.func115, Tryz.ntmps115
  go_wp2_with (go_at_call 114; refine Hid.out ?_)
  refine Lib.hid ?_
  refine (HQ.out _ ((below_alloc _ _).alloc (by simp) _)).mono ?_
  rintro e w2 ⟨rfl, hb2⟩
  have HB2 := Lib.hid (below_new (below_new hb2))
  clear hb2
  go_wp2
  go_ret
  exact ⟨rfl, HB2.out⟩
set_option maxRecDepth 100000 in
set_option maxHeartbeats 3200000 in
theorem eqf114 (xs : List Ex) (hx : xs.length ≤ 100) (hse : ∀ x ∈ xs, SeC x) : XqC xs := by
  intro p q c d w hp hq
  have hst := store_cx
  have HSE := Lib.hid hse
  have HP := Lib.hid hp
  have HQ := Lib.hid hq
  obtain ⟨L, hL⟩ : ∃ L, xs.length = L := ⟨_, rfl⟩
  rw [hL] at hx ⊢
  have HLX := Lib.hid hL
  unfold Tt
  clear hp hq hse hL
  go_enter Tryz.func114, Tryz.ntmps114
  go_wp2
  go_loopw [17] (fun i wr => ∃ j : Nat, j ≤ L ∧ i = .int .i64 (j : Int) ∧ Below w.heap.size w wr) (fun i _ => L - (intOf i).toNat)
  case atStart => exact ⟨0, by omega, rfl, Below.refl _ _⟩
  case round =>
    obtain ⟨j, hj, rfl, hB⟩ := hrel
    have HB := Lib.hid hB
    clear hB
    by_cases hlt : j < L
    · have hxl : j < xs.length := by rw [HLX.out]; exact hlt
      obtain ⟨e, he⟩ : ∃ e, xs[j]? = some e := ⟨_, List.getElem?_eq_getElem hxl⟩
      rcases HP.out with ⟨h, _⟩ | ⟨gp, rfl, hgp, _, _, _, hcp⟩
      · rw [h] at hxl; simp at hxl
      rcases HQ.out with ⟨h, _⟩ | ⟨gq, rfl, hgq, _, _, _, hcq⟩
      · rw [h] at hxl; simp at hxl
      obtain ⟨q1, hc1, hp1⟩ := hcp j e he
      obtain ⟨q2, hc2, hp2⟩ := hcq j e he
      have hS : Same (Lt w) w wr := Same.below HB.out (fun g h => h)
      obtain ⟨a0, a1, a2, a3⟩ := hc1.on hS hgp
      obtain ⟨b0, b1, b2, b3⟩ := hc2.on hS hgq
      have hgp' : gp < wr.heap.size := Nat.lt_of_lt_of_le hgp HB.out.size
      have hgq' : gq < wr.heap.size := Nat.lt_of_lt_of_le hgq HB.out.size
      have HC : Hid (∀ w', Below wr.heap.size wr w' → Calls Tryz.prog 115 #[exv e q1, exv e q2] w' (Tt w')) := Lib.hid (fun w' hb' => by
        have h1 : Below w.heap.size w w' := below_tr HB.out hb'
        exact HSE.out e (List.mem_of_getElem? he) q1 q2 w' (hp1.on (Same.below h1 (fun g h => h)) (fun g h => Nat.lt_of_lt_of_le h h1.size)) (hp2.on (Same.below h1 (fun g h => h)) (fun g h => Nat.lt_of_lt_of_le h h1.size)))
      unfold exv Tt at HC
      generalize opB e = s1 at *
      generalize nxB e = x1 at *
      generalize nyB e = y1 at *
      generalize nmB e = m1 at *
      generalize npB e = k1 at *
      clear he hcp hcq hc1 hc2 hp1 hp2 hS hxl
      go_wp2_with fail
      refine (HC.out _ ((below_alloc _ _).alloc (by simp) _)).mono ?_
      rintro en w2 ⟨rfl, hb2⟩
      have HB2 := Lib.hid (below_tr HB.out (below_new (below_new hb2)))
      clear hb2
      go_wp2
      go_roundw
      case rel => exact ⟨j + 1, by omega, by go_num, HB2.out⟩
      case measure => simp [intOf]; omega
    · obtain rfl : j = L := by omega
      go_wp2
      go_ret
      exact ⟨rfl, HB.out⟩
/-- All expressions that are right. -/
theorem same_ex (a : Ex) : Wx a → SeC a := by
  induction a with
  | num re im => intro h; exact same115 _ h (eqf114 _ (by simp [prts]) (by simp [prts]))
  | reg r => intro h; exact same115 _ h (eqf114 _ (by simp [prts]) (by simp [prts]))
  | one k a ih => intro h; exact same115 _ h (eqf114 _ (by simp [prts]) (by intro x hx; simp [prts] at hx; subst hx; exact ih h.2))
  | two k a b iha ihb =>
    intro h
    refine same115 _ h (eqf114 _ (by simp [prts]) ?_)
    intro x hx
    simp [prts] at hx
    rcases hx with rfl | rfl
    · exact iha h.2.1
    · exact ihb h.2.2
end Go.Proofs.YtgiioflkclkioaaGreatDoor
set_option linter.unusedSimpArgs false
set_option linter.unusedVariables false
namespace Go.Proofs.YtgiioflkclkioaaGreatDoor
open Go.RowKit Ieee

def StC (a b : St) : Prop := ∀ (px qx : Option Addr) (cx dx : Nat) (pb qb : Option Addr) (cb db : Nat) (pe qe : Option Addr) (ce de : Nat) (w : World),
  XsV w (Lt w) a.xs px cx → XsV w (Lt w) b.xs qx dx → PtV w (Lt w) a.body pb cb → PtV w (Lt w) b.body qb db → PtV w (Lt w) a.els pe ce → PtV w (Lt w) b.els qe de →
  Calls Tryz.prog 72 #[stv a px cx pb cb pe ce, stv b qx dx qb db qe de] w (Tt w)
def BlC (l m : Pt) : Prop := ∀ (p q : Option Addr) (c d : Nat) (w : World), PtV w (Lt w) l p c → PtV w (Lt w) m q d → Calls Tryz.prog 71 #[.slice p l.len c, .slice q m.len d, .func (.func 72) #[] #[]] w (Tt w)
set_option maxRecDepth 100000 in
set_option maxHeartbeats 3200000 in
theorem same72 (a b : St) (h1 : a.k = b.k) (h2 : a.rg = b.rg) (h3 : a.nm = b.nm) (h4 : a.ix = b.ix) (h5 : a.xs = b.xs) (hx : XqC a.xs) (hb : BlC a.body b.body) (he : BlC a.els b.els) : StC a b := by
  intro px qx cx dx pb qb cb db pe qe ce de w x1 x2 b1 b2 e1 e2
  have up : ∀ w' : World, Below w.heap.size w w' → ∀ g, Lt w g → Lt w' g := fun w' h g hg => Nat.lt_of_lt_of_le hg h.size
  have HX := Lib.hid (fun w' (h : Below w.heap.size w w') => hx px qx cx dx w' (x1.on (Same.below h fun _ q => q) (up w' h)) (by rw [h5]; exact x2.on (Same.below h fun _ q => q) (up w' h)))
  have HB := Lib.hid (fun w' (h : Below w.heap.size w w') => hb pb qb cb db w' (b1.on (Same.below h fun _ q => q) (up w' h)) (b2.on (Same.below h fun _ q => q) (up w' h)))
  have HE := Lib.hid (fun w' (h : Below w.heap.size w w') => he pe qe ce de w' (e1.on (Same.below h fun _ q => q) (up w' h)) (e2.on (Same.below h fun _ q => q) (up w' h)))
  unfold stv
  unfold Tt at HX HB HE ⊢
  rw [h1, h2, h3, h4, h5]
  rw [h5] at HX
  clear x1 x2 b1 b2 e1 e2 up hx hb he h1 h2 h3 h4 h5
  generalize (⟨b.rg.toArray⟩ : ByteArray) = RG at *
  generalize (⟨b.nm.toArray⟩ : ByteArray) = NM at *
  generalize b.xs.length = xn at *
  generalize a.body.len = m1 at *
  generalize b.body.len = m2 at *
  generalize a.els.len = n1 at *
  generalize b.els.len = n2 at *
  generalize b.k = k at *
  generalize b.ix = ix at *
  generalize a.ps = s1 at *
  generalize b.ps = s2 at *
  cases ix
  all_goals
    go_enter Tryz.func72, Tryz.ntmps72
    go_wp2_with (go_at_call 114; refine Hid.out ?_)
    refine Lib.hid ?_
    have hb0 : ∀ (o o' : Obj), Below w.heap.size w ((w.alloc o).alloc o') := fun o o' => (below_alloc _ _).alloc (by simp) _
    refine (HX.out _ (hb0 _ _)).mono ?_
    rintro e w1 ⟨rfl, hb1⟩
    have c5 := nb_cell (w := w.alloc _) hb1 5
    have c6 := nb_cell (w := w.alloc _) hb1 6
    have hr0 := (hb1.block w.heap.size (by simp; omega)).trans (Below.heap_alloc _ _ _ (by simp))
    rw [heap_alloc_new] at hr0
    have d5 := row_cell (o := 5) hr0
    have d6 := row_cell (o := 6) hr0
    simp at c5 c6 d5 d6
    have HB1 := Lib.hid (below_new (below_new hb1))
    have hz1 : w.heap.size + 1 < w1.heap.size := by have := hb1.size; simp at this; omega
    clear hb1 hr0 hb0
    go_wp2_with (go_at_call 71; refine Hid.out ?_)
    refine Lib.hid ?_
    refine (HB.out _ HB1.out).mono ?_
    rintro e w2 ⟨rfl, hb2⟩
    have c6' : w2.cell? ⟨w.heap.size + 1, 6, none⟩ = some (.slice qe n2 de) := (hb2.cell (p := ⟨w.heap.size + 1, 6, none⟩) hz1).trans c6
    have d6' : w2.cell? ⟨w.heap.size, 6, none⟩ = some (.slice pe n1 ce) := (hb2.cell (p := ⟨w.heap.size, 6, none⟩) (by show w.heap.size < _; omega)).trans d6
    have HB2 := Lib.hid (below_tr HB1.out hb2)
    clear hb2 c5 c6 d5 d6
    go_wp2_with (go_at_call 71; refine Hid.out ?_)
    refine Lib.hid ?_
    refine (HE.out _ HB2.out).mono ?_
    rintro e w3 ⟨rfl, hb3⟩
    have HB3 := Lib.hid (below_tr HB2.out hb3)
    clear hb3
    go_wp2
    go_ret
    exact ⟨rfl, HB3.out⟩
/-- Alike but for places. -/
def Al : Pt → Pt → Prop
  | .nil, .nil => True
  | .cons k rg nm ix xs b e _ r, .cons k' rg' nm' ix' xs' b' e' _ r' => k = k' ∧ rg = rg' ∧ nm = nm' ∧ ix = ix' ∧ xs = xs' ∧ Al b b' ∧ Al e e' ∧ Al r r'
  | _, _ => False
theorem Al.refl (l : Pt) : Al l l := by
  induction l with
  | nil => trivial
  | cons k rg nm ix xs b e p r hb he hr => exact ⟨rfl, rfl, rfl, rfl, rfl, hb, he, hr⟩
theorem Al.len {l : Pt} : ∀ {m : Pt}, Al l m → l.len = m.len := by
  induction l with
  | nil => intro m h; cases m with | nil => rfl | cons _ _ _ _ _ _ _ _ _ => exact h.elim
  | cons k rg nm ix xs b e p r hb he hr =>
    intro m h
    cases m with
    | nil => exact h.elim
    | cons k' rg' nm' ix' xs' b' e' p' r' => simp only [Pt.len]; rw [hr h.2.2.2.2.2.2.2]
end Go.Proofs.YtgiioflkclkioaaGreatDoor
set_option linter.unusedSimpArgs false
set_option linter.unusedVariables false
namespace Go.Proofs.YtgiioflkclkioaaGreatDoor
open Go.RowKit Ieee

def AllC : Pt → Pt → Prop
  | .nil, .nil => True
  | .cons k rg nm ix xs b e p r, .cons k' rg' nm' ix' xs' b' e' p' r' => StC ⟨k, rg, nm, ix, xs, b, e, p⟩ ⟨k', rg', nm', ix', xs', b', e', p'⟩ ∧ AllC r r'
  | _, _ => False
theorem AllC.len {l : Pt} : ∀ {m : Pt}, AllC l m → l.len = m.len := by
  induction l with
  | nil => intro m h; cases m with | nil => rfl | cons _ _ _ _ _ _ _ _ _ => exact h.elim
  | cons k rg nm ix xs b e p r hb he hr =>
    intro m h
    cases m with
    | nil => exact h.elim
    | cons k' rg' nm' ix' xs' b' e' p' r' => simp only [Pt.len]; rw [hr h.2]
set_option maxRecDepth 100000 in
set_option maxHeartbeats 6400000 in
theorem eqf71 (l m : Pt) (hx : l.len ≤ 100000) (hall : AllC l m) : BlC l m := by
  intro p q c d w hp hq
  have hlm := hall.len
  have HALL := Lib.hid hall
  have HP := Lib.hid hp
  have HQ := Lib.hid hq
  obtain ⟨L, hL⟩ : ∃ L, l.len = L := ⟨_, rfl⟩
  rw [← hlm, hL]
  rw [hL] at hx
  have HLX := Lib.hid hL
  have HLM := Lib.hid hlm
  unfold Tt
  clear hp hq hall hL hlm
  by_cases h0 : L = 0
  · have z : (0 : Int) = (L : Int) := by omega
    subst h0
    clear z
    go_enter Tryz.func71, Tryz.ntmps71
    go_wp2
    go_loopw [17] (fun i wr => i = .int .i64 0 ∧ wr = w) (fun _ _ => 0)
    case atStart => exact ⟨rfl, rfl⟩
    case round =>
      obtain ⟨rfl, rfl⟩ := hrel
      go_wp2
      go_ret
      exact ⟨rfl, Below.refl _ _⟩
  · obtain ⟨gp, hgp, hlp, hpe⟩ : ∃ gp, Lt w gp ∧ PtAt w (Lt w) l gp 0 ∧ p = some ⟨gp, 0, none⟩ := by
      rcases HP.out with ⟨h, _⟩ | ⟨gp, h1, h2, _, _, _, h3⟩
      · exfalso; apply h0; rw [← HLX.out, h]; rfl
      · exact ⟨gp, h2, h3, h1⟩
    obtain ⟨gq, hgq, hlq, hqe⟩ : ∃ gq, Lt w gq ∧ PtAt w (Lt w) m gq 0 ∧ q = some ⟨gq, 0, none⟩ := by
      rcases HQ.out with ⟨h, _⟩ | ⟨gq, h1, h2, _, _, _, h3⟩
      · exfalso; apply h0; rw [← HLX.out, HLM.out, h]; rfl
      · exact ⟨gq, h2, h3, h1⟩
    subst hpe hqe
    have HLP := Lib.hid hlp
    have HLQ := Lib.hid hlq
    clear hlp hlq h0
    go_enter Tryz.func71, Tryz.ntmps71
    go_wp2
    go_loopw [17] (fun i wr => ∃ (j : Nat) (l' m' : Pt), j + l'.len = L ∧ i = .int .i64 (j : Int) ∧ Below w.heap.size w wr ∧ PtAt w (Lt w) l' gp (8 * j) ∧ PtAt w (Lt w) m' gq (8 * j) ∧ AllC l' m') (fun i _ => L - (intOf i).toNat)
    case atStart => exact ⟨0, l, m, by rw [Nat.zero_add]; exact HLX.out, rfl, Below.refl _ _, HLP.out, HLQ.out, HALL.out⟩
    case round =>
      obtain ⟨j, l', m', hj, rfl, hB, hl', hm', hA⟩ := hrel
      have HB := Lib.hid hB
      cases l' with
      | nil =>
        have hjL : j = L := by simpa [Pt.len] using hj
        subst hjL
        clear hj hB hl' hm' hA
        go_wp2
        go_ret
        exact ⟨rfl, HB.out⟩
      | cons k rg nm ix xs b e ps r =>
        cases m' with
        | nil => exact hA.elim
        | cons k' rg' nm' ix' xs' b' e' ps' r' =>
          have hlt : j < L := by simp [Pt.len] at hj; omega
          obtain ⟨⟨px, cx, pb, cb, pe, ce, hc1, hx1, hb1, he1⟩, hr1⟩ := hl'
          obtain ⟨⟨qx, dx, qb, db, qe, de, hc2, hx2, hb2, he2⟩, hr2⟩ := hm'
          have hS : Same (Lt w) w wr := Same.below hB (fun g h => h)
          obtain ⟨a0, a1, a2, a3, a4, a5, a6, a7⟩ := hc1.on hS hgp
          obtain ⟨b0, b1, b2, b3, b4, b5, b6, b7⟩ := hc2.on hS hgq
          have hmul : 8 * j = j * 8 := by omega
          rw [hmul] at a0 a1 a2 a3 a4 a5 a6 a7 b0 b1 b2 b3 b4 b5 b6 b7
          have hgp' : gp < wr.heap.size := Nat.lt_of_lt_of_le hgp hB.size
          have hgq' : gq < wr.heap.size := Nat.lt_of_lt_of_le hgq hB.size
          have HC : Hid (∀ w', Below wr.heap.size wr w' → Calls Tryz.prog 72 #[stv ⟨k, rg, nm, ix, xs, b, e, ps⟩ px cx pb cb pe ce, stv ⟨k', rg', nm', ix', xs', b', e', ps'⟩ qx dx qb db qe de] w' (Tt w')) := Lib.hid (fun w' hb' => by
            have h1 : Below w.heap.size w w' := below_tr HB.out hb'
            have up : ∀ g, Lt w g → Lt w' g := fun g hg => Nat.lt_of_lt_of_le hg h1.size
            have sm := Same.below (S := Lt w) h1 (fun _ q => q)
            exact hA.1 px qx cx dx pb qb cb db pe qe ce de w' (hx1.on sm up) (hx2.on sm up) (PtV.on sm up hb1) (PtV.on sm up hb2) (PtV.on sm up he1) (PtV.on sm up he2))
          have HNX : Hid (PtAt w (Lt w) r gp (8 * (j + 1)) ∧ PtAt w (Lt w) r' gq (8 * (j + 1)) ∧ AllC r r' ∧ j + 1 + r.len = L) := Lib.hid ⟨by rw [show 8 * (j + 1) = 8 * j + 8 by omega]; exact hr1, by rw [show 8 * (j + 1) = 8 * j + 8 by omega]; exact hr2, hA.2, by simp [Pt.len] at hj; omega⟩
          unfold stv Tt at HC
          simp only at HC
          clear hA hj hB hc1 hc2 hx1 hx2 hb1 hb2 he1 he2 hr1 hr2 hS hmul
          generalize (⟨rg.toArray⟩ : ByteArray) = RG at *
          generalize (⟨nm.toArray⟩ : ByteArray) = NM at *
          generalize (⟨rg'.toArray⟩ : ByteArray) = RG' at *
          generalize (⟨nm'.toArray⟩ : ByteArray) = NM' at *
          generalize xs.length = xn at *
          generalize xs'.length = xn' at *
          generalize b.len = bn at *
          generalize b'.len = bn' at *
          generalize e.len = en at *
          generalize e'.len = en' at *
          go_wp2_with fail
          refine (HC.out _ ((below_alloc _ _).alloc (by simp) _)).mono ?_
          rintro ee w2 ⟨rfl, hb2⟩
          have HB2 := Lib.hid (below_tr HB.out (below_new (below_new hb2)))
          clear hb2
          go_wp2
          go_roundw
          case rel => exact ⟨j + 1, r, r', HNX.out.2.2.2, by go_num, HB2.out, HNX.out.1, HNX.out.2.1, HNX.out.2.2.1⟩
          case measure => simp [intOf]; omega
end Go.Proofs.YtgiioflkclkioaaGreatDoor
set_option linter.unusedSimpArgs false
set_option linter.unusedVariables false
namespace Go.Proofs.YtgiioflkclkioaaGreatDoor
open Go.RowKit Ieee

/-- Right expressions alone, and not too many. -/
def RgP : Pt → Prop
  | .nil => True
  | .cons _ _ _ _ xs b e _ r => (xs.length ≤ 100 ∧ ∀ x ∈ xs, Wx x) ∧ (b.len ≤ 100000 ∧ e.len ≤ 100000) ∧ RgP b ∧ RgP e ∧ RgP r
theorem allC {l : Pt} : ∀ {m : Pt}, Al l m → RgP l → AllC l m := by
  induction l with
  | nil => intro m h _; cases m with | nil => trivial | cons _ _ _ _ _ _ _ _ _ => exact h.elim
  | cons k rg nm ix xs b e p r ihb ihe ihr =>
    intro m h hr
    cases m with
    | nil => exact h.elim
    | cons k' rg' nm' ix' xs' b' e' p' r' =>
      obtain ⟨h1, h2, h3, h4, h5, hb, he, hrr⟩ := h
      obtain ⟨⟨x1, x2⟩, ⟨l1, l2⟩, rb, re, rr⟩ := hr
      exact ⟨same72 _ _ h1 h2 h3 h4 h5 (eqf114 xs x1 fun x hx => same_ex x (x2 x hx)) (eqf71 b b' l1 (ihb hb rb)) (eqf71 e e' l2 (ihe he re)), ihr hrr rr⟩
theorem blC {l m : Pt} (h : Al l m) (hr : RgP l) (hl : l.len ≤ 100000) : BlC l m := eqf71 l m hl (allC h hr)
def dpvE (d : Dp) (p : Option Addr) (c : Nat) : Value := .agg #[.int .i64 (d.so : Int), .string ⟨d.nm.toArray⟩, .complex .f64 (fl false d.re) (fl false d.im), .slice p d.body.len c, .int .i64 (d.ps : Int)]
/-- Declarations alike but for places; right ones. -/
def Ald (d e : Dp) : Prop := d.so = e.so ∧ d.nm = e.nm ∧ d.re = e.re ∧ d.im = e.im ∧ Al d.body e.body
def Rgd (d : Dp) : Prop := Sm d.re ∧ Sm d.im ∧ d.body.len ≤ 100000 ∧ RgP d.body
set_option maxRecDepth 100000 in
set_option maxHeartbeats 3200000 in
theorem same41 (d e : Dp) (h : Ald d e) (hr : Rgd d) (p q : Option Addr) (c c' : Nat) (w : World) (hp : PtV w (Lt w) d.body p c) (hq : PtV w (Lt w) e.body q c') : Calls Tryz.prog 41 #[dpvE d p c, dpvE e q c'] w (Tt w) := by
  obtain ⟨h1, h2, h3, h4, h5⟩ := h
  obtain ⟨r1, r2, r3, r4⟩ := hr
  have hb := blC h5 r4 r3
  have up : ∀ w' : World, Below w.heap.size w w' → ∀ g, Lt w g → Lt w' g := fun w' h g hg => Nat.lt_of_lt_of_le hg h.size
  have HB := Lib.hid (fun w' (h : Below w.heap.size w w') => hb p q c c' w' (hp.on (Same.below h fun _ q => q) (up w' h)) (hq.on (Same.below h fun _ q => q) (up w' h)))
  have o1 : (FloatKind.f64.format.order (fl false e.re) (fl false e.re) == some .eq) = true := by rw [← h3, eq_fl false false r1 r1]; simp
  have o2 : (FloatKind.f64.format.order (fl false e.im) (fl false e.im) == some .eq) = true := by rw [← h4, eq_fl false false r2 r2]; simp
  unfold dpvE
  unfold Tt at HB ⊢
  rw [h1, h2, h3, h4]
  clear hp hq up hb h1 h2 h3 h4 h5 r1 r2 r3 r4
  generalize (⟨e.nm.toArray⟩ : ByteArray) = NM at *
  generalize d.body.len = m1 at *
  generalize e.body.len = m2 at *
  generalize e.so = k at *
  generalize d.ps = s1 at *
  generalize e.ps = s2 at *
  generalize fl false e.re = x at *
  generalize fl false e.im = y at *
  go_enter Tryz.func41, Tryz.ntmps41
  go_wp2_with (go_at_call 71; refine Hid.out ?_)
  refine Lib.hid ?_
  refine (HB.out _ ((below_alloc _ _).alloc (by simp) _)).mono ?_
  rintro e w2 ⟨rfl, hb2⟩
  have HB2 := Lib.hid (below_new (below_new hb2))
  clear hb2
  go_wp2
  go_ret
  exact ⟨rfl, HB2.out⟩
def Alds (l m : List Dp) : Prop := l.length = m.length ∧ ∀ (i : Nat) (d e : Dp), l[i]? = some d → m[i]? = some e → Ald d e ∧ Rgd d
set_option maxRecDepth 100000 in
set_option maxHeartbeats 6400000 in
theorem eqf40 (l m : List Dp) (hx : l.length ≤ 100000) (hall : Alds l m) (p q : Option Addr) (c d : Nat) (w : World) (hp : DpsV w (Lt w) l p c) (hq : DpsV w (Lt w) m q d) : Calls Tryz.prog 40 #[.slice p l.length c, .slice q m.length d, .func (.func 41) #[] #[]] w (Tt w) := by
  have hst := store_cx
  obtain ⟨hlm, hall⟩ := hall
  have HSE := Lib.hid hall
  have HP := Lib.hid hp
  have HQ := Lib.hid hq
  have HLM := Lib.hid hlm
  obtain ⟨L, hL⟩ : ∃ L, l.length = L := ⟨_, rfl⟩
  rw [← hlm, hL]
  rw [hL] at hx
  have HLX := Lib.hid hL
  unfold Tt
  clear hp hq hall hL hlm
  go_enter Tryz.func40, Tryz.ntmps40
  go_wp2
  go_loopw [17] (fun i wr => ∃ j : Nat, j ≤ L ∧ i = .int .i64 (j : Int) ∧ Below w.heap.size w wr) (fun i _ => L - (intOf i).toNat)
  case atStart => exact ⟨0, by omega, rfl, Below.refl _ _⟩
  case round =>
    obtain ⟨j, hj, rfl, hB⟩ := hrel
    have HB := Lib.hid hB
    clear hB
    by_cases hlt : j < L
    · have hxl : j < l.length := by rw [HLX.out]; exact hlt
      have hxm : j < m.length := by rw [← HLM.out, HLX.out]; exact hlt
      obtain ⟨e, he⟩ : ∃ e, l[j]? = some e := ⟨_, List.getElem?_eq_getElem hxl⟩
      obtain ⟨f, hf⟩ : ∃ f, m[j]? = some f := ⟨_, List.getElem?_eq_getElem hxm⟩
      obtain ⟨hal, hrg⟩ := HSE.out j e f he hf
      rcases HP.out with ⟨h, _⟩ | ⟨gp, rfl, hgp, _, _, _, hcp⟩
      · rw [h] at hxl; simp at hxl
      rcases HQ.out with ⟨h, _⟩ | ⟨gq, rfl, hgq, _, _, _, hcq⟩
      · rw [h] at hxm; simp at hxm
      obtain ⟨q1, c1, hc1, hp1⟩ := hcp j e he
      obtain ⟨q2, c2, hc2, hp2⟩ := hcq j f hf
      have hS : Same (Lt w) w wr := Same.below HB.out (fun g h => h)
      obtain ⟨a0, a1, a2, a3, a4⟩ := hc1
      obtain ⟨b0, b1, b2, b3, b4⟩ := hc2
      have a0 := (hS gp _ hgp).trans a0
      have a1 := (hS gp _ hgp).trans a1
      have a2 := (hS gp _ hgp).trans a2
      have a3 := (hS gp _ hgp).trans a3
      have a4 := (hS gp _ hgp).trans a4
      have b0 := (hS gq _ hgq).trans b0
      have b1 := (hS gq _ hgq).trans b1
      have b2 := (hS gq _ hgq).trans b2
      have b3 := (hS gq _ hgq).trans b3
      have b4 := (hS gq _ hgq).trans b4
      have hgp' : gp < wr.heap.size := Nat.lt_of_lt_of_le hgp HB.out.size
      have hgq' : gq < wr.heap.size := Nat.lt_of_lt_of_le hgq HB.out.size
      have HC : Hid (∀ w', Below wr.heap.size wr w' → Calls Tryz.prog 41 #[dpvE e q1 c1, dpvE f q2 c2] w' (Tt w')) := Lib.hid (fun w' hb' => by
        have h1 : Below w.heap.size w w' := below_tr HB.out hb'
        exact same41 e f hal hrg q1 q2 c1 c2 w' (hp1.on (Same.below h1 (fun g h => h)) (fun g h => Nat.lt_of_lt_of_le h h1.size)) (hp2.on (Same.below h1 (fun g h => h)) (fun g h => Nat.lt_of_lt_of_le h h1.size)))
      unfold dpvE Tt at HC
      clear hal hrg he hf hcp hcq hp1 hp2 hS hxl hxm
      generalize e.body.len = n1 at *
      generalize f.body.len = n2 at *
      generalize fl false e.re = x1 at *
      generalize fl false e.im = y1 at *
      generalize fl false f.re = x2 at *
      generalize fl false f.im = y2 at *
      generalize (⟨e.nm.toArray⟩ : ByteArray) = NM at *
      generalize (⟨f.nm.toArray⟩ : ByteArray) = NM' at *
      generalize e.so = k1 at *
      generalize f.so = k2 at *
      generalize e.ps = s1 at *
      generalize f.ps = s2 at *
      go_wp2_with fail
      refine (HC.out _ ((below_alloc _ _).alloc (by simp) _)).mono ?_
      rintro en w2 ⟨rfl, hb2⟩
      have HB2 := Lib.hid (below_tr HB.out (below_new (below_new hb2)))
      clear hb2
      go_wp2
      go_roundw
      case rel => exact ⟨j + 1, by omega, by go_num, HB2.out⟩
      case measure => simp [intOf]; omega
    · obtain rfl : j = L := by omega
      go_wp2
      go_ret
      exact ⟨rfl, HB.out⟩
set_option maxRecDepth 100000 in
set_option maxHeartbeats 3200000 in
/-- tree.Same of programs that are alike. -/
theorem same20 (l m : List Dp) (hx : l.length ≤ 100000) (hall : Alds l m) (p q : Option Addr) (c d : Nat) (w : World) (hp : DpsV w (Lt w) l p c) (hq : DpsV w (Lt w) m q d) : Calls Tryz.prog 20 #[.agg #[.slice p l.length c], .agg #[.slice q m.length d]] w (Tt w) := by
  have HCL : Hid (∀ w', Below w.heap.size w w' → Calls Tryz.prog 40 #[.slice p l.length c, .slice q m.length d, .func (.func 41) #[] #[]] w' (Tt w')) := Lib.hid (fun w' hb => by
    have hs := hb.size
    have hsame : Same (Lt w) w w' := Same.below hb (fun g h => h)
    have hsub : ∀ g, Lt w g → Lt w' g := fun g h => Nat.lt_of_lt_of_le h hs
    refine eqf40 l m hx hall p q c d w' ?_ ?_
    · rcases hp with h | ⟨g, e1, hg, h0, h1, h2, h⟩
      · exact .inl h
      · exact .inr ⟨g, e1, hsub g hg, h0, h1, h2, h.on hsame hsub hg⟩
    · rcases hq with h | ⟨g, e1, hg, h0, h1, h2, h⟩
      · exact .inl h
      · exact .inr ⟨g, e1, hsub g hg, h0, h1, h2, h.on hsame hsub hg⟩)
  generalize l.length = L at *
  generalize m.length = M at *
  unfold Tt at HCL ⊢
  clear hx hall hp hq
  go_enter Tryz.func20, Tryz.ntmps20
  go_wp2_with (go_at_call 40; refine Hid.out ?_)
  refine Lib.hid ?_
  refine (HCL.out _ ((below_alloc _ _).alloc (by simp) _)).mono ?_
  rintro e w2 ⟨rfl, hb2⟩
  have HB2 := Lib.hid (below_new (below_new hb2))
  clear hb2
  go_wp2
  go_ret
  exact ⟨rfl, HB2.out⟩
end Go.Proofs.YtgiioflkclkioaaGreatDoor
