/- Same of expressions: plain facts, and the comparing of numbers. -/
import Derived.Test.YtmomdcnlhljhcaaDoorIn
import Derived.Test.YtmomdcnlhljhcaaDoorRx
import Derived.Test.YtmomdcnlhljhcaaDoorEt
set_option linter.unusedSimpArgs false
set_option linter.unusedVariables false
namespace Go.Proofs.YtmomdcnlhljhcaaDoor
open Go.RowKit Ieee

def prts : Ex → List Ex
  | .one _ a => [a]
  | .two _ a b => [a, b]
  | _ => []
def nRe : Ex → Nat
  | .num re _ => re
  | _ => 0
def nIm : Ex → Nat
  | .num _ im => im
  | _ => 0
theorem prts_len (e : Ex) : (prts e).length = npB e := by cases e <;> rfl
theorem nx_fl (e : Ex) : nxB e = fl false (nRe e : Int) := by
  cases e with
  | num re im => rfl
  | reg r => show 0 = fl false ((0 : Nat) : Int); decide
  | one k a => show 0 = fl false ((0 : Nat) : Int); decide
  | two k a b => show 0 = fl false ((0 : Nat) : Int); decide
theorem ny_fl (e : Ex) : nyB e = fl false (nIm e : Int) := by
  cases e with
  | num re im => rfl
  | reg r => show 0 = fl false ((0 : Nat) : Int); decide
  | one k a => show 0 = fl false ((0 : Nat) : Int); decide
  | two k a b => show 0 = fl false ((0 : Nat) : Int); decide
theorem n_small {e : Ex} (h : Wx e) : nRe e ≤ 16 ∧ nIm e ≤ 16 := by
  cases e with
  | num re im => exact ⟨h.2.1, h.2.2⟩
  | reg r => exact ⟨by simp [nRe], by simp [nIm]⟩
  | one k a => exact ⟨by simp [nRe], by simp [nIm]⟩
  | two k a b => exact ⟨by simp [nRe], by simp [nIm]⟩
theorem prts_right {e : Ex} (h : Wx e) : ∀ x ∈ prts e, Wx x := by
  cases e with
  | num re im => intro x hx; cases hx
  | reg r => intro x hx; cases hx
  | one k a => intro x hx; simp only [prts, List.mem_singleton] at hx; subst hx; exact h.2
  | two k a b =>
    intro x hx
    simp only [prts, List.mem_cons, List.not_mem_nil, or_false] at hx
    rcases hx with rfl | rfl
    · exact h.2.1
    · exact h.2.2
theorem op1_inj : ∀ a b : Fin 4, op1 a.val = op1 b.val → a = b := by decide
theorem op2_inj' : ∀ a b : Fin 6, op2 a.val = op2 b.val → a = b := by decide
theorem op12 : ∀ (a : Fin 4) (b : Fin 6), op1 a.val ≠ op2 b.val := by decide
theorem op1_no : ∀ a : Fin 4, op1 a.val ≠ [] ∧ op1 a.val ≠ [114, 101, 103] := by decide
theorem op2_no : ∀ a : Fin 6, op2 a.val ≠ [] ∧ op2 a.val ≠ [114, 101, 103] := by decide
def opL : Ex → List UInt8
  | .num _ _ => []
  | .reg _ => [114, 101, 103]
  | .one k _ => op1 k
  | .two k _ _ => op2 k
theorem opB_opL (e : Ex) : opB e = ⟨(opL e).toArray⟩ := by cases e <;> rfl
theorem ba_inj {a b : List UInt8} (h : (⟨a.toArray⟩ : ByteArray) = ⟨b.toArray⟩) : a = b := by
  have := congrArg (fun x : ByteArray => x.data.toList) h
  simpa using this
/-- Expressions are the same just if all their fields are. -/
theorem ex_same {a b : Ex} (ha : Wx a) (hb : Wx b) : a = b ↔ opB a = opB b ∧ nRe a = nRe b ∧ nIm a = nIm b ∧ nmB a = nmB b ∧ prts a = prts b := by
  constructor
  · rintro rfl; exact ⟨rfl, rfl, rfl, rfl, rfl⟩
  · rintro ⟨h1, h2, h3, h4, h5⟩
    rw [opB_opL, opB_opL] at h1
    have h1 := ba_inj h1
    cases a with
    | num re im =>
      cases b with
      | num re' im' => simp only [nRe, nIm] at h2 h3; rw [h2, h3]
      | reg r => simp [opL] at h1
      | one k _ => exact absurd h1.symm (op1_no ⟨k, hb.1⟩).1
      | two k _ _ => exact absurd h1.symm (op2_no ⟨k, hb.1⟩).1
    | reg r =>
      cases b with
      | num _ _ => simp [opL] at h1
      | reg r' =>
        simp only [nmB] at h4
        have := congrArg (fun x : ByteArray => x.data.toList) h4
        simp at this
        rw [this]
      | one k _ => exact absurd h1.symm (op1_no ⟨k, hb.1⟩).2
      | two k _ _ => exact absurd h1.symm (op2_no ⟨k, hb.1⟩).2
    | one k x =>
      cases b with
      | num _ _ => exact absurd h1 (op1_no ⟨k, ha.1⟩).1
      | reg _ => exact absurd h1 (op1_no ⟨k, ha.1⟩).2
      | one k' y =>
        have := congrArg Fin.val (op1_inj ⟨k, ha.1⟩ ⟨k', hb.1⟩ h1)
        simp only at this
        simp only [prts, List.cons.injEq, and_true] at h5
        rw [this, h5]
      | two k' _ _ => exact absurd h1 (op12 ⟨k, ha.1⟩ ⟨k', hb.1⟩)
    | two k x1 x2 =>
      cases b with
      | num _ _ => exact absurd h1 (op2_no ⟨k, ha.1⟩).1
      | reg _ => exact absurd h1 (op2_no ⟨k, ha.1⟩).2
      | one k' _ => exact absurd h1.symm (op12 ⟨k', hb.1⟩ ⟨k, ha.1⟩)
      | two k' y1 y2 =>
        have := congrArg Fin.val (op2_inj' ⟨k, ha.1⟩ ⟨k', hb.1⟩ h1)
        simp only at this
        simp only [prts, List.cons.injEq, and_true] at h5
        rw [this, h5.1, h5.2]
theorem px_xs {w : World} {S : Nat → Prop} {e : Ex} {p : Option Addr} (h : Px w S e p) : XsV w S (prts e) p (npB e) := by
  cases e with
  | num re im => exact .inl ⟨rfl, h, rfl⟩
  | reg r => exact .inl ⟨rfl, h, rfl⟩
  | one k a =>
    obtain ⟨g, q, rfl, hg, hc, hp⟩ := h
    refine .inr ⟨g, rfl, hg, by simp [prts], by simp [prts, npB], by show 1 ≤ maxLen; unfold maxLen; omega, fun i e he => ?_⟩
    cases i with
    | zero => simp only [prts, List.getElem?_cons_zero, Option.some.injEq] at he; subst he; exact ⟨q, hc, hp⟩
    | succ i => simp [prts] at he
  | two k a b =>
    obtain ⟨g, q, r, rfl, hg, hc, hd, hp, hr⟩ := h
    refine .inr ⟨g, rfl, hg, by simp [prts], by simp [prts, npB], by show 2 ≤ maxLen; unfold maxLen; omega, fun i e he => ?_⟩
    match i with
    | 0 => simp only [prts, List.getElem?_cons_zero, Option.some.injEq] at he; subst he; exact ⟨q, hc, hp⟩
    | 1 => simp only [prts, List.getElem?_cons_succ, List.getElem?_cons_zero, Option.some.injEq] at he; subst he; exact ⟨r, hd, hr⟩
    | i + 2 => simp [prts] at he
theorem ord_eq {a b : Nat} (ha : a ≤ 100) (hb : b ≤ 100) : (FloatKind.f64.format.order (fl false (a : Int)) (fl false (b : Int)) == some .eq) = decide (a = b) := by
  rw [eq_fl false false (by unfold Sm; omega) (by unfold Sm; omega)]
  by_cases h : a = b
  · subst h; simp
  · have : ¬ (a : Int) = (b : Int) := by omega
    simp [h, this]
def Tf (P : Prop) (w : World) (e : Ending) (w' : World) : Prop := ∃ t : Bool, e = .returned (.bool t) ∧ (t = true ↔ P) ∧ Below w.heap.size w w'
def Lt (w : World) (g : Nat) : Prop := g < w.heap.size
def XqC (xs : List Ex) : Prop := ∀ (ys : List Ex) (p q : Option Addr) (c d : Nat) (w : World), (∀ y ∈ ys, Wx y) → XsV w (Lt w) xs p c → XsV w (Lt w) ys q d →
  Calls Tryd.prog 54 #[.slice p xs.length c, .slice q ys.length d, .func (.func 55) #[] #[]] w (Tf (xs = ys) w)
def SeC (a : Ex) : Prop := ∀ (b : Ex) (p q : Option Addr) (w : World), Wx b → Px w (Lt w) a p → Px w (Lt w) b q → Calls Tryd.prog 55 #[exv a p, exv b q] w (Tf (a = b) w)
theorem ba_ne {a b : ByteArray} (h : a ≠ b) : (a.toList == b.toList) = false := by
  rw [ByteArray.toList_eq, ByteArray.toList_eq]
  refine beq_eq_false_iff_ne.2 (fun e => h ?_)
  cases a with
  | mk a => cases b with
    | mk b => simp only [ByteArray.mk.injEq]; exact Array.toList_inj.1 e
set_option maxRecDepth 100000 in
set_option maxHeartbeats 3200000 in
theorem same55 (a : Ex) (ha : Wx a) (h : XqC (prts a)) : SeC a := by
  intro b p q w hb hp hq
  have HE := Lib.hid (ex_same ha hb)
  obtain ⟨r1, r2⟩ := n_small ha
  obtain ⟨r3, r4⟩ := n_small hb
  have o1 := ord_eq (a := nRe a) (b := nRe b) (by omega) (by omega)
  have o2 := ord_eq (a := nIm a) (b := nIm b) (by omega) (by omega)
  rw [← nx_fl, ← nx_fl] at o1
  rw [← ny_fl, ← ny_fl] at o2
  obtain ⟨n, hn⟩ : ∃ n, w.heap.size = n := ⟨_, rfl⟩
  have HN := Lib.hid hn
  have HQ : Hid (∀ w', Below n w w' → Calls Tryd.prog 54 #[.slice p (npB a) (npB a), .slice q (npB b) (npB b), .func (.func 55) #[] #[]] w' (Tf (prts a = prts b) w')) := Lib.hid (fun w' hb' => by
    have hs := hb'.size
    have := h (prts b) p q (npB a) (npB b) w' (prts_right hb) ((px_xs hp).on (Same.below hb' (fun g hg => by unfold Lt at hg; omega)) (fun g hg => by unfold Lt at hg ⊢; omega)) ((px_xs hq).on (Same.below hb' (fun g hg => by unfold Lt at hg; omega)) (fun g hg => by unfold Lt at hg ⊢; omega))
    rw [prts_len, prts_len] at this
    exact this)
  unfold exv
  unfold Tf at HQ
  generalize opB a = s1 at *
  generalize opB b = s2 at *
  generalize nxB a = x1 at *
  generalize nxB b = x2 at *
  generalize nyB a = y1 at *
  generalize nyB b = y2 at *
  generalize nmB a = m1 at *
  generalize nmB b = m2 at *
  generalize npB a = k1 at *
  generalize npB b = k2 at *
  obtain ⟨c1, hc1⟩ : ∃ c1, decide (nRe a = nRe b) = c1 := ⟨_, rfl⟩
  obtain ⟨c2, hc2⟩ : ∃ c2, decide (nIm a = nIm b) = c2 := ⟨_, rfl⟩
  rw [hc1] at o1
  rw [hc2] at o2
  have HC1 := Lib.hid hc1
  have HC2 := Lib.hid hc2
  obtain ⟨W, hW⟩ : ∃ W, (w.alloc (.cells #[.string s1, .complex .f64 x1 y1, .string m1, .slice p k1 k1] 48)).alloc (.cells #[.string s2, .complex .f64 x2 y2, .string m2, .slice q k2 k2] 48) = W := ⟨_, rfl⟩
  have HBW : Hid (Below n w W) := Lib.hid (by rw [← hW, ← hn]; exact (below_alloc w _).alloc (by simp) _)
  have b1 : W.heap[n]? = some (.cells #[.string s1, .complex .f64 x1 y1, .string m1, .slice p k1 k1] 48) := by
    rw [← hW, ← hn, Below.heap_alloc _ _ _ (by simp)]; exact heap_alloc_new w _
  have b2 : W.heap[n + 1]? = some (.cells #[.string s2, .complex .f64 x2 y2, .string m2, .slice q k2 k2] 48) := by
    rw [← hW, ← hn]; have := heap_alloc_new (w.alloc (.cells #[.string s1, .complex .f64 x1 y1, .string m1, .slice p k1 k1] 48)) (.cells #[.string s2, .complex .f64 x2 y2, .string m2, .slice q k2 k2] 48); simpa using this
  have z0 : W.cell? ⟨n, 0, none⟩ = some (.string s1) := by rw [cell_of_row W _ 0 _ 48 (0, 0) b1]; rfl
  have z1 : W.cell? ⟨n, 1, none⟩ = some (.complex .f64 x1 y1) := by rw [cell_of_row W _ 1 _ 48 (0, 0) b1]; rfl
  have z2 : W.cell? ⟨n, 2, none⟩ = some (.string m1) := by rw [cell_of_row W _ 2 _ 48 (0, 0) b1]; rfl
  have z3 : W.cell? ⟨n, 3, none⟩ = some (.slice p k1 k1) := by rw [cell_of_row W _ 3 _ 48 (0, 0) b1]; rfl
  have z4 : W.cell? ⟨n + 1, 0, none⟩ = some (.string s2) := by rw [cell_of_row W _ 0 _ 48 (0, 0) b2]; rfl
  have z5 : W.cell? ⟨n + 1, 1, none⟩ = some (.complex .f64 x2 y2) := by rw [cell_of_row W _ 1 _ 48 (0, 0) b2]; rfl
  have z6 : W.cell? ⟨n + 1, 2, none⟩ = some (.string m2) := by rw [cell_of_row W _ 2 _ 48 (0, 0) b2]; rfl
  have z7 : W.cell? ⟨n + 1, 3, none⟩ = some (.slice q k2 k2) := by rw [cell_of_row W _ 3 _ 48 (0, 0) b2]; rfl
  clear h hp hq ha hb r1 r2 r3 r4 hc1 hc2 b1 b2
  have hno : ∀ t : Bool, t = false → ¬ (s1 = s2 ∧ c1 = true ∧ c2 = true ∧ m1 = m2) → Tf (a = b) w (.returned (.bool t)) W := by
    intro t ht hne
    refine ⟨t, rfl, ⟨(fun h => by rw [ht] at h; cases h), fun h => ?_⟩, by rw [HN.out]; exact HBW.out⟩
    obtain ⟨g1, g2, g3, g4, g5⟩ := HE.out.1 h
    exact absurd ⟨g1, by rw [← HC1.out]; exact decide_eq_true g2, by rw [← HC2.out]; exact decide_eq_true g3, g4⟩ hne
  have HNO := Lib.hid hno
  have HEQ : Hid (s1 = s2 → m1 = m2 → (a = b ↔ c1 = true ∧ c2 = true ∧ prts a = prts b)) := Lib.hid (fun g1 g2 => by
    rw [HE.out, ← HC1.out, ← HC2.out, decide_eq_true_iff, decide_eq_true_iff]
    exact ⟨fun h => ⟨h.2.1, h.2.2.1, h.2.2.2.2⟩, fun h => ⟨g1, h.1, h.2.1, g2, h.2.2⟩⟩)
  clear hno
  by_cases e1 : s1 = s2
  · subst e1
    by_cases e2 : c1 = true ∧ c2 = true
    · obtain ⟨rfl, rfl⟩ := e2
      by_cases e3 : m1 = m2
      · subst e3
        go_enter Tryd.func55, Tryd.ntmps55
        go_wp2_with (go_at_call 54; refine Hid.out ?_)
        refine Lib.hid ?_
        refine (HQ.out _ HBW.out).mono ?_
        rintro e w2 ⟨t, rfl, ht, hb2⟩
        have HT := Lib.hid ht
        clear ht
        have HB2 : Hid (Below n w w2) := Lib.hid (HBW.out.trans (hb2.mono (by have := HBW.out.size; have := HN.out; omega)))
        clear hb2 hW hn
        go_wp2
        refine bodyPost_ret (v := .bool t) (by simp [results, Tryd.results55, go_sem]) rfl ⟨t, rfl, ?_, by rw [HN.out]; exact HB2.out⟩
        rw [HT.out]
        have h := HEQ.out
        simp at h
        exact h.symm
      · have e3' := ba_ne e3
        go_enter Tryd.func55, Tryd.ntmps55
        go_wp2
        refine bodyPost_ret (v := .bool false) (by simp [results, Tryd.results55, go_sem]) rfl (HNO.out false rfl (fun h => e3 h.2.2.2))
    · cases c1 with
      | false =>
        go_enter Tryd.func55, Tryd.ntmps55
        go_wp2
        refine bodyPost_ret (v := .bool false) (by simp [results, Tryd.results55, go_sem]) rfl (HNO.out false rfl (fun h => absurd h.2.1 (by decide)))
      | true =>
        cases c2 with
        | false =>
          go_enter Tryd.func55, Tryd.ntmps55
          go_wp2
          refine bodyPost_ret (v := .bool false) (by simp [results, Tryd.results55, go_sem]) rfl (HNO.out false rfl (fun h => absurd h.2.2.1 (by decide)))
        | true => exact absurd ⟨rfl, rfl⟩ e2
  · have e1' := ba_ne e1
    go_enter Tryd.func55, Tryd.ntmps55
    go_wp2
    refine bodyPost_ret (v := .bool false) (by simp [results, Tryd.results55, go_sem]) rfl (HNO.out false rfl (fun h => e1 h.1))
set_option maxRecDepth 100000 in
set_option maxHeartbeats 3200000 in
theorem eqf54 (xs : List Ex) (hse : ∀ x ∈ xs, SeC x) : XqC xs := by
  intro ys p q c d w hy hp hq
  have hst := store_cx
  obtain ⟨n, hn⟩ : ∃ n, w.heap.size = n := ⟨_, rfl⟩
  have HN := Lib.hid hn
  have HSE := Lib.hid hse
  have HY := Lib.hid hy
  have HP := Lib.hid hp
  have HQ := Lib.hid hq
  obtain ⟨L, hL⟩ : ∃ L, xs.length = L := ⟨_, rfl⟩
  obtain ⟨M, hM⟩ : ∃ M, ys.length = M := ⟨_, rfl⟩
  have HLX := Lib.hid hL
  have HLY := Lib.hid hM
  have hcL : L ≤ c ∧ c ≤ maxLen := by
    rcases hp with ⟨h, _, h'⟩ | ⟨_, _, _, _, h2, h3, _⟩
    · rw [h] at hL; simp at hL; subst hL; subst h'; exact ⟨Nat.le_refl _, by omega⟩
    · exact ⟨by omega, h3⟩
  have hdM : M ≤ d := by
    rcases hq with ⟨h, _, _⟩ | ⟨_, _, _, _, h2, h3, _⟩
    · rw [h] at hM; simp at hM; omega
    · omega
  have hL63 : L ≤ 9223372036854775807 := by have := hcL.1; have := hcL.2; unfold maxLen at this; omega
  rw [hL, hM]
  clear hse hy hp hq hL hM
  by_cases hlm : L = M
  · subst hlm
    go_enter Tryd.func54, Tryd.ntmps54
    go_wp2
    clear hn
    go_loopw [17] (fun i wr => ∃ j : Nat, j ≤ L ∧ i = .int .i64 (j : Int) ∧ Below n w wr ∧ ∀ k, k < j → xs[k]? = ys[k]?) (fun i _ => L - (intOf i).toNat)
    case atStart => exact ⟨0, Nat.zero_le _, rfl, Below.refl _ _, fun k h => by omega⟩
    case round =>
      obtain ⟨j, hj, rfl, hbw, hall⟩ := hrel
      have HALL := Lib.hid hall
      have HBW := Lib.hid hbw
      clear hall hbw
      by_cases hlt : j < L
      · obtain ⟨x, hx⟩ : ∃ x, xs[j]? = some x := ⟨xs[j]'(by rw [HLX.out]; exact hlt), List.getElem?_eq_getElem _⟩
        obtain ⟨y, hyy⟩ : ∃ y, ys[j]? = some y := ⟨ys[j]'(by rw [HLY.out]; exact hlt), List.getElem?_eq_getElem _⟩
        rcases HP.out with ⟨h, _⟩ | ⟨g1, rfl, hg1, _, _, _, hall1⟩
        · rw [h] at hx; cases hx
        rcases HQ.out with ⟨h, _⟩ | ⟨g2, rfl, hg2, _, _, _, hall2⟩
        · rw [h] at hyy; cases hyy
        obtain ⟨q1, hc1, hp1⟩ := hall1 j x hx
        obtain ⟨q2, hc2, hp2⟩ := hall2 j y hyy
        unfold Lt at hg1 hg2
        have hg1n : g1 < n := by have := HN.out; omega
        have hg2n : g2 < n := by have := HN.out; omega
        have hsm : Same (fun g => g < n) w wr := Same.below HBW.out (fun g h => h)
        obtain ⟨a0, a1, a2, a3⟩ := hc1.on hsm hg1n
        obtain ⟨b0, b1, b2, b3⟩ := hc2.on hsm hg2n
        have hwr := HBW.out.size
        have hg1w : g1 < wr.heap.size := by have := HN.out; omega
        have hg2w : g2 < wr.heap.size := by have := HN.out; omega
        have HCL : Hid (∀ w', Below n w w' → Calls Tryd.prog 55 #[exv x q1, exv y q2] w' (Tf (x = y) w')) := Lib.hid (fun w' hb => HSE.out x (List.mem_of_getElem? hx) y q1 q2 w' (HY.out y (List.mem_of_getElem? hyy))
          (hp1.on (Same.below hb (fun g hg => by unfold Lt at hg; have := HN.out; omega)) (fun g hg => by unfold Lt at hg ⊢; have := hb.size; omega)) (hp2.on (Same.below hb (fun g hg => by unfold Lt at hg; have := HN.out; omega)) (fun g hg => by unfold Lt at hg ⊢; have := hb.size; omega)))
        unfold exv Tf at HCL
        have HX1 := Lib.hid hx
        have HX2 := Lib.hid hyy
        have hltc : (j : Int) < (c : Int) := by have := hcL.1; omega
        have hltd : (j : Int) < (d : Int) := by omega
        generalize opB x = s1 at *
        generalize opB y = s2 at *
        generalize nxB x = x1 at *
        generalize nxB y = x2 at *
        generalize nyB x = y1 at *
        generalize nyB y = y2 at *
        generalize nmB x = m1 at *
        generalize nmB y = m2 at *
        generalize npB x = k1 at *
        generalize npB y = k2 at *
        clear hx hyy hc1 hc2 hp1 hp2 hall1 hall2 hsm hwr
        go_wp2_with (go_at_call 55; refine Hid.out ?_)
        refine Lib.hid ?_
        have hbz : Below n w ((wr.alloc (.cells #[.string s1, .complex .f64 x1 y1, .string m1, .slice q1 k1 k1] 48)).alloc (.cells #[.string s2, .complex .f64 x2 y2, .string m2, .slice q2 k2 k2] 48)) := (HBW.out.alloc (by have := HBW.out.size; have := HN.out; omega) _).alloc (by have := HBW.out.size; have := HN.out; simp; omega) _
        refine (HCL.out _ hbz).mono ?_
        rintro e w2 ⟨t, rfl, ht, hb2⟩
        have HT := Lib.hid ht
        have HB2 : Hid (Below n w w2) := Lib.hid (hbz.trans (hb2.mono (by have := HBW.out.size; have := HN.out; simp; omega)))
        clear ht hb2 hbz a0 a1 a2 a3 b0 b1 b2 b3
        cases t with
        | true =>
          go_wp2
          go_roundw
          case rel =>
            refine ⟨j + 1, by omega, by go_num, HB2.out, fun k hk => ?_⟩
            by_cases hkj : k = j
            · subst hkj
              rw [HX1.out, HX2.out, HT.out.1 (by first | rfl | trivial)]
            · exact HALL.out k (by omega)
          case measure => simp [intOf]; omega
        | false =>
          go_wp2
          go_ret
          refine ⟨false, rfl, ⟨(fun h => by cases h), fun h => ?_⟩, by rw [HN.out]; exact HB2.out⟩
          have h1 := HX1.out
          rw [h, HX2.out] at h1
          injection h1 with h1
          exact HT.out.2 h1.symm
      · obtain rfl : j = L := by omega
        go_wp2
        go_ret
        refine ⟨true, rfl, ⟨fun _ => ?_, fun _ => by first | rfl | trivial⟩, by rw [HN.out]; exact HBW.out⟩
        apply List.ext_getElem?
        intro k
        by_cases hk : k < j
        · exact HALL.out k hk
        · rw [List.getElem?_eq_none (by rw [HLX.out]; omega), List.getElem?_eq_none (by rw [HLY.out]; omega)]
  · have hlm1 : ¬ (L : Int) = (M : Int) := by omega
    have hlm2 : ((L : Int) != (M : Int)) = true := by simp; omega
    go_enter Tryd.func54, Tryd.ntmps54
    go_wp2
    refine bodyPost_ret (v := .bool false) (by simp [results, Tryd.results54, go_sem]) rfl ⟨false, rfl, ⟨(fun h => by cases h), fun h => ?_⟩, Below.refl _ _⟩
    exact absurd (by rw [← HLX.out, ← HLY.out, h]) hlm
theorem ex_sameC (a : Ex) : Wx a → SeC a := by
  induction a with
  | num re im => intro h; exact same55 _ h (eqf54 [] (fun x hx => by cases hx))
  | reg r => intro h; exact same55 _ h (eqf54 [] (fun x hx => by cases hx))
  | one k a ih => intro h; exact same55 _ h (eqf54 [a] (fun x hx => by rw [List.mem_singleton] at hx; subst hx; exact ih h.2))
  | two k a b iha ihb =>
    intro h
    refine same55 _ h (eqf54 [a, b] (fun x hx => ?_))
    simp only [List.mem_cons, List.not_mem_nil, or_false] at hx
    rcases hx with rfl | rfl
    · exact iha h.2.1
    · exact ihb h.2.2
theorem exs_sameC (xs : List Ex) (h : ∀ x ∈ xs, Wx x) : XqC xs := eqf54 xs (fun x hx => ex_sameC x (h x hx))
end Go.Proofs.YtmomdcnlhljhcaaDoor
