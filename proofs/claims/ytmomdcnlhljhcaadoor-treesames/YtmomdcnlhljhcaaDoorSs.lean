/- Same of statements. -/
import Derived.Test.YtmomdcnlhljhcaaDoorSe
import Derived.Test.YtmomdcnlhljhcaaDoorWf
set_option linter.unusedSimpArgs false
set_option linter.unusedVariables false
namespace Go.Proofs.YtmomdcnlhljhcaaDoor
open Go.RowKit Ieee

def SqC (s : Sts) : Prop := ∀ (s2 : Sts) (p q : Option Addr) (c d : Nat) (w : World), Ws s2 → StsV w (Lt w) s p c → StsV w (Lt w) s2 q d →
  Calls Tryd.prog 43 #[.slice p s.len c, .slice q s2.len d, .func (.func 44) #[] #[]] w (Tf (s = s2) w)
/-- Calls that compare, over letters. -/
def CmpX (n : Nat) (w : World) (f : Nat) (a b fv : Value) (P : Prop) : Prop := ∀ w', Below n w w' → Calls Tryd.prog f #[a, b, fv] w' (Tf P w')
set_option maxRecDepth 100000 in
set_option maxHeartbeats 6400000 in
theorem same44 (k1 k2 : Nat) (R1 R2 N1 N2 : ByteArray) (i1 i2 : Bool) (px1 px2 pb1 pb2 pe1 pe2 : Option Addr) (nx1 nx2 cx1 cx2 nb1 nb2 cb1 cb2 ne1 ne2 ce1 ce2 : Nat) (Px Pb Pe : Prop) (w : World) (n : Nat) (hn : w.heap.size = n)
    (hx : CmpX n w 54 (.slice px1 nx1 cx1) (.slice px2 nx2 cx2) (.func (.func 55) #[] #[]) Px) (hb : CmpX n w 43 (.slice pb1 nb1 cb1) (.slice pb2 nb2 cb2) (.func (.func 44) #[] #[]) Pb) (he : CmpX n w 43 (.slice pe1 ne1 ce1) (.slice pe2 ne2 ce2) (.func (.func 44) #[] #[]) Pe) :
    Calls Tryd.prog 44 #[.agg #[.int .i64 (k1 : Int), .string R1, .string N1, .bool i1, .slice px1 nx1 cx1, .slice pb1 nb1 cb1, .slice pe1 ne1 ce1, .int .i64 0], .agg #[.int .i64 (k2 : Int), .string R2, .string N2, .bool i2, .slice px2 nx2 cx2, .slice pb2 nb2 cb2, .slice pe2 ne2 ce2, .int .i64 0]] w (Tf (k1 = k2 ∧ R1 = R2 ∧ N1 = N2 ∧ i1 = i2 ∧ Px ∧ Pb ∧ Pe) w) := by
  have HN := Lib.hid hn
  have HX := Lib.hid hx
  have HB := Lib.hid hb
  have HE := Lib.hid he
  unfold CmpX Tf at HX HB HE
  obtain ⟨W, hW⟩ : ∃ W, (w.alloc (.cells #[.int .i64 (k1 : Int), .string R1, .string N1, .bool i1, .slice px1 nx1 cx1, .slice pb1 nb1 cb1, .slice pe1 ne1 ce1, .int .i64 0] 87)).alloc (.cells #[.int .i64 (k2 : Int), .string R2, .string N2, .bool i2, .slice px2 nx2 cx2, .slice pb2 nb2 cb2, .slice pe2 ne2 ce2, .int .i64 0] 87) = W := ⟨_, rfl⟩
  have HBW : Hid (Below n w W) := Lib.hid (by rw [← hW, ← hn]; exact (below_alloc w _).alloc (by simp) _)
  have HWS : Hid (n + 2 ≤ W.heap.size) := Lib.hid (by rw [← hW]; simp; omega)
  have B1 : Hid (W.heap[n]? = some (.cells #[.int .i64 (k1 : Int), .string R1, .string N1, .bool i1, .slice px1 nx1 cx1, .slice pb1 nb1 cb1, .slice pe1 ne1 ce1, .int .i64 0] 87)) := Lib.hid (by rw [← hW, ← hn, Below.heap_alloc _ _ _ (by simp)]; exact heap_alloc_new w _)
  have B2 : Hid (W.heap[n + 1]? = some (.cells #[.int .i64 (k2 : Int), .string R2, .string N2, .bool i2, .slice px2 nx2 cx2, .slice pb2 nb2 cb2, .slice pe2 ne2 ce2, .int .i64 0] 87)) := Lib.hid (by
    rw [← hW, ← hn]; have := heap_alloc_new (w.alloc (.cells #[.int .i64 (k1 : Int), .string R1, .string N1, .bool i1, .slice px1 nx1 cx1, .slice pb1 nb1 cb1, .slice pe1 ne1 ce1, .int .i64 0] 87)) (.cells #[.int .i64 (k2 : Int), .string R2, .string N2, .bool i2, .slice px2 nx2 cx2, .slice pb2 nb2 cb2, .slice pe2 ne2 ce2, .int .i64 0] 87); simpa using this)
  have HC1 : Hid (∀ w' i, Below W.heap.size W w' → w'.cell? ⟨n, i, none⟩ = (#[.int .i64 (k1 : Int), .string R1, .string N1, .bool i1, .slice px1 nx1 cx1, .slice pb1 nb1 cb1, .slice pe1 ne1 ce1, .int .i64 0])[i]?) := Lib.hid (fun w' i hb => by
    have := HWS.out
    rw [cell_of_row w' _ i _ 87 (0, 0) ((hb.block n (by omega)).trans B1.out)])
  have HC2 : Hid (∀ w' i, Below W.heap.size W w' → w'.cell? ⟨n + 1, i, none⟩ = (#[.int .i64 (k2 : Int), .string R2, .string N2, .bool i2, .slice px2 nx2 cx2, .slice pb2 nb2 cb2, .slice pe2 ne2 ce2, .int .i64 0])[i]?) := Lib.hid (fun w' i hb => by
    have := HWS.out
    rw [cell_of_row w' _ i _ 87 (0, 0) ((hb.block (n + 1) (by omega)).trans B2.out)])
  have y0 : W.cell? ⟨n, 0, none⟩ = some (.int .i64 (k1 : Int)) := HC1.out W 0 (Below.refl _ _)
  have z0 : W.cell? ⟨n + 1, 0, none⟩ = some (.int .i64 (k2 : Int)) := HC2.out W 0 (Below.refl _ _)
  have y1 : W.cell? ⟨n, 1, none⟩ = some (.string R1) := HC1.out W 1 (Below.refl _ _)
  have z1 : W.cell? ⟨n + 1, 1, none⟩ = some (.string R2) := HC2.out W 1 (Below.refl _ _)
  have y2 : W.cell? ⟨n, 2, none⟩ = some (.string N1) := HC1.out W 2 (Below.refl _ _)
  have z2 : W.cell? ⟨n + 1, 2, none⟩ = some (.string N2) := HC2.out W 2 (Below.refl _ _)
  have y3 : W.cell? ⟨n, 3, none⟩ = some (.bool i1) := HC1.out W 3 (Below.refl _ _)
  have z3 : W.cell? ⟨n + 1, 3, none⟩ = some (.bool i2) := HC2.out W 3 (Below.refl _ _)
  have y4 : W.cell? ⟨n, 4, none⟩ = some (.slice px1 nx1 cx1) := HC1.out W 4 (Below.refl _ _)
  have z4 : W.cell? ⟨n + 1, 4, none⟩ = some (.slice px2 nx2 cx2) := HC2.out W 4 (Below.refl _ _)
  have y5 : W.cell? ⟨n, 5, none⟩ = some (.slice pb1 nb1 cb1) := HC1.out W 5 (Below.refl _ _)
  have z5 : W.cell? ⟨n + 1, 5, none⟩ = some (.slice pb2 nb2 cb2) := HC2.out W 5 (Below.refl _ _)
  have y6 : W.cell? ⟨n, 6, none⟩ = some (.slice pe1 ne1 ce1) := HC1.out W 6 (Below.refl _ _)
  have z6 : W.cell? ⟨n + 1, 6, none⟩ = some (.slice pe2 ne2 ce2) := HC2.out W 6 (Below.refl _ _)
  have y7 : W.cell? ⟨n, 7, none⟩ = some (.int .i64 0) := HC1.out W 7 (Below.refl _ _)
  have z7 : W.cell? ⟨n + 1, 7, none⟩ = some (.int .i64 0) := HC2.out W 7 (Below.refl _ _)
  obtain ⟨PP, hPP⟩ : ∃ PP : Prop, (k1 = k2 ∧ R1 = R2 ∧ N1 = N2 ∧ i1 = i2 ∧ Px ∧ Pb ∧ Pe) = PP := ⟨_, rfl⟩
  rw [hPP]
  have HNO : Hid (∀ w', Below n w w' → ¬ PP → Tf PP w (.returned (.bool false)) w') := Lib.hid (fun w' hb hne => ⟨false, rfl, ⟨(fun h => by cases h), fun h => absurd h hne⟩, by rw [HN.out]; exact hb⟩)
  have HYE : Hid (∀ w', Below n w w' → PP → Tf PP w (.returned (.bool true)) w') := Lib.hid (fun w' hb hp => ⟨true, rfl, ⟨fun _ => hp, fun _ => rfl⟩, by rw [HN.out]; exact hb⟩)
  clear hx hb he
  by_cases e1 : k1 = k2
  · by_cases e2 : R1 = R2
    · by_cases e3 : N1 = N2
      · by_cases e4 : i1 = i2
        · have HXN : Hid (¬ Px → ¬ PP) := Lib.hid (fun h h' => by rw [← hPP] at h'; exact h h'.2.2.2.2.1)
          have HBN : Hid (¬ Pb → ¬ PP) := Lib.hid (fun h h' => by rw [← hPP] at h'; exact h h'.2.2.2.2.2.1)
          have HEN : Hid (¬ Pe → ¬ PP) := Lib.hid (fun h h' => by rw [← hPP] at h'; exact h h'.2.2.2.2.2.2)
          have HAL : Hid (Px → Pb → Pe → PP) := Lib.hid (fun a b c => by rw [← hPP]; exact ⟨e1, e2, e3, e4, a, b, c⟩)
          clear hPP
          subst e1 e2 e3 e4
          go_enter Tryd.func44, Tryd.ntmps44
          go_wp2_with (go_at_call 54; refine Hid.out ?_)
          refine Lib.hid ?_
          refine (HX.out _ HBW.out).mono ?_
          rintro e w2 ⟨t1, rfl, ht1, hb2⟩
          have HB2 : Hid (Below n w w2) := Lib.hid (HBW.out.trans (hb2.mono (by have := HWS.out; omega)))
          have HW2 := Lib.hid hb2
          have y5' : w2.cell? ⟨n, 5, none⟩ = some (.slice pb1 nb1 cb1) := HC1.out w2 5 hb2
          have z5' : w2.cell? ⟨n + 1, 5, none⟩ = some (.slice pb2 nb2 cb2) := HC2.out w2 5 hb2
          clear hb2 hW hn y0 y1 y2 y3 y4 y5 y6 y7 z0 z1 z2 z3 z4 z5 z6 z7
          cases t1 with
          | false =>
            have HZ := Lib.hid (HNO.out w2 HB2.out (HXN.out (fun h => absurd (ht1.2 h) (by simp))))
            clear ht1
            go_wp2
            refine bodyPost_ret (v := .bool false) (by simp [results, Tryd.results44, go_sem]) rfl ?_
            exact HZ.out
          | true =>
            have hpx : Px := ht1.1 rfl
            have HPX := Lib.hid hpx
            clear ht1 hpx
            go_wp2_with (go_at_call 43; refine Hid.out ?_)
            refine Lib.hid ?_
            refine (HB.out _ HB2.out).mono ?_
            rintro e w3 ⟨t2, rfl, ht2, hb3⟩
            have HB3 : Hid (Below n w w3) := Lib.hid (HB2.out.trans (hb3.mono (by have := HB2.out.size; have := HN.out; omega)))
            have HW3 : Hid (Below W.heap.size W w3) := Lib.hid (HW2.out.trans (hb3.mono HW2.out.size))
            have y6' : w3.cell? ⟨n, 6, none⟩ = some (.slice pe1 ne1 ce1) := HC1.out w3 6 HW3.out
            have z6' : w3.cell? ⟨n + 1, 6, none⟩ = some (.slice pe2 ne2 ce2) := HC2.out w3 6 HW3.out
            clear hb3 y5' z5'
            cases t2 with
            | false =>
              have HZ := Lib.hid (HNO.out w3 HB3.out (HBN.out (fun h => absurd (ht2.2 h) (by simp))))
              clear ht2
              go_wp2
              refine bodyPost_ret (v := .bool false) (by simp [results, Tryd.results44, go_sem]) rfl ?_
              exact HZ.out
            | true =>
              have hpb : Pb := ht2.1 rfl
              have HPB := Lib.hid hpb
              clear ht2 hpb
              go_wp2_with (go_at_call 43; refine Hid.out ?_)
              refine Lib.hid ?_
              refine (HE.out _ HB3.out).mono ?_
              rintro e w4 ⟨t3, rfl, ht3, hb4⟩
              have HB4 : Hid (Below n w w4) := Lib.hid (HB3.out.trans (hb4.mono (by have := HB3.out.size; have := HN.out; omega)))
              clear hb4 y6' z6'
              cases t3 with
              | false =>
                have HZ := Lib.hid (HNO.out w4 HB4.out (HEN.out (fun h => absurd (ht3.2 h) (by simp))))
                clear ht3
                go_wp2
                refine bodyPost_ret (v := .bool false) (by simp [results, Tryd.results44, go_sem]) rfl ?_
                exact HZ.out
              | true =>
                have HZ := Lib.hid (HYE.out w4 HB4.out (HAL.out HPX.out HPB.out (ht3.1 rfl)))
                clear ht3
                go_wp2
                refine bodyPost_ret (v := .bool true) (by simp [results, Tryd.results44, go_sem]) rfl ?_
                exact HZ.out
        · have HZ := Lib.hid (HNO.out W HBW.out (fun h => by rw [← hPP] at h; exact e4 h.2.2.2.1))
          clear hPP
          subst e1 e2 e3
          cases i1 <;> cases i2 <;> first
            | exact absurd rfl e4
            | (go_enter Tryd.func44, Tryd.ntmps44
               go_wp2
               refine bodyPost_ret (v := .bool false) (by simp [results, Tryd.results44, go_sem]) rfl ?_
               exact HZ.out)
      · have e3' := ba_ne e3
        have HZ := Lib.hid (HNO.out W HBW.out (fun h => by rw [← hPP] at h; exact e3 h.2.2.1))
        clear hPP
        subst e1 e2
        go_enter Tryd.func44, Tryd.ntmps44
        go_wp2
        refine bodyPost_ret (v := .bool false) (by simp [results, Tryd.results44, go_sem]) rfl ?_
        exact HZ.out
    · have e2' := ba_ne e2
      have HZ := Lib.hid (HNO.out W HBW.out (fun h => by rw [← hPP] at h; exact e2 h.2.1))
      clear hPP
      subst e1
      go_enter Tryd.func44, Tryd.ntmps44
      go_wp2
      refine bodyPost_ret (v := .bool false) (by simp [results, Tryd.results44, go_sem]) rfl ?_
      exact HZ.out
  · have e1a : ¬ (k1 : Int) = (k2 : Int) := by omega
    have e1b : ((k1 : Int) == (k2 : Int)) = false := by simp; omega
    have HZ := Lib.hid (HNO.out W HBW.out (fun h => by rw [← hPP] at h; exact e1 h.1))
    clear hPP
    go_enter Tryd.func44, Tryd.ntmps44
    go_wp2
    refine bodyPost_ret (v := .bool false) (by simp [results, Tryd.results44, go_sem]) rfl ?_
    exact HZ.out
def AllC : Sts → Prop
  | .nil => True
  | .cons _ _ _ _ _ b e r => SqC b ∧ SqC e ∧ AllC r
theorem get_at {w : World} {S : Nat → Prop} {g : Nat} : ∀ (s : Sts) (o : Nat), StsAt w S s g o → ∀ i k rg nm ix xs b e, s.get i = some (k, rg, nm, ix, xs, b, e) →
    ∃ px cx pb cb pe ce, Cs w g (o + i * 8) k rg nm ix px xs.length cx pb b.len cb pe e.len ce ∧ XsV w S xs px cx ∧ StsV w S b pb cb ∧ StsV w S e pe ce := by
  intro s
  induction s with
  | nil => intro o _ i k rg nm ix xs b e h; simp [Sts.get] at h
  | cons k' rg' nm' ix' xs' b' e' r _ _ ih =>
    intro o h i k rg nm ix xs b e hg
    rw [StsAt_cons] at h
    cases i with
    | zero =>
      simp only [Sts.get, Option.some.injEq, Prod.mk.injEq] at hg
      obtain ⟨rfl, rfl, rfl, rfl, rfl, rfl, rfl⟩ := hg
      simpa using h.1
    | succ i =>
      have := ih (o + 8) h.2 i k rg nm ix xs b e hg
      rw [show o + 8 + i * 8 = o + (i + 1) * 8 by omega] at this
      exact this
theorem get_lt (s : Sts) : ∀ i, i < s.len → ∃ k rg nm ix xs b e, s.get i = some (k, rg, nm, ix, xs, b, e) := by
  induction s with
  | nil => intro i h; simp [Sts.len] at h
  | cons k rg nm ix xs b e r _ _ ih =>
    intro i h
    cases i with
    | zero => exact ⟨k, rg, nm, ix, xs, b, e, rfl⟩
    | succ i => exact ih i (by simp only [Sts.len] at h; omega)
theorem get_ext (s : Sts) : ∀ s2 : Sts, s.len = s2.len → (∀ i, i < s.len → s.get i = s2.get i) → s = s2 := by
  induction s with
  | nil => intro s2 h _; cases s2 with
    | nil => rfl
    | cons _ _ _ _ _ _ _ _ => simp [Sts.len] at h
  | cons k rg nm ix xs b e r _ _ ih =>
    intro s2 h hg
    cases s2 with
    | nil => simp [Sts.len] at h
    | cons k' rg' nm' ix' xs' b' e' r' =>
      have h0 := hg 0 (by simp only [Sts.len]; omega)
      simp only [Sts.get, Option.some.injEq, Prod.mk.injEq] at h0
      obtain ⟨rfl, rfl, rfl, rfl, rfl, rfl, rfl⟩ := h0
      have hr := ih r' (by simp only [Sts.len] at h; omega) (fun i hi => hg (i + 1) (by simp only [Sts.len]; omega))
      rw [hr]
theorem get_ws (s : Sts) : Ws s → ∀ i k rg nm ix xs b e, s.get i = some (k, rg, nm, ix, xs, b, e) → Wh k rg nm ix xs ∧ Ws b ∧ Ws e := by
  induction s with
  | nil => intro _ i k rg nm ix xs b e h; simp [Sts.get] at h
  | cons k' rg' nm' ix' xs' b' e' r _ _ ih =>
    intro h i k rg nm ix xs b e hg
    cases i with
    | zero =>
      simp only [Sts.get, Option.some.injEq, Prod.mk.injEq] at hg
      obtain ⟨rfl, rfl, rfl, rfl, rfl, rfl, rfl⟩ := hg
      exact ⟨h.1, h.2.2.2.1, h.2.2.2.2.1⟩
    | succ i => exact ih h.2.2.2.2.2 i k rg nm ix xs b e hg
theorem get_all (s : Sts) : AllC s → ∀ i k rg nm ix xs b e, s.get i = some (k, rg, nm, ix, xs, b, e) → SqC b ∧ SqC e := by
  induction s with
  | nil => intro _ i k rg nm ix xs b e h; simp [Sts.get] at h
  | cons k' rg' nm' ix' xs' b' e' r _ _ ih =>
    intro h i k rg nm ix xs b e hg
    cases i with
    | zero =>
      simp only [Sts.get, Option.some.injEq, Prod.mk.injEq] at hg
      obtain ⟨rfl, rfl, rfl, rfl, rfl, rfl, rfl⟩ := hg
      exact ⟨h.1, h.2.1⟩
    | succ i => exact ih h.2.2 i k rg nm ix xs b e hg
theorem ba_eq {a b : List UInt8} : ((⟨a.toArray⟩ : ByteArray) = ⟨b.toArray⟩) ↔ a = b := ⟨ba_inj, fun h => by rw [h]⟩
theorem Tf.iff {P P' : Prop} (h : P ↔ P') {w : World} {e : Ending} {w' : World} (ht : Tf P w e w') : Tf P' w e w' := by
  obtain ⟨t, h1, h2, h3⟩ := ht
  exact ⟨t, h1, h2.trans h, h3⟩
theorem lt_on {w w' : World} (hb : Below w.heap.size w w') : (∀ g, Lt w g → g < w.heap.size) ∧ (∀ g, Lt w g → Lt w' g) := ⟨fun g h => h, fun g h => Nat.lt_of_lt_of_le h hb.size⟩
set_option maxRecDepth 100000 in
set_option maxHeartbeats 3200000 in
theorem eqf43 (s : Sts) (hw : Ws s) (hal : AllC s) : SqC s := by
  intro s2 p q c d w hw2 hp hq
  obtain ⟨n, hn⟩ : ∃ n, w.heap.size = n := ⟨_, rfl⟩
  have HN := Lib.hid hn
  have HP := Lib.hid hp
  have HQ := Lib.hid hq
  obtain ⟨L, hL⟩ : ∃ L, s.len = L := ⟨_, rfl⟩
  obtain ⟨M, hM⟩ : ∃ M, s2.len = M := ⟨_, rfl⟩
  have HLX := Lib.hid hL
  have HLY := Lib.hid hM
  have hcL : L ≤ c ∧ c ≤ maxLen := by
    rcases hp with ⟨h, _, h'⟩ | ⟨_, _, _, _, h2, h3, _⟩
    · rw [h] at hL; simp [Sts.len] at hL; subst hL; subst h'; exact ⟨Nat.le_refl _, by omega⟩
    · exact ⟨by omega, h3⟩
  have hdM : M ≤ d := by
    rcases hq with ⟨h, _, _⟩ | ⟨_, _, _, _, h2, h3, _⟩
    · rw [h] at hM; simp [Sts.len] at hM; omega
    · omega
  have hL63 : L ≤ 9223372036854775807 := by have := hcL.1; have := hcL.2; unfold maxLen at this; omega
  have HST : Hid (∀ (i k1 : Nat) (rg1 nm1 : List UInt8) (ix1 : Bool) (xs1 : List Ex) (b1 e1 : Sts) (k2 : Nat) (rg2 nm2 : List UInt8) (ix2 : Bool) (xs2 : List Ex) (b2 e2 : Sts) (px1 : Option Addr) (cx1 : Nat) (pb1 : Option Addr) (cb1 : Nat) (pe1 : Option Addr) (ce1 : Nat) (px2 : Option Addr) (cx2 : Nat) (pb2 : Option Addr) (cb2 : Nat) (pe2 : Option Addr) (ce2 : Nat),
      s.get i = some (k1, rg1, nm1, ix1, xs1, b1, e1) → s2.get i = some (k2, rg2, nm2, ix2, xs2, b2, e2) → XsV w (Lt w) xs1 px1 cx1 → StsV w (Lt w) b1 pb1 cb1 → StsV w (Lt w) e1 pe1 ce1 → XsV w (Lt w) xs2 px2 cx2 → StsV w (Lt w) b2 pb2 cb2 → StsV w (Lt w) e2 pe2 ce2 → ∀ w', Below n w w' →
      Calls Tryd.prog 44 #[stv k1 rg1 nm1 ix1 px1 xs1.length cx1 pb1 b1.len cb1 pe1 e1.len ce1, stv k2 rg2 nm2 ix2 px2 xs2.length cx2 pb2 b2.len cb2 pe2 e2.len ce2] w' (Tf (s.get i = s2.get i) w')) := Lib.hid (by
    intro i k1 rg1 nm1 ix1 xs1 b1 e1 k2 rg2 nm2 ix2 xs2 b2 e2 px1 cx1 pb1 cb1 pe1 ce1 px2 cx2 pb2 cb2 pe2 ce2 g1 g2 v1 v2 v3 v4 v5 v6 w' hb
    obtain ⟨a1, a2, a3⟩ := get_ws s hw i _ _ _ _ _ _ _ g1
    obtain ⟨c1, c2, c3⟩ := get_ws s2 hw2 i _ _ _ _ _ _ _ g2
    obtain ⟨d1, d2⟩ := get_all s hal i _ _ _ _ _ _ _ g1
    have on1 : ∀ w2, Below w'.heap.size w' w2 → Same (Lt w) w w2 ∧ ∀ g, Lt w g → Lt w2 g := fun w2 hb2 => by
      have hs := hb.size
      have hbb : Below n w w2 := hb.trans (hb2.mono (by omega))
      exact ⟨Same.below hbb (fun g h => by unfold Lt at h; omega), fun g h => by unfold Lt at h ⊢; have := hbb.size; omega⟩
    refine (same44 k1 k2 ⟨rg1.toArray⟩ ⟨rg2.toArray⟩ ⟨nm1.toArray⟩ ⟨nm2.toArray⟩ ix1 ix2 px1 px2 pb1 pb2 pe1 pe2 xs1.length xs2.length cx1 cx2 b1.len b2.len cb1 cb2 e1.len e2.len ce1 ce2 (xs1 = xs2) (b1 = b2) (e1 = e2) w' _ rfl
      (fun w2 hb2 => exs_sameC xs1 a1.ex xs2 px1 px2 cx1 cx2 w2 c1.ex (v1.on (on1 w2 hb2).1 (on1 w2 hb2).2) (v4.on (on1 w2 hb2).1 (on1 w2 hb2).2))
      (fun w2 hb2 => d1 b2 pb1 pb2 cb1 cb2 w2 c2 (v2.on (on1 w2 hb2).1 (on1 w2 hb2).2) (v5.on (on1 w2 hb2).1 (on1 w2 hb2).2))
      (fun w2 hb2 => d2 e2 pe1 pe2 ce1 ce2 w2 c3 (v3.on (on1 w2 hb2).1 (on1 w2 hb2).2) (v6.on (on1 w2 hb2).1 (on1 w2 hb2).2))).mono ?_
    intro e w2 ht
    refine ht.iff ?_
    rw [ba_eq, ba_eq, g1, g2]
    simp only [Option.some.injEq, Prod.mk.injEq])
  unfold stv Tf at HST
  rw [hL, hM]
  clear hw hw2 hal hp hq hL hM
  by_cases hlm : L = M
  · subst hlm
    go_enter Tryd.func43, Tryd.ntmps43
    go_wp2
    clear hn
    go_loopw [17] (fun i wr => ∃ j : Nat, j ≤ L ∧ i = .int .i64 (j : Int) ∧ Below n w wr ∧ ∀ k, k < j → s.get k = s2.get k) (fun i _ => L - (intOf i).toNat)
    case atStart => exact ⟨0, Nat.zero_le _, rfl, Below.refl _ _, fun k h => by omega⟩
    case round =>
      obtain ⟨j, hj, rfl, hbw, hall⟩ := hrel
      have HALL := Lib.hid hall
      have HBW := Lib.hid hbw
      clear hall hbw
      by_cases hlt : j < L
      · obtain ⟨k1, rg1, nm1, ix1, xs1, b1, e1, hg1⟩ := get_lt s j (by rw [HLX.out]; exact hlt)
        obtain ⟨k2, rg2, nm2, ix2, xs2, b2, e2, hg2⟩ := get_lt s2 j (by rw [HLY.out]; exact hlt)
        rcases HP.out with ⟨h, _⟩ | ⟨ga, rfl, hga, _, _, _, hat1⟩
        · rw [h] at hg1; simp [Sts.get] at hg1
        rcases HQ.out with ⟨h, _⟩ | ⟨gb, rfl, hgb, _, _, _, hat2⟩
        · rw [h] at hg2; simp [Sts.get] at hg2
        obtain ⟨px1, cx1, pb1, cb1, pe1, ce1, hc1, v1, v2, v3⟩ := get_at s 0 hat1 j _ _ _ _ _ _ _ hg1
        obtain ⟨px2, cx2, pb2, cb2, pe2, ce2, hc2, v4, v5, v6⟩ := get_at s2 0 hat2 j _ _ _ _ _ _ _ hg2
        unfold Lt at hga hgb
        have hgan : ga < n := by have := HN.out; omega
        have hgbn : gb < n := by have := HN.out; omega
        have hsm : Same (fun g => g < n) w wr := Same.below HBW.out (fun g h => h)
        rw [Nat.zero_add] at hc1 hc2
        obtain ⟨a0, a1, a2, a3, a4, a5, a6, a7⟩ := hc1.on hsm hgan
        obtain ⟨b0, b1', b2', b3, b4, b5, b6, b7⟩ := hc2.on hsm hgbn
        have hwr := HBW.out.size
        have hgaw : ga < wr.heap.size := by have := HN.out; omega
        have hgbw : gb < wr.heap.size := by have := HN.out; omega
        have HCL := Lib.hid (HST.out j k1 rg1 nm1 ix1 xs1 b1 e1 k2 rg2 nm2 ix2 xs2 b2 e2 px1 cx1 pb1 cb1 pe1 ce1 px2 cx2 pb2 cb2 pe2 ce2 hg1 hg2 v1 v2 v3 v4 v5 v6)
        have hltc : (j : Int) < (c : Int) := by have := hcL.1; omega
        have hltd : (j : Int) < (d : Int) := by omega
        clear hg1 hg2 hc1 hc2 hat1 hat2 v1 v2 v3 v4 v5 v6 hsm hwr HST
        generalize xs1.length = nx1 at *
        generalize xs2.length = nx2 at *
        generalize b1.len = nb1 at *
        generalize b2.len = nb2 at *
        generalize e1.len = ne1 at *
        generalize e2.len = ne2 at *
        go_wp2_with (go_at_call 44; refine Hid.out ?_)
        refine Lib.hid ?_
        have hbz : ∀ o1 o2 : Obj, Below n w ((wr.alloc o1).alloc o2) := fun o1 o2 => (HBW.out.alloc (by have := HBW.out.size; have := HN.out; omega) _).alloc (by have := HBW.out.size; have := HN.out; simp; omega) _
        refine (HCL.out _ (hbz _ _)).mono ?_
        rintro e w2 ⟨t, rfl, ht, hb2⟩
        have HB2 : Hid (Below n w w2) := Lib.hid ((hbz _ _).trans (hb2.mono (by have := HBW.out.size; have := HN.out; simp; omega)))
        clear hb2 hbz a0 a1 a2 a3 a4 a5 a6 a7 b0 b1' b2' b3 b4 b5 b6 b7
        cases t with
        | true =>
          have HT := Lib.hid (ht.1 rfl)
          clear ht
          go_wp2
          go_roundw
          case rel =>
            refine ⟨j + 1, by omega, by go_num, HB2.out, fun k hk => ?_⟩
            by_cases hkj : k = j
            · subst hkj; exact HT.out
            · exact HALL.out k (by omega)
          case measure => simp [intOf]; omega
        | false =>
          have HT : Hid (¬ s = s2) := Lib.hid (fun h => absurd (ht.2 (by rw [h])) (by simp))
          clear ht
          go_wp2
          go_ret
          exact ⟨false, rfl, ⟨(fun h => by cases h), fun h => absurd h HT.out⟩, by rw [HN.out]; exact HB2.out⟩
      · obtain rfl : j = L := by omega
        have HF : Hid (s = s2) := Lib.hid (get_ext s s2 (by rw [HLX.out, HLY.out]) (fun i hi => HALL.out i (by rw [HLX.out] at hi; exact hi)))
        go_wp2
        go_ret
        exact ⟨true, rfl, ⟨fun _ => HF.out, fun _ => by first | rfl | trivial⟩, by rw [HN.out]; exact HBW.out⟩
  · have hlm1 : ¬ (L : Int) = (M : Int) := by omega
    have hlm2 : ((L : Int) != (M : Int)) = true := by simp; omega
    go_enter Tryd.func43, Tryd.ntmps43
    go_wp2
    refine bodyPost_ret (v := .bool false) (by simp [results, Tryd.results43, go_sem]) rfl ⟨false, rfl, ⟨(fun h => by cases h), fun h => ?_⟩, Below.refl _ _⟩
    exact absurd (by rw [← HLX.out, ← HLY.out, h]) hlm
theorem sts_sameC (s : Sts) : Ws s → SqC s ∧ AllC s := by
  induction s with
  | nil => intro h; exact ⟨eqf43 .nil trivial trivial, trivial⟩
  | cons k rg nm ix xs b e r ihb ihe ihr =>
    intro h
    have ha : AllC (.cons k rg nm ix xs b e r) := ⟨(ihb h.2.2.2.1).1, (ihe h.2.2.2.2.1).1, (ihr h.2.2.2.2.2).2⟩
    exact ⟨eqf43 _ h ha, ha⟩
end Go.Proofs.YtmomdcnlhljhcaaDoor
