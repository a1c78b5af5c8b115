/- Same of declarations, of programs. -/
import Derived.Test.YtmomdcnlhljhcaaDoorSs
import Derived.Test.YtmomdcnlhljhcaaDoorRt
set_option linter.unusedSimpArgs false
set_option linter.unusedVariables false
namespace Go.Proofs.YtmomdcnlhljhcaaDoor
open Go.RowKit Ieee

set_option maxRecDepth 100000 in
set_option maxHeartbeats 6400000 in
theorem same31 (k1 k2 : Nat) (N1 N2 : ByteArray) (x1 y1 x2 y2 : Nat) (c1 c2 : Bool) (o1 : (FloatKind.f64.format.order x1 x2 == some .eq) = c1) (o2 : (FloatKind.f64.format.order y1 y2 == some .eq) = c2) (pb1 pb2 : Option Addr) (nb1 nb2 cb1 cb2 : Nat) (a1 a2 : Int) (Pb : Prop) (w : World) (n : Nat) (hn : w.heap.size = n)
    (hb : CmpX n w 43 (.slice pb1 nb1 cb1) (.slice pb2 nb2 cb2) (.func (.func 44) #[] #[]) Pb) :
    Calls Tryd.prog 31 #[.agg #[.int .i64 (k1 : Int), .string N1, .complex .f64 x1 y1, .slice pb1 nb1 cb1, .int .i64 a1], .agg #[.int .i64 (k2 : Int), .string N2, .complex .f64 x2 y2, .slice pb2 nb2 cb2, .int .i64 a2]] w (Tf (k1 = k2 ∧ N1 = N2 ∧ c1 = true ∧ c2 = true ∧ Pb) w) := by
  have HN := Lib.hid hn
  have HB := Lib.hid hb
  unfold CmpX Tf at HB
  obtain ⟨W, hW⟩ : ∃ W, (w.alloc (.cells #[.int .i64 (k1 : Int), .string N1, .complex .f64 x1 y1, .slice pb1 nb1 cb1, .int .i64 a1] 43)).alloc (.cells #[.int .i64 (k2 : Int), .string N2, .complex .f64 x2 y2, .slice pb2 nb2 cb2, .int .i64 a2] 43) = W := ⟨_, rfl⟩
  have HBW : Hid (Below n w W) := Lib.hid (by rw [← hW, ← hn]; exact (below_alloc w _).alloc (by simp) _)
  have HWS : Hid (n + 2 ≤ W.heap.size) := Lib.hid (by rw [← hW]; simp; omega)
  have B1 : W.heap[n]? = some (.cells #[.int .i64 (k1 : Int), .string N1, .complex .f64 x1 y1, .slice pb1 nb1 cb1, .int .i64 a1] 43) := by rw [← hW, ← hn, Below.heap_alloc _ _ _ (by simp)]; exact heap_alloc_new w _
  have B2 : W.heap[n + 1]? = some (.cells #[.int .i64 (k2 : Int), .string N2, .complex .f64 x2 y2, .slice pb2 nb2 cb2, .int .i64 a2] 43) := by
    rw [← hW, ← hn]; have := heap_alloc_new (w.alloc (.cells #[.int .i64 (k1 : Int), .string N1, .complex .f64 x1 y1, .slice pb1 nb1 cb1, .int .i64 a1] 43)) (.cells #[.int .i64 (k2 : Int), .string N2, .complex .f64 x2 y2, .slice pb2 nb2 cb2, .int .i64 a2] 43); simpa using this
  have y0_ : W.cell? ⟨n, 0, none⟩ = some (.int .i64 (k1 : Int)) := by rw [cell_of_row W _ 0 _ 43 (0, 0) B1]; rfl
  have z0_ : W.cell? ⟨n + 1, 0, none⟩ = some (.int .i64 (k2 : Int)) := by rw [cell_of_row W _ 0 _ 43 (0, 0) B2]; rfl
  have y1_ : W.cell? ⟨n, 1, none⟩ = some (.string N1) := by rw [cell_of_row W _ 1 _ 43 (0, 0) B1]; rfl
  have z1_ : W.cell? ⟨n + 1, 1, none⟩ = some (.string N2) := by rw [cell_of_row W _ 1 _ 43 (0, 0) B2]; rfl
  have y2_ : W.cell? ⟨n, 2, none⟩ = some (.complex .f64 x1 y1) := by rw [cell_of_row W _ 2 _ 43 (0, 0) B1]; rfl
  have z2_ : W.cell? ⟨n + 1, 2, none⟩ = some (.complex .f64 x2 y2) := by rw [cell_of_row W _ 2 _ 43 (0, 0) B2]; rfl
  have y3_ : W.cell? ⟨n, 3, none⟩ = some (.slice pb1 nb1 cb1) := by rw [cell_of_row W _ 3 _ 43 (0, 0) B1]; rfl
  have z3_ : W.cell? ⟨n + 1, 3, none⟩ = some (.slice pb2 nb2 cb2) := by rw [cell_of_row W _ 3 _ 43 (0, 0) B2]; rfl
  have y4_ : W.cell? ⟨n, 4, none⟩ = some (.int .i64 a1) := by rw [cell_of_row W _ 4 _ 43 (0, 0) B1]; rfl
  have z4_ : W.cell? ⟨n + 1, 4, none⟩ = some (.int .i64 a2) := by rw [cell_of_row W _ 4 _ 43 (0, 0) B2]; rfl
  obtain ⟨PP, hPP⟩ : ∃ PP : Prop, (k1 = k2 ∧ N1 = N2 ∧ c1 = true ∧ c2 = true ∧ Pb) = PP := ⟨_, rfl⟩
  rw [hPP]
  have HNO : Hid (∀ w', Below n w w' → ¬ PP → Tf PP w (.returned (.bool false)) w') := Lib.hid (fun w' hb hne => ⟨false, rfl, ⟨(fun h => by cases h), fun h => absurd h hne⟩, by rw [HN.out]; exact hb⟩)
  have HYE : Hid (∀ w', Below n w w' → PP → Tf PP w (.returned (.bool true)) w') := Lib.hid (fun w' hb hp => ⟨true, rfl, ⟨fun _ => hp, fun _ => rfl⟩, by rw [HN.out]; exact hb⟩)
  clear hb B1 B2
  by_cases e1 : k1 = k2
  · by_cases e2 : N1 = N2
    · cases c1 with
      | false =>
        have HZ := Lib.hid (HNO.out W HBW.out (fun h => by rw [← hPP] at h; exact absurd h.2.2.1 (by decide)))
        clear hPP
        subst e1 e2
        go_enter Tryd.func31, Tryd.ntmps31
        go_wp2
        refine bodyPost_ret (v := .bool false) (by simp [results, Tryd.results31, go_sem]) rfl ?_
        exact HZ.out
      | true =>
        cases c2 with
        | false =>
          have HZ := Lib.hid (HNO.out W HBW.out (fun h => by rw [← hPP] at h; exact absurd h.2.2.2.1 (by decide)))
          clear hPP
          subst e1 e2
          go_enter Tryd.func31, Tryd.ntmps31
          go_wp2
          refine bodyPost_ret (v := .bool false) (by simp [results, Tryd.results31, go_sem]) rfl ?_
          exact HZ.out
        | true =>
          have HBN : Hid (¬ Pb → ¬ PP) := Lib.hid (fun h h' => by rw [← hPP] at h'; exact h h'.2.2.2.2)
          have HAL : Hid (Pb → PP) := Lib.hid (fun a => by rw [← hPP]; exact ⟨e1, e2, rfl, rfl, a⟩)
          clear hPP
          subst e1 e2
          go_enter Tryd.func31, Tryd.ntmps31
          go_wp2_with (go_at_call 43; refine Hid.out ?_)
          refine Lib.hid ?_
          refine (HB.out _ HBW.out).mono ?_
          rintro e w2 ⟨t1, rfl, ht1, hb2⟩
          have HB2 : Hid (Below n w w2) := Lib.hid (HBW.out.trans (hb2.mono (by have := HWS.out; omega)))
          clear hb2 hW hn
          cases t1 with
          | false =>
            have HZ := Lib.hid (HNO.out w2 HB2.out (HBN.out (fun h => absurd (ht1.2 h) (by simp))))
            clear ht1
            go_wp2
            refine bodyPost_ret (v := .bool false) (by simp [results, Tryd.results31, go_sem]) rfl ?_
            exact HZ.out
          | true =>
            have HZ := Lib.hid (HYE.out w2 HB2.out (HAL.out (ht1.1 rfl)))
            clear ht1
            go_wp2
            refine bodyPost_ret (v := .bool true) (by simp [results, Tryd.results31, go_sem]) rfl ?_
            exact HZ.out
    · have e2' := ba_ne e2
      have HZ := Lib.hid (HNO.out W HBW.out (fun h => by rw [← hPP] at h; exact e2 h.2.1))
      clear hPP
      subst e1
      go_enter Tryd.func31, Tryd.ntmps31
      go_wp2
      refine bodyPost_ret (v := .bool false) (by simp [results, Tryd.results31, go_sem]) rfl ?_
      exact HZ.out
  · have e1a : ¬ (k1 : Int) = (k2 : Int) := by omega
    have e1b : ((k1 : Int) == (k2 : Int)) = false := by simp; omega
    have HZ := Lib.hid (HNO.out W HBW.out (fun h => by rw [← hPP] at h; exact e1 h.1))
    clear hPP
    go_enter Tryd.func31, Tryd.ntmps31
    go_wp2
    refine bodyPost_ret (v := .bool false) (by simp [results, Tryd.results31, go_sem]) rfl ?_
    exact HZ.out
theorem ord_eqi {a b : Int} (ha : -100 ≤ a ∧ a ≤ 100) (hb : -100 ≤ b ∧ b ≤ 100) : (FloatKind.f64.format.order (fl false a) (fl false b) == some .eq) = decide (a = b) := by
  rw [eq_fl false false (by unfold Sm; omega) (by unfold Sm; omega)]
def dcw (d : Dc) (p : Option Addr) (c : Nat) (a : Int) : Value := .agg #[.int .i64 (d.so : Int), .string ⟨d.nm.toArray⟩, .complex .f64 (fl false d.re) (fl false d.im), .slice p d.body.len c, .int .i64 a]
theorem decl_same (d1 d2 : Dc) (h1 : Wdc d1) (h2 : Wdc d2) (p1 p2 : Option Addr) (c1 c2 : Nat) (a1 a2 : Int) (w : World) (v1 : StsV w (Lt w) d1.body p1 c1) (v2 : StsV w (Lt w) d2.body p2 c2) :
    Calls Tryd.prog 31 #[dcw d1 p1 c1 a1, dcw d2 p2 c2 a2] w (Tf (d1 = d2) w) := by
  refine (same31 d1.so d2.so ⟨d1.nm.toArray⟩ ⟨d2.nm.toArray⟩ _ _ _ _ _ _ (ord_eqi h1.re h2.re) (ord_eqi h1.im h2.im) p1 p2 d1.body.len d2.body.len c1 c2 a1 a2 (d1.body = d2.body) w _ rfl
    (fun w2 hb => (sts_sameC d1.body h1.body).1 d2.body p1 p2 c1 c2 w2 h2.body (v1.on (Same.below hb (fun g h => h)) (fun g h => Nat.lt_of_lt_of_le h hb.size)) (v2.on (Same.below hb (fun g h => h)) (fun g h => Nat.lt_of_lt_of_le h hb.size)))).mono ?_
  intro e w2 ht
  refine ht.iff ?_
  rw [ba_eq, decide_eq_true_iff, decide_eq_true_iff]
  constructor
  · rintro ⟨e1, e2, e3, e4, e5⟩
    cases d1; cases d2; simp only at e1 e2 e3 e4 e5; subst e1 e2 e3 e4 e5; rfl
  · rintro rfl; exact ⟨rfl, rfl, rfl, rfl, rfl⟩
set_option maxRecDepth 100000 in
set_option maxHeartbeats 3200000 in
theorem eqf30 (l m : List Dc) (hl : ∀ d ∈ l, Wdc d) (hm : ∀ d ∈ m, Wdc d) (ga gb c d : Nat) (w : World) (hc : l.length ≤ 1000) (hga : ga < w.heap.size) (hgb : gb < w.heap.size) (hp : DcsW w (Lt w) l ga) (hq : DcsW w (Lt w) m gb) :
    Calls Tryd.prog 30 #[.slice (some ⟨ga, 0, none⟩) l.length c, .slice (some ⟨gb, 0, none⟩) m.length d, .func (.func 31) #[] #[]] w (Tf (l = m) w) := by
  have hst := store_cx
  obtain ⟨n, hn⟩ : ∃ n, w.heap.size = n := ⟨_, rfl⟩
  have HN := Lib.hid hn
  obtain ⟨L, hL⟩ : ∃ L, l.length = L := ⟨_, rfl⟩
  obtain ⟨M, hM⟩ : ∃ M, m.length = M := ⟨_, rfl⟩
  have HLX := Lib.hid hL
  have HLY := Lib.hid hM
  have HP := Lib.hid hp
  have HQ := Lib.hid hq
  have HWL := Lib.hid hl
  have HWM := Lib.hid hm
  rw [hn] at hga hgb
  rw [hL] at hc
  have hL63 : L ≤ 9223372036854775807 := by omega
  rw [hL, hM]
  clear hl hm hp hq hL hM
  by_cases hlm : L = M
  · subst hlm
    go_enter Tryd.func30, Tryd.ntmps30
    go_wp2
    clear hn
    go_loopw [17] (fun i wr => ∃ j : Nat, j ≤ L ∧ i = .int .i64 (j : Int) ∧ Below n w wr ∧ ∀ k, k < j → l[k]? = m[k]?) (fun i _ => L - (intOf i).toNat)
    case atStart => exact ⟨0, Nat.zero_le _, rfl, Below.refl _ _, fun k h => by omega⟩
    case round =>
      obtain ⟨j, hj, rfl, hbw, hall⟩ := hrel
      have HALL := Lib.hid hall
      have HBW := Lib.hid hbw
      clear hall hbw
      by_cases hlt : j < L
      · obtain ⟨x, hx⟩ : ∃ x, l[j]? = some x := ⟨l[j]'(by rw [HLX.out]; exact hlt), List.getElem?_eq_getElem _⟩
        obtain ⟨y, hy⟩ : ∃ y, m[j]? = some y := ⟨m[j]'(by rw [HLY.out]; exact hlt), List.getElem?_eq_getElem _⟩
        obtain ⟨p1, c1, t1, ⟨a0, a1, a2, a3, a4⟩, v1⟩ := HP.out j x hx
        obtain ⟨p2, c2, t2, ⟨b0, b1, b2, b3, b4⟩, v2⟩ := HQ.out j y hy
        have hk : ∀ g o, g < n → wr.cell? ⟨g, o, none⟩ = w.cell? ⟨g, o, none⟩ := fun g o h => HBW.out.cell (p := ⟨g, o, none⟩) h
        have a0' := (hk ga _ hga).trans a0
        have a1' := (hk ga _ hga).trans a1
        have a2' := (hk ga _ hga).trans a2
        have a3' := (hk ga _ hga).trans a3
        have a4' := (hk ga _ hga).trans a4
        have b0' := (hk gb _ hgb).trans b0
        have b1' := (hk gb _ hgb).trans b1
        have b2' := (hk gb _ hgb).trans b2
        have b3' := (hk gb _ hgb).trans b3
        have b4' := (hk gb _ hgb).trans b4
        have hgaw : ga < wr.heap.size := by have := HBW.out.size; have := HN.out; omega
        have hgbw : gb < wr.heap.size := by have := HBW.out.size; have := HN.out; omega
        have HCL : Hid (∀ w', Below n w w' → Calls Tryd.prog 31 #[dcw x p1 c1 t1, dcw y p2 c2 t2] w' (Tf (l[j]? = m[j]?) w')) := Lib.hid (fun w' hb => by
          refine (decl_same x y (HWL.out x (List.mem_of_getElem? hx)) (HWM.out y (List.mem_of_getElem? hy)) p1 p2 c1 c2 t1 t2 w' (v1.on (Same.below hb (fun g h => by unfold Lt at h; have := HN.out; omega)) (fun g h => by unfold Lt at h ⊢; have := hb.size; omega)) (v2.on (Same.below hb (fun g h => by unfold Lt at h; have := HN.out; omega)) (fun g h => by unfold Lt at h ⊢; have := hb.size; omega))).mono ?_
          intro e w2 ht
          refine ht.iff ?_
          rw [hx, hy, Option.some.injEq])
        unfold dcw Tf at HCL
        clear hx hy hk a0 a1 a2 a3 a4 b0 b1 b2 b3 b4 v1 v2
        generalize x.body.len = nb1 at *
        generalize y.body.len = nb2 at *
        generalize fl false x.re = f1 at *
        generalize fl false x.im = f2 at *
        generalize fl false y.re = f3 at *
        generalize fl false y.im = f4 at *
        go_wp2_with (go_at_call 31; refine Hid.out ?_)
        refine Lib.hid ?_
        have hbz : ∀ o1 o2 : Obj, Below n w ((wr.alloc o1).alloc o2) := fun o1 o2 => (HBW.out.alloc (by have := HBW.out.size; have := HN.out; omega) _).alloc (by have := HBW.out.size; have := HN.out; simp; omega) _
        refine (HCL.out _ (hbz _ _)).mono ?_
        rintro e w2 ⟨t, rfl, ht, hb2⟩
        have HB2 : Hid (Below n w w2) := Lib.hid ((hbz _ _).trans (hb2.mono (by have := HBW.out.size; have := HN.out; simp; omega)))
        clear hb2 hbz a0' a1' a2' a3' a4' b0' b1' b2' b3' b4'
        cases t with
        | true =>
          have HT := Lib.hid (ht.1 rfl)
          clear ht
          go_wp2
          go_roundw
          case rel =>
            refine ⟨j + 1, by omega, by go_num, HB2.out, fun k hk => ?_⟩
            by_cases hkj : k = j
            · subst hkj; exact HT.out
            · exact HALL.out k (by omega)
          case measure => simp [intOf]; omega
        | false =>
          have HT : Hid (¬ l = m) := Lib.hid (fun h => absurd (ht.2 (by rw [h])) (by simp))
          clear ht
          go_wp2
          go_ret
          exact ⟨false, rfl, ⟨(fun h => by cases h), fun h => absurd h HT.out⟩, by rw [HN.out]; exact HB2.out⟩
      · obtain rfl : j = L := by omega
        have HF : Hid (l = m) := Lib.hid (List.ext_getElem? (fun k => by
          by_cases hk : k < j
          · exact HALL.out k hk
          · rw [List.getElem?_eq_none (by rw [HLX.out]; omega), List.getElem?_eq_none (by rw [HLY.out]; omega)]))
        go_wp2
        go_ret
        exact ⟨true, rfl, ⟨fun _ => HF.out, fun _ => by first | rfl | trivial⟩, by rw [HN.out]; exact HBW.out⟩
  · have hlm1 : ¬ (L : Int) = (M : Int) := by omega
    have hlm2 : ((L : Int) != (M : Int)) = true := by simp; omega
    go_enter Tryd.func30, Tryd.ntmps30
    go_wp2
    refine bodyPost_ret (v := .bool false) (by simp [results, Tryd.results30, go_sem]) rfl ⟨false, rfl, ⟨(fun h => by cases h), fun h => ?_⟩, Below.refl _ _⟩
    exact absurd (by rw [← HLX.out, ← HLY.out, h]) hlm
set_option maxRecDepth 100000 in
theorem same17 (l m : List Dc) (hl : ∀ d ∈ l, Wdc d) (hm : ∀ d ∈ m, Wdc d) (ga gb c d : Nat) (w : World) (hc : l.length ≤ 1000) (hga : ga < w.heap.size) (hgb : gb < w.heap.size) (hp : DcsW w (Lt w) l ga) (hq : DcsW w (Lt w) m gb) :
    Calls Tryd.prog 17 #[.agg #[.slice (some ⟨ga, 0, none⟩) l.length c], .agg #[.slice (some ⟨gb, 0, none⟩) m.length d]] w (Tf (l = m) w) := by
  obtain ⟨n, hn⟩ : ∃ n, w.heap.size = n := ⟨_, rfl⟩
  have HN := Lib.hid hn
  have HCL : Hid (∀ w', Below n w w' → Calls Tryd.prog 30 #[.slice (some ⟨ga, 0, none⟩) l.length c, .slice (some ⟨gb, 0, none⟩) m.length d, .func (.func 31) #[] #[]] w' (Tf (l = m) w')) := Lib.hid (fun w' hb => by
    have hs := hb.size
    have hsame : Same (Lt w) w w' := Same.below hb (fun g h => by unfold Lt at h; omega)
    have hsub : ∀ g, Lt w g → Lt w' g := fun g h => by unfold Lt at h ⊢; omega
    exact eqf30 l m hl hm ga gb c d w' hc (by omega) (by omega) (hp.on hsame hsub hga) (hq.on hsame hsub hgb))
  generalize l.length = L at *
  generalize m.length = M at *
  unfold Tf at HCL
  clear hl hm hc hga hgb hp hq
  go_enter Tryd.func17, Tryd.ntmps17
  go_wp2_with (go_at_call 30; refine Hid.out ?_)
  refine Lib.hid ?_
  have hbz : ∀ o1 o2 : Obj, Below n w ((w.alloc o1).alloc o2) := fun o1 o2 => ((Below.refl n w).alloc (by omega) _).alloc (by simp; omega) _
  refine (HCL.out _ (hbz _ _)).mono ?_
  rintro e w2 ⟨t, rfl, ht, hb2⟩
  have HB2 : Hid (Below n w w2) := Lib.hid ((hbz _ _).trans (hb2.mono (by simp; omega)))
  have HT := Lib.hid ht
  clear ht hb2 hbz hn
  go_wp2
  refine bodyPost_ret (v := .bool t) (by simp [results, Tryd.results17, go_sem]) rfl ⟨t, rfl, HT.out, by rw [HN.out]; exact HB2.out⟩
end Go.Proofs.YtmomdcnlhljhcaaDoor
