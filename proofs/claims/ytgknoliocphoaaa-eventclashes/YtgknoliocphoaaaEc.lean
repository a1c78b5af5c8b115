/- EventClashes: the walk. -/
import Derived.Test.YtgknoliocphoaaaEo
set_option linter.unusedSimpArgs false
set_option linter.unusedVariables false
namespace Go.Proofs.Ytgknoliocphoaaa
open Go.RowKit

theorem cls_snoc (l : List (Int × Bool)) (b : List (Int × Bool)) (x : Int × Bool) : cls (l ++ [x]) b = (cls l b || (smo b x.1 && (x.2 || wro b x.1))) := by simp [cls]
/-- What two events' boxes hold. -/
structure Two (W : World) (g : Nat) (t u : Int) (p q : Option Addr) (m n c d : Nat) : Prop where
  e0 : W.cell? ⟨g, 0, Option.none⟩ = some (.int .i64 t)
  e1 : W.cell? ⟨g, 1, Option.none⟩ = some (.slice p m c)
  f0 : W.cell? ⟨g + 1, 0, Option.none⟩ = some (.int .i64 u)
  f1 : W.cell? ⟨g + 1, 1, Option.none⟩ = some (.slice q n d)
theorem Two.kept {W W' : World} {g : Nat} {t u : Int} {p q : Option Addr} {m n c d : Nat} (h : Two W g t u p q m n c d) (hg : g + 1 < W.heap.size) (k : Below W.heap.size W W') : Two W' g t u p q m n c d :=
  ⟨(k.cell (p := ⟨g, 0, Option.none⟩) (by show g < _; omega)).trans h.e0, (k.cell (p := ⟨g, 1, Option.none⟩) (by show g < _; omega)).trans h.e1, (k.cell (p := ⟨g + 1, 0, Option.none⟩) hg).trans h.f0, (k.cell (p := ⟨g + 1, 1, Option.none⟩) hg).trans h.f1⟩
theorem two_new (X : World) (t u : Int) (p q : Option Addr) (m n c d : Nat) : Two ((X.alloc (Obj.cells #[Value.int .i64 t, .slice p m c] 26)).alloc (Obj.cells #[Value.int .i64 u, .slice q n d] 26)) X.heap.size t u p q m n c d := by
  have h0 : ((X.alloc (Obj.cells #[Value.int .i64 t, .slice p m c] 26)).alloc (Obj.cells #[Value.int .i64 u, .slice q n d] 26)).heap[X.heap.size]? = some (.cells #[Value.int .i64 t, .slice p m c] 26 (0, 0)) := by
    rw [heap_alloc_old _ _ (by simp)]; exact heap_alloc_new _ _
  have h1 := heap_alloc_new (X.alloc (Obj.cells #[Value.int .i64 t, .slice p m c] 26)) (Obj.cells #[Value.int .i64 u, .slice q n d] 26)
  rw [show (X.alloc (Obj.cells #[Value.int .i64 t, .slice p m c] 26)).heap.size = X.heap.size + 1 by simp] at h1
  exact ⟨by rw [cell_of_row _ _ _ _ _ _ h0]; rfl, by rw [cell_of_row _ _ _ _ _ _ h0]; rfl, by rw [cell_of_row _ _ _ _ _ _ h1]; rfl, by rw [cell_of_row _ _ _ _ _ _ h1]; rfl⟩

set_option maxRecDepth 100000 in
set_option maxHeartbeats 8000000 in
theorem clashes_small (a b : List (Int × Bool)) (pa pb : Option Addr) (A B ca cb : Nat) (t u : Nat) (ht : t < 256) (hu : u < 256) (w : World) (hA : a.length = A) (hB : b.length = B) (ha : TcS w (.slice pa A ca) a) (hb : TcS w (.slice pb B cb) b) (sa : sml a) (sb : sml b) (lA : A ≤ 40) (lB : B ≤ 40) :
    Calls Try.prog 4 #[.slice pa A ca, .slice pb B cb, .int .u8 (t : Int), .int .u8 (u : Int)] w fun e w' => e = .returned (.bool true) ∧ Below w.heap.size w w' := by
  have HA := Lib.hid ha
  have HB := Lib.hid hb
  have SA := Lib.hid sa
  have SB := Lib.hid sb
  have LA := Lib.hid hA
  have LB := Lib.hid hB
  have i1 : ¬ (40 : Int) < (A : Int) := by omega
  have i2 : ¬ (40 : Int) < (B : Int) := by omega
  have wt : IntKind.i64.wrap (t : Int) = (t : Int) := by rw [IntKind.wrap_i64]; omega
  have wu : IntKind.i64.wrap (u : Int) = (u : Int) := by rw [IntKind.wrap_i64]; omega
  clear ha hb sa sb hA hB
  go_enter Try.func4, Try.ntmps4
  go_wp2_with (go_at_call 8; refine Hid.out ?_)
  refine Lib.hid ?_
  refine (awake_any _).mono ?_
  rintro e w1 ⟨rfl, hb⟩
  have B1 := Lib.hid hb
  clear hb
  go_wp2
  go_loopw [9, 28] (fun s9 s28 wr => ∃ (j : Nat) (c : Bool), s9 = .bool c ∧ s28 = .int .i64 (j : Int) ∧ j ≤ A ∧ c = cls (a.take j) b ∧ Below w.heap.size w wr) (fun _ s _ => A - (intOf s).toNat)
  case atStart => exact ⟨0, false, rfl, rfl, by omega, by simp [cls], B1.out⟩
  case round =>
    obtain ⟨j, c, rfl, rfl, hj, hc, hb⟩ := hrel
    have HC := Lib.hid hc
    have HW := Lib.hid hb
    clear hc hb
    by_cases hlt : j < A
    · obtain ⟨x, hx⟩ : ∃ x, a[j]? = some x := ⟨_, List.getElem?_eq_getElem (by rw [LA.out]; exact hlt)⟩
      obtain ⟨g, o, rfl, hbb, hcc⟩ := HA.out.one hx
      obtain ⟨c0, c1⟩ := hcc wr HW.out
      have HW2 : Hid (Below w.heap.size w (wr.alloc (Obj.cells #[Value.int IntKind.i8 x.1, Value.bool x.2] 37))) := Lib.hid (HW.out.alloc HW.out.size _)
      have HT := Lib.hid (touches_any b x.1 _ (wr.alloc (Obj.cells #[Value.int IntKind.i8 x.1, Value.bool x.2] 37)) (HB.out.kept HW2.out) (by rw [LB.out]; omega))
      have HN : Hid (cls (a.take (j + 1)) b = (c || (smo b x.1 && (x.2 || wro b x.1)))) := Lib.hid (by rw [take_snoc hx, cls_snoc, HC.out])
      have hg := heap_alloc_new wr (Obj.cells #[Value.int IntKind.i8 x.1, Value.bool x.2] 37)
      have HG := Lib.hid hg
      clear hx hcc hg
      go_wp2_with (go_at_call 11; refine Hid.out ?_)
      refine Lib.hid ?_
      refine HT.out.mono ?_
      rintro e w4 ⟨rfl, hb4⟩
      have HW4 : Hid (Below w.heap.size w w4) := Lib.hid (HW2.out.trans (hb4.mono HW2.out.size))
      have d1 : w4.cell? ⟨wr.heap.size, 1, Option.none⟩ = some (.bool x.2) := by
        rw [hb4.cell (p := ⟨wr.heap.size, 1, Option.none⟩) (by simp), cell_of_row _ _ _ _ _ _ HG.out]; rfl
      clear hb4 HT c0 c1 HG HW2
      generalize smo b x.1 = s at *
      generalize wro b x.1 = r at *
      generalize x.2 = y at *
      generalize x.1 = z at *
      have HCN : Hid ((c || (s && (y || r))) = cls (a.take (j + 1)) b) := Lib.hid HN.out.symm
      clear HN HC
      cases c <;> cases s <;> cases y <;> cases r <;>
        (go_wp2
         go_roundw
         case rel => exact ⟨j + 1, _, rfl, by go_num, by omega, HCN.out, HW4.out⟩
         case measure => simp [intOf]; omega)
    · have hcl : c = clh a b := by rw [HC.out, List.take_of_length_le (by rw [LA.out]; omega), cls_is]
      have HCL := Lib.hid hcl
      clear hcl HC
      have h1 := Lib.hid (marks_any a _ wr (HA.out.kept HW.out) (by rw [LA.out]; omega) SA.out)
      go_wp2_with (go_at_call 10; refine Hid.out ?_)
      refine Lib.hid ?_
      refine h1.out.mono ?_
      rintro e w2 ⟨v2, rfl, hm2, hb2⟩
      have W2 : Hid (Below w.heap.size w w2) := Lib.hid (HW.out.trans (hb2.mono HW.out.size))
      have h2 := Lib.hid (new_any t a v2 w2 hm2 (by rw [LA.out]; omega))
      clear hm2 hb2 h1
      go_wp2_with (go_at_call 9; refine Hid.out ?_)
      refine Lib.hid ?_
      refine h2.out.mono ?_
      rintro e w3 ⟨v3, rfl, hm3, hb3⟩
      have W3 : Hid (Below w.heap.size w w3) := Lib.hid (W2.out.trans (hb3.mono W2.out.size))
      have M3 := Lib.hid hm3
      have h3 := Lib.hid (marks_any b _ w3 (HB.out.kept W3.out) (by rw [LB.out]; omega) SB.out)
      clear hm3 hb3 h2
      go_wp2_with (go_at_call 10; refine Hid.out ?_)
      refine Lib.hid ?_
      refine h3.out.mono ?_
      rintro e w4 ⟨v4, rfl, hm4, hb4⟩
      have W4 : Hid (Below w.heap.size w w4) := Lib.hid (W3.out.trans (hb4.mono W3.out.size))
      have M4 := Lib.hid (M3.out.kept hb4)
      have h4 := Lib.hid (new_any u b v4 w4 hm4 (by rw [LB.out]; omega))
      clear hm4 hb4 h3 M3
      go_wp2_with (go_at_call 9; refine Hid.out ?_)
      refine Lib.hid ?_
      refine h4.out.mono ?_
      rintro e w5 ⟨v5, rfl, hm5, hb5⟩
      have W5 : Hid (Below w.heap.size w w5) := Lib.hid (W4.out.trans (hb5.mono W4.out.size))
      have me := M4.out.kept hb5
      have ME5 := Lib.hid me
      have MF5 := Lib.hid hm5
      clear hb5 h4 M4
      obtain ⟨pe, ce, ee, _⟩ := me
      obtain ⟨pf, cf, ef, _⟩ := hm5
      obtain ⟨Ne, hNe⟩ : ∃ B, (nrm a).length = B := ⟨_, rfl⟩
      obtain ⟨Nf, hNf⟩ : ∃ B, (nrm b).length = B := ⟨_, rfl⟩
      rw [hNe] at ee
      rw [hNf] at ef
      subst ee; subst ef
      obtain ⟨X, hX⟩ : ∃ X, (w5.alloc (Obj.cells #[Value.int .i64 (t : Int), .slice pe Ne ce] 26)).alloc (Obj.cells #[Value.int .i64 (u : Int), .slice pf Nf cf] 26) = X := ⟨_, rfl⟩
      have hTwo : Two X w5.heap.size t u pe pf Ne Nf ce cf := by rw [← hX]; exact two_new w5 _ _ _ _ _ _ _ _
      have hsz : X.heap.size = w5.heap.size + 1 + 1 := by rw [← hX]; simp
      have hb5X : Below w5.heap.size w5 X := by rw [← hX]; exact (below_alloc w5 _).alloc (by simp) _
      have ME : Hid (MkS X (.slice pe Ne ce) (nrm a)) := Lib.hid (ME5.out.kept hb5X)
      have MF : Hid (MkS X (.slice pf Nf cf) (nrm b)) := Lib.hid (MF5.out.kept hb5X)
      have WX : Hid (Below w.heap.size w X) := Lib.hid (W5.out.trans (hb5X.mono W5.out.size))
      have HTWO := Lib.hid hTwo
      have HSZ := Lib.hid hsz
      have HX := Lib.hid hX
      have la : (nrm a).length ≤ 1000 := by have := nrm_len a; rw [LA.out] at this; omega
      have lb : (nrm b).length ≤ 1000 := by have := nrm_len b; rw [LB.out] at this; omega
      have LNA := Lib.hid la
      have LNB := Lib.hid lb
      clear hTwo hsz hb5X hX hNe hNf la lb
      have h5 := Lib.hid (marks_any a _ X (HA.out.kept WX.out) (by rw [LA.out]; omega) SA.out)
      go_wp2_with (go_at_call 10; refine Hid.out ?_)
      refine Lib.hid ?_
      rw [HX.out]
      refine h5.out.mono ?_
      rintro e w6 ⟨v6, rfl, hm6, hb6⟩
      have X6 : Hid (Below X.heap.size X w6) := Lib.hid hb6
      have M6 := Lib.hid hm6
      have h6 := Lib.hid (marks_any b _ w6 (HB.out.kept (WX.out.trans (X6.out.mono WX.out.size))) (by rw [LB.out]; omega) SB.out)
      clear hm6 hb6 h5
      go_wp2_with (go_at_call 10; refine Hid.out ?_)
      refine Lib.hid ?_
      refine h6.out.mono ?_
      rintro e w7 ⟨v7, rfl, hm7, hb7⟩
      have X7 : Hid (Below X.heap.size X w7) := Lib.hid (X6.out.trans (hb7.mono X6.out.size))
      have h7 := Lib.hid (clash_any a b v6 v7 w7 (M6.out.kept hb7) hm7 (by rw [LA.out]; omega) (by rw [LB.out]; omega))
      clear hm7 hb7 h6 M6
      go_wp2_with (go_at_call 13; refine Hid.out ?_)
      refine Lib.hid ?_
      refine h7.out.mono ?_
      rintro e w8 ⟨rfl, hb8⟩
      rw [← HCL.out]
      have X8 : Hid (Below X.heap.size X w8) := Lib.hid (X7.out.trans (hb8.mono X7.out.size))
      have hs2 : w5.heap.size + 1 < X.heap.size := by rw [HSZ.out]; omega
      have T8 := HTWO.out.kept hs2 X8.out
      have y0 := T8.e0
      have y1 := T8.e1
      have y2 := T8.f0
      have y3 := T8.f1
      have HS2 := Lib.hid hs2
      have h8 := Lib.hid (clash_any (nrm a) (nrm b) _ _ w8 (ME.out.kept X8.out) (MF.out.kept X8.out) LNA.out LNB.out)
      clear hb8 h7 hs2 T8
      have HD : Hid (∀ W, Below X.heap.size X W → Calls Try.prog 14 #[.agg #[.int .i64 (t : Int), .slice pe Ne ce], .agg #[.int .i64 (u : Int), .slice pf Nf cf]] W fun e w' => e = .returned (.bool (decide ((t : Int) = u) || c)) ∧ Below W.heap.size W w') := Lib.hid fun W k => by
        have := depend_any t u (nrm a) (nrm b) _ _ W (ME.out.kept k) (MF.out.kept k) LNA.out LNB.out
        rwa [clh_nrm, ← HCL.out] at this
      have HD' : Hid (∀ W, Below X.heap.size X W → Calls Try.prog 14 #[.agg #[.int .i64 (u : Int), .slice pf Nf cf], .agg #[.int .i64 (t : Int), .slice pe Ne ce]] W fun e w' => e = .returned (.bool (decide ((t : Int) = u) || c)) ∧ Below W.heap.size W w') := Lib.hid fun W k => by
        have := depend_any u t (nrm b) (nrm a) _ _ W (MF.out.kept k) (ME.out.kept k) LNB.out LNA.out
        rwa [clh_nrm, clh_comm, ← HCL.out, show decide ((u : Int) = t) = decide ((t : Int) = u) by simp [eq_comm]] at this
      have hcc : (c == c) = true := by simp
      go_wp2_with (go_at_call 13; refine Hid.out ?_)
      refine Lib.hid ?_
      refine h8.out.mono ?_
      rintro e w9 ⟨rfl, hb9⟩
      rw [clh_nrm, ← HCL.out]
      have X9 : Hid (Below X.heap.size X w9) := Lib.hid (X8.out.trans (hb9.mono X8.out.size))
      have T9 := HTWO.out.kept HS2.out X9.out
      have z0 := T9.e0
      have z1 := T9.e1
      have z2 := T9.f0
      have z3 := T9.f1
      clear hb9 h8 T9 y0 y1 y2 y3
      go_wp2_with (go_at_call 14; refine Hid.out ?_)
      refine Lib.hid ?_
      refine (HD.out w9 X9.out).mono ?_
      rintro e w10 ⟨rfl, hb10⟩
      have X10 : Hid (Below X.heap.size X w10) := Lib.hid (X9.out.trans (hb10.mono X9.out.size))
      have T10 := HTWO.out.kept HS2.out X10.out
      have q0 := T10.e0
      have q1 := T10.e1
      have q2 := T10.f0
      have q3 := T10.f1
      clear hb10 T10 z0 z1 z2 z3 hcc
      have HD2 := Lib.hid (HD'.out w10 X10.out)
      clear HCL HD HD'
      cases c with
      | true =>
        rw [show (decide ((t : Int) = (u : Int)) || true) = true by simp] at HD2 ⊢
        go_wp2_with (go_at_call 14; refine Hid.out ?_)
        refine Lib.hid ?_
        refine HD2.out.mono ?_
        rintro e w11 ⟨rfl, hb11⟩
        have B11 : Hid (Below w.heap.size w w11) := Lib.hid (WX.out.trans ((X10.out.mono WX.out.size).trans (hb11.mono (by have := WX.out.size; have := X10.out.size; omega))))
        clear hb11 HD2
        go_wp2
        go_ret
        exact ⟨rfl, B11.out⟩
      | false =>
        by_cases htu : t = u
        · subst htu
          rw [show (decide ((t : Int) = (t : Int)) || false) = true by simp] at HD2 ⊢
          go_wp2_with (go_at_call 14; refine Hid.out ?_)
          refine Lib.hid ?_
          refine HD2.out.mono ?_
          rintro e w11 ⟨rfl, hb11⟩
          have B11 : Hid (Below w.heap.size w w11) := Lib.hid (WX.out.trans ((X10.out.mono WX.out.size).trans (hb11.mono (by have := WX.out.size; have := X10.out.size; omega))))
          clear hb11 HD2
          go_wp2
          go_ret
          exact ⟨rfl, B11.out⟩
        · have hne : ¬ (t : Int) = (u : Int) := by omega
          have hne2 : ((t : Int) == (u : Int)) = false := by simp; omega
          rw [show (decide ((t : Int) = (u : Int)) || false) = false by simp; omega] at HD2 ⊢
          go_wp2_with (go_at_call 14; refine Hid.out ?_)
          refine Lib.hid ?_
          refine HD2.out.mono ?_
          rintro e w11 ⟨rfl, hb11⟩
          have B11 : Hid (Below w.heap.size w w11) := Lib.hid (WX.out.trans ((X10.out.mono WX.out.size).trans (hb11.mono (by have := WX.out.size; have := X10.out.size; omega))))
          clear hb11 HD2
          go_wp2
          go_ret
          exact ⟨rfl, B11.out⟩

set_option maxRecDepth 100000 in
set_option maxHeartbeats 2000000 in
theorem clashes_any (a b : List (Int × Bool)) (va vb : Value) (t u : Nat) (ht : t < 256) (hu : u < 256) (w : World) (ha : TcS w va a) (hb : TcS w vb b) (sa : sml a) (sb : sml b) :
    Calls Try.prog 4 #[va, vb, .int .u8 (t : Int), .int .u8 (u : Int)] w fun e w' => e = .returned (.bool true) ∧ Below w.heap.size w w' := by
  obtain ⟨pa, ca, rfl, _⟩ := ha.form
  obtain ⟨pb, cb, rfl, _⟩ := hb.form
  by_cases lA : 40 < a.length
  · have i1 : (40 : Int) < (a.length : Int) := by omega
    clear ha hb
    go_enter Try.func4, Try.ntmps4
    go_wp2_with (go_at_call 8; refine Hid.out ?_)
    refine Lib.hid ?_
    refine (awake_any _).mono ?_
    rintro e w1 ⟨rfl, hb⟩
    have B1 := Lib.hid hb
    clear hb
    go_wp2
    go_ret
    exact ⟨rfl, B1.out⟩
  · by_cases lB : 40 < b.length
    · have i1 : ¬ (40 : Int) < (a.length : Int) := by omega
      have i2 : (40 : Int) < (b.length : Int) := by omega
      clear ha hb
      go_enter Try.func4, Try.ntmps4
      go_wp2_with (go_at_call 8; refine Hid.out ?_)
      refine Lib.hid ?_
      refine (awake_any _).mono ?_
      rintro e w1 ⟨rfl, hb⟩
      have B1 := Lib.hid hb
      clear hb
      go_wp2
      go_ret
      exact ⟨rfl, B1.out⟩
    · exact clashes_small a b pa pb _ _ ca cb t u ht hu w rfl rfl ha hb sa sb (by omega) (by omega)
end Go.Proofs.Ytgknoliocphoaaa
