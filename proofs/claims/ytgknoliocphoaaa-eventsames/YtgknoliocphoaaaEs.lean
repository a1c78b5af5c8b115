/- EventSames: the walk. -/
import Derived.Test.YtgknoliocphoaaaEr
import Derived.Deep.RegionHeld3
set_option linter.unusedSimpArgs false
set_option linter.unusedVariables false
namespace Go.Proofs.Ytgknoliocphoaaa
open Go.RowKit

set_option maxRecDepth 100000 in
set_option maxHeartbeats 8000000 in
theorem sames_small (a b : List (Int × Bool)) (pa pb : Option Addr) (A B ca cb : Nat) (t u : Nat) (ht : t < 256) (hu : u < 256) (w : World) (hA : a.length = A) (hB : b.length = B) (ha : TcS w (.slice pa A ca) a) (hb : TcS w (.slice pb B cb) b) (sa : sml a) (sb : sml b) (lA : A ≤ 40) (lB : B ≤ 40) :
    Calls Try.prog 5 #[.slice pa A ca, .slice pb B cb, .int .u8 (t : Int), .int .u8 (u : Int)] w fun e w' => e = .returned (.bool true) ∧ Below w.heap.size w w' := by
  have HA := Lib.hid ha
  have HB := Lib.hid hb
  have SA := Lib.hid sa
  have SB := Lib.hid sb
  have LA := Lib.hid hA
  have LB := Lib.hid hB
  have i1 : ¬ (40 : Int) < (A : Int) := by omega
  have i2 : ¬ (40 : Int) < (B : Int) := by omega
  have wt : IntKind.i64.wrap (t : Int) = (t : Int) := by rw [IntKind.wrap_i64]; omega
  have wu : IntKind.i64.wrap (u : Int) = (u : Int) := by rw [IntKind.wrap_i64]; omega
  clear ha hb sa sb hA hB
  go_enter Try.func5, Try.ntmps5
  go_wp2_with (go_at_call 8; refine Hid.out ?_)
  refine Lib.hid ?_
  refine (awake_any _).mono ?_
  rintro e wr ⟨rfl, hb⟩
  have HW := Lib.hid hb
  clear hb
  have h1 := Lib.hid (marks_any a _ wr (HA.out.kept HW.out) (by rw [LA.out]; omega) SA.out)
  go_wp2_with (go_at_call 10; refine Hid.out ?_)
  refine Lib.hid ?_
  refine h1.out.mono ?_
  rintro e w2 ⟨v2, rfl, hm2, hb2⟩
  have W2 : Hid (Below w.heap.size w w2) := Lib.hid (HW.out.trans (hb2.mono HW.out.size))
  have h2 := Lib.hid (new_any t a v2 w2 hm2 (by rw [LA.out]; omega))
  clear hm2 hb2 h1
  go_wp2_with (go_at_call 9; refine Hid.out ?_)
  refine Lib.hid ?_
  refine h2.out.mono ?_
  rintro e w3 ⟨v3, rfl, hm3, hb3⟩
  have W3 : Hid (Below w.heap.size w w3) := Lib.hid (W2.out.trans (hb3.mono W2.out.size))
  have M3 := Lib.hid hm3
  have h3 := Lib.hid (marks_any b _ w3 (HB.out.kept W3.out) (by rw [LB.out]; omega) SB.out)
  clear hm3 hb3 h2
  go_wp2_with (go_at_call 10; refine Hid.out ?_)
  refine Lib.hid ?_
  refine h3.out.mono ?_
  rintro e w4 ⟨v4, rfl, hm4, hb4⟩
  have W4 : Hid (Below w.heap.size w w4) := Lib.hid (W3.out.trans (hb4.mono W3.out.size))
  have M4 := Lib.hid (M3.out.kept hb4)
  have h4 := Lib.hid (new_any u b v4 w4 hm4 (by rw [LB.out]; omega))
  clear hm4 hb4 h3 M3
  go_wp2_with (go_at_call 9; refine Hid.out ?_)
  refine Lib.hid ?_
  refine h4.out.mono ?_
  rintro e w5 ⟨v5, rfl, hm5, hb5⟩
  have W5 : Hid (Below w.heap.size w w5) := Lib.hid (W4.out.trans (hb5.mono W4.out.size))
  have me := M4.out.kept hb5
  have ME5 := Lib.hid me
  have MF5 := Lib.hid hm5
  clear hb5 h4 M4
  obtain ⟨pe, ce, ee, _⟩ := me
  obtain ⟨pf, cf, ef, _⟩ := hm5
  obtain ⟨Ne, hNe⟩ : ∃ B, (nrm a).length = B := ⟨_, rfl⟩
  obtain ⟨Nf, hNf⟩ : ∃ B, (nrm b).length = B := ⟨_, rfl⟩
  rw [hNe] at ee
  rw [hNf] at ef
  subst ee; subst ef
  obtain ⟨X, hX⟩ : ∃ X, (w5.alloc (Obj.cells #[Value.int .i64 (t : Int), .slice pe Ne ce] 26)).alloc (Obj.cells #[Value.int .i64 (u : Int), .slice pf Nf cf] 26) = X := ⟨_, rfl⟩
  have hTwo : Two X w5.heap.size t u pe pf Ne Nf ce cf := by rw [← hX]; exact two_new w5 _ _ _ _ _ _ _ _
  have hsz : X.heap.size = w5.heap.size + 1 + 1 := by rw [← hX]; simp
  have hb5X : Below w5.heap.size w5 X := by rw [← hX]; exact (below_alloc w5 _).alloc (by simp) _
  have ME : Hid (MkS X (.slice pe Ne ce) (nrm a)) := Lib.hid (ME5.out.kept hb5X)
  have MF : Hid (MkS X (.slice pf Nf cf) (nrm b)) := Lib.hid (MF5.out.kept hb5X)
  have WX : Hid (Below w.heap.size w X) := Lib.hid (W5.out.trans (hb5X.mono W5.out.size))
  have HTWO := Lib.hid hTwo
  have HS2 : Hid (w5.heap.size + 1 < X.heap.size) := Lib.hid (by rw [hsz]; omega)
  have HX := Lib.hid hX
  have LNA : Hid ((nrm a).length ≤ 1000) := Lib.hid (by have := nrm_len a; rw [LA.out] at this; omega)
  have LNB : Hid ((nrm b).length ≤ 1000) := Lib.hid (by have := nrm_len b; rw [LB.out] at this; omega)
  clear hTwo hsz hb5X hX hNe hNf ME5 MF5
  go_wp2
  rw [HX.out]
  obtain ⟨E, hE⟩ : ∃ E, ((t : Int) == (u : Int)) = E := ⟨_, rfl⟩
  rw [hE]
  have HE := Lib.hid hE
  clear hE HX W2 W3 W4 W5
  go_loopw [11, 12] (fun s11 s12 wr => ∃ (n : Nat) (m : Int) (c : Bool), s11 = .bool c ∧ s12 = .int .i64 m ∧ m = (n : Int) - 128 ∧ n ≤ 256 ∧ c = (E && alk a b n) ∧ Below X.heap.size X wr) (fun _ s _ => (128 - intOf s).toNat)
  case atStart => exact ⟨0, -128, E, rfl, rfl, by omega, by omega, by simp [alk], Below.refl _ _⟩
  case round =>
    obtain ⟨n, m, c, rfl, rfl, hm, hn, hc, hb⟩ := hrel
    have HXW := Lib.hid hb
    have HM := Lib.hid hm
    have HC := Lib.hid hc
    clear hb hm hc
    by_cases hlt : m < 128
    · have hmn := HM.out
      have hwm : IntKind.i8.wrap m = m := wr_i8 (by omega) hlt
      have hwl : IntKind.i64.wrap (m + 1) = m + 1 := by rw [IntKind.wrap_i64]; omega
      have WW : Hid (Below w.heap.size w wr) := Lib.hid (WX.out.trans (HXW.out.mono WX.out.size))
      have HT := Lib.hid (touches_any a m _ wr (HA.out.kept WW.out) (by rw [LA.out]; omega))
      clear hmn
      go_wp2_with (go_at_call 11; refine Hid.out ?_)
      refine Lib.hid ?_
      refine HT.out.mono ?_
      rintro e w6 ⟨rfl, hb6⟩
      have X6 : Hid (Below X.heap.size X w6) := Lib.hid (HXW.out.trans (hb6.mono HXW.out.size))
      have HT2 := Lib.hid (touches_any b m _ w6 (HB.out.kept (WX.out.trans (X6.out.mono WX.out.size))) (by rw [LB.out]; omega))
      clear hb6 HT WW
      go_wp2_with (go_at_call 11; refine Hid.out ?_)
      refine Lib.hid ?_
      refine HT2.out.mono ?_
      rintro e w7 ⟨rfl, hb7⟩
      have X7 : Hid (Below X.heap.size X w7) := Lib.hid (X6.out.trans (hb7.mono X6.out.size))
      have hstep : ((c && (smo a m == smo b m)) && (wro a m == wro b m)) = (E && alk a b (n + 1)) := by
        rw [HC.out, alk, ← HM.out]
        simp only [Bool.and_assoc]
      clear hb7 HT2 hwm
      generalize smo a m = s at *
      generalize smo b m = s' at *
      generalize wro a m = r at *
      generalize wro b m = r' at *
      have HST := Lib.hid hstep
      clear hstep HC
      have hrel : ∃ n' : Nat, m + 1 = (n' : Int) - 128 ∧ n' ≤ 256 ∧ ((c && (s == s')) && (r == r')) = (E && alk a b n') := ⟨n + 1, by have := HM.out; omega, by have := HM.out; omega, HST.out⟩
      have HREL := Lib.hid hrel
      clear hrel HST
      cases c <;> cases s <;> cases s' <;> cases r <;> cases r' <;>
        (go_wp2
         go_roundw
         case rel =>
           obtain ⟨n', h1, h2, h3⟩ := HREL.out
           exact ⟨n', _, _, rfl, rfl, h1, h2, h3, X7.out⟩
         case measure => simp [intOf]; omega)
    · have hn256 : n = 256 := by have := HM.out; omega
      subst hn256
      have hcc : c = (decide ((t : Int) = (u : Int)) && decide (nrm a = nrm b)) := by
        rw [HC.out, alk_is SA.out SB.out, ← HE.out]; rfl
      have HCC := Lib.hid hcc
      have hec : (c == c) = true := by simp
      have mk : ∀ W, Below X.heap.size X W → (Below X.heap.size X W ∧ W.cell? ⟨w5.heap.size, 0, Option.none⟩ = some (.int .i64 (t : Int)) ∧ W.cell? ⟨w5.heap.size, 1, Option.none⟩ = some (.slice pe Ne ce) ∧ W.cell? ⟨w5.heap.size + 1, 0, Option.none⟩ = some (.int .i64 (u : Int)) ∧ W.cell? ⟨w5.heap.size + 1, 1, Option.none⟩ = some (.slice pf Nf cf)) := fun W k => by
        have T := HTWO.out.kept HS2.out k
        exact ⟨k, T.e0, T.e1, T.f0, T.f1⟩
      have K1 : Hid (∀ W, (Below X.heap.size X W ∧ W.cell? ⟨w5.heap.size, 0, Option.none⟩ = some (.int .i64 (t : Int)) ∧ W.cell? ⟨w5.heap.size, 1, Option.none⟩ = some (.slice pe Ne ce) ∧ W.cell? ⟨w5.heap.size + 1, 0, Option.none⟩ = some (.int .i64 (u : Int)) ∧ W.cell? ⟨w5.heap.size + 1, 1, Option.none⟩ = some (.slice pf Nf cf)) → Calls Try.prog 15 #[.agg #[.int .i64 (t : Int), .slice pe Ne ce], .agg #[.int .i64 (u : Int), .slice pf Nf cf]] W fun e w' => e = .returned (.bool c) ∧ (Below X.heap.size X w' ∧ w'.cell? ⟨w5.heap.size, 0, Option.none⟩ = some (.int .i64 (t : Int)) ∧ w'.cell? ⟨w5.heap.size, 1, Option.none⟩ = some (.slice pe Ne ce) ∧ w'.cell? ⟨w5.heap.size + 1, 0, Option.none⟩ = some (.int .i64 (u : Int)) ∧ w'.cell? ⟨w5.heap.size + 1, 1, Option.none⟩ = some (.slice pf Nf cf))) := Lib.hid fun W k =>
        (same_ev t u (nrm a) (nrm b) _ _ W (ME.out.kept k.1) (MF.out.kept k.1) LNA.out LNB.out).mono fun e w' h => ⟨by rw [h.1, HCC.out], mk w' (k.1.trans (h.2.mono k.1.size))⟩
      have K2 : Hid (∀ W, (Below X.heap.size X W ∧ W.cell? ⟨w5.heap.size, 0, Option.none⟩ = some (.int .i64 (t : Int)) ∧ W.cell? ⟨w5.heap.size, 1, Option.none⟩ = some (.slice pe Ne ce) ∧ W.cell? ⟨w5.heap.size + 1, 0, Option.none⟩ = some (.int .i64 (u : Int)) ∧ W.cell? ⟨w5.heap.size + 1, 1, Option.none⟩ = some (.slice pf Nf cf)) → Calls Try.prog 16 #[.slice pa A ca] W fun e w' => ∃ v', e = .returned v' ∧ (Below X.heap.size X w' ∧ w'.cell? ⟨w5.heap.size, 0, Option.none⟩ = some (.int .i64 (t : Int)) ∧ w'.cell? ⟨w5.heap.size, 1, Option.none⟩ = some (.slice pe Ne ce) ∧ w'.cell? ⟨w5.heap.size + 1, 0, Option.none⟩ = some (.int .i64 (u : Int)) ∧ w'.cell? ⟨w5.heap.size + 1, 1, Option.none⟩ = some (.slice pf Nf cf)) ∧
          ∃ v6 w6, (∀ ty, (Builtin.append_ #[22, 22] ty #[v', .slice pa A ca]).run Try.prog w' = .ok v6 w6) ∧ TcS w6 v6 (a ++ a) ∧ (Below X.heap.size X w6 ∧ w6.cell? ⟨w5.heap.size, 0, Option.none⟩ = some (.int .i64 (t : Int)) ∧ w6.cell? ⟨w5.heap.size, 1, Option.none⟩ = some (.slice pe Ne ce) ∧ w6.cell? ⟨w5.heap.size + 1, 0, Option.none⟩ = some (.int .i64 (u : Int)) ∧ w6.cell? ⟨w5.heap.size + 1, 1, Option.none⟩ = some (.slice pf Nf cf))) := Lib.hid fun W k => by
        refine (clone_tc a _ W (HA.out.kept (WX.out.trans (k.1.mono WX.out.size))) (by rw [LA.out]; omega)).mono ?_
        rintro e w' ⟨v', rfl, ho, hb⟩
        have hb' : Below X.heap.size X w' := k.1.trans (hb.mono k.1.size)
        obtain ⟨v6, w6, hr, ho6, hg6⟩ := app_tc w' W.heap.size v' _ a a ho (by rw [LA.out]; omega) (by rw [LA.out]; omega) hb.size (HA.out.kept (WX.out.trans (hb'.mono WX.out.size)))
        exact ⟨v', rfl, mk w' hb', v6, w6, hr, tcs_of_own ho6, mk w6 (hb'.grown hg6 hb'.size (fun q hq => Nat.le_trans k.1.size (ho.lt q hq).1))⟩
      have hll : (a ++ a).length ≤ 1000 := by rw [List.length_append, LA.out]; omega
      have hsl : sml (a ++ a) := fun x hx => by rcases List.mem_append.1 hx with h | h <;> exact SA.out x h
      have K3 : Hid (∀ W v, (Below X.heap.size X W ∧ W.cell? ⟨w5.heap.size, 0, Option.none⟩ = some (.int .i64 (t : Int)) ∧ W.cell? ⟨w5.heap.size, 1, Option.none⟩ = some (.slice pe Ne ce) ∧ W.cell? ⟨w5.heap.size + 1, 0, Option.none⟩ = some (.int .i64 (u : Int)) ∧ W.cell? ⟨w5.heap.size + 1, 1, Option.none⟩ = some (.slice pf Nf cf)) → TcS W v (a ++ a) → Calls Try.prog 10 #[v] W fun e w' => ∃ v', e = .returned v' ∧ MkS w' v' (a ++ a) ∧ (Below X.heap.size X w' ∧ w'.cell? ⟨w5.heap.size, 0, Option.none⟩ = some (.int .i64 (t : Int)) ∧ w'.cell? ⟨w5.heap.size, 1, Option.none⟩ = some (.slice pe Ne ce) ∧ w'.cell? ⟨w5.heap.size + 1, 0, Option.none⟩ = some (.int .i64 (u : Int)) ∧ w'.cell? ⟨w5.heap.size + 1, 1, Option.none⟩ = some (.slice pf Nf cf))) := Lib.hid fun W v k ht =>
        (marks_any (a ++ a) v W ht hll hsl).mono fun e w' ⟨v', h1, h2, h3⟩ => ⟨v', h1, h2, mk w' (k.1.trans (h3.mono k.1.size))⟩
      have K4 : Hid (∀ W v, (Below X.heap.size X W ∧ W.cell? ⟨w5.heap.size, 0, Option.none⟩ = some (.int .i64 (t : Int)) ∧ W.cell? ⟨w5.heap.size, 1, Option.none⟩ = some (.slice pe Ne ce) ∧ W.cell? ⟨w5.heap.size + 1, 0, Option.none⟩ = some (.int .i64 (u : Int)) ∧ W.cell? ⟨w5.heap.size + 1, 1, Option.none⟩ = some (.slice pf Nf cf)) → MkS W v (a ++ a) → Calls Try.prog 9 #[.int .i64 (t : Int), v] W fun e w' => ∃ v', e = .returned (.agg #[.int .i64 (t : Int), v']) ∧ MkS w' v' (nrm a) ∧ (Below X.heap.size X w' ∧ w'.cell? ⟨w5.heap.size, 0, Option.none⟩ = some (.int .i64 (t : Int)) ∧ w'.cell? ⟨w5.heap.size, 1, Option.none⟩ = some (.slice pe Ne ce) ∧ w'.cell? ⟨w5.heap.size + 1, 0, Option.none⟩ = some (.int .i64 (u : Int)) ∧ w'.cell? ⟨w5.heap.size + 1, 1, Option.none⟩ = some (.slice pf Nf cf))) := Lib.hid fun W v k hm =>
        (new_any t (a ++ a) v W hm hll).mono fun e w' ⟨v', h1, h2, h3⟩ => ⟨v', h1, by rw [← nrm_twice]; exact h2, mk w' (k.1.trans (h3.mono k.1.size))⟩
      have K5 : Hid (∀ W v', (Below X.heap.size X W ∧ W.cell? ⟨w5.heap.size, 0, Option.none⟩ = some (.int .i64 (t : Int)) ∧ W.cell? ⟨w5.heap.size, 1, Option.none⟩ = some (.slice pe Ne ce) ∧ W.cell? ⟨w5.heap.size + 1, 0, Option.none⟩ = some (.int .i64 (u : Int)) ∧ W.cell? ⟨w5.heap.size + 1, 1, Option.none⟩ = some (.slice pf Nf cf)) → MkS W v' (nrm a) → Calls Try.prog 15 #[.agg #[.int .i64 (t : Int), .slice pe Ne ce], .agg #[.int .i64 (t : Int), v']] W fun e w' => e = .returned (.bool true) ∧ (Below X.heap.size X w' ∧ w'.cell? ⟨w5.heap.size, 0, Option.none⟩ = some (.int .i64 (t : Int)) ∧ w'.cell? ⟨w5.heap.size, 1, Option.none⟩ = some (.slice pe Ne ce) ∧ w'.cell? ⟨w5.heap.size + 1, 0, Option.none⟩ = some (.int .i64 (u : Int)) ∧ w'.cell? ⟨w5.heap.size + 1, 1, Option.none⟩ = some (.slice pf Nf cf))) := Lib.hid fun W v' k hm =>
        (same_ev t t (nrm a) (nrm a) _ v' W (ME.out.kept k.1) hm LNA.out LNA.out).mono fun e w' h => ⟨by rw [h.1]; simp, mk w' (k.1.trans (h.2.mono k.1.size))⟩
      have hs0 := mk wr.drew (HXW.out.trans ⟨rfl, rfl, rfl, Nat.le_refl _, fun _ _ => rfl⟩)
      clear hcc hll hsl mk HC
      go_wp2_with fail
      go_region_held3 (fun w' => (Below X.heap.size X w' ∧ w'.cell? ⟨w5.heap.size, 0, Option.none⟩ = some (.int .i64 (t : Int)) ∧ w'.cell? ⟨w5.heap.size, 1, Option.none⟩ = some (.slice pe Ne ce) ∧ w'.cell? ⟨w5.heap.size + 1, 0, Option.none⟩ = some (.int .i64 (u : Int)) ∧ w'.cell? ⟨w5.heap.size + 1, 1, Option.none⟩ = some (.slice pf Nf cf)))
        (first | exact hs0 | assumption)
        (first
          | (refine step_app (by rfl) (.tmp 79) (.tmp 80) 22 (by rfl) _ _ v6 w6 (by rfl) (by rfl) hr ?_)
          | (go_at_call 16; refine (K2.out _ (by assumption)).mono ?_; rintro e w' ⟨v2, rfl, hsA, v6, w6, hr, ht6, hsB⟩)
          | (go_at_call 10; refine (K3.out _ _ (by assumption) (by assumption)).mono ?_; rintro e w' ⟨v7, rfl, hm7, hsC⟩)
          | (go_at_call 9; refine (K4.out _ _ (by assumption) (by assumption)).mono ?_; rintro e w' ⟨v8, rfl, hm8, hsD⟩)
          | (have hq := hm8; go_at_call 15; refine (K5.out _ _ (by assumption) hq).mono ?_; rintro e w' ⟨rfl, hsF⟩)
          | (go_at_call 15; refine (K1.out _ (by assumption)).mono ?_; rintro e w' ⟨rfl, hsE⟩))
      have HFB : Hid (Below w.heap.size w w') := Lib.hid (WX.out.trans (hsF.1.mono WX.out.size))
      clear hsE hsA hsB hsC hsD hsF hr ht6 hm7 hm8 hq hs0 hec
      go_wp2
      go_ret
      exact ⟨rfl, HFB.out⟩

set_option maxRecDepth 100000 in
set_option maxHeartbeats 2000000 in
theorem sames_any (a b : List (Int × Bool)) (va vb : Value) (t u : Nat) (ht : t < 256) (hu : u < 256) (w : World) (ha : TcS w va a) (hb : TcS w vb b) (sa : sml a) (sb : sml b) :
    Calls Try.prog 5 #[va, vb, .int .u8 (t : Int), .int .u8 (u : Int)] w fun e w' => e = .returned (.bool true) ∧ Below w.heap.size w w' := by
  obtain ⟨pa, ca, rfl, _⟩ := ha.form
  obtain ⟨pb, cb, rfl, _⟩ := hb.form
  by_cases lA : 40 < a.length
  · have i1 : (40 : Int) < (a.length : Int) := by omega
    clear ha hb
    go_enter Try.func5, Try.ntmps5
    go_wp2_with (go_at_call 8; refine Hid.out ?_)
    refine Lib.hid ?_
    refine (awake_any _).mono ?_
    rintro e w1 ⟨rfl, hb⟩
    have B1 := Lib.hid hb
    clear hb
    go_wp2
    go_ret
    exact ⟨rfl, B1.out⟩
  · by_cases lB : 40 < b.length
    · have i1 : ¬ (40 : Int) < (a.length : Int) := by omega
      have i2 : (40 : Int) < (b.length : Int) := by omega
      clear ha hb
      go_enter Try.func5, Try.ntmps5
      go_wp2_with (go_at_call 8; refine Hid.out ?_)
      refine Lib.hid ?_
      refine (awake_any _).mono ?_
      rintro e w1 ⟨rfl, hb⟩
      have B1 := Lib.hid hb
      clear hb
      go_wp2
      go_ret
      exact ⟨rfl, B1.out⟩
    · exact sames_small a b pa pb _ _ ca cb t u ht hu w rfl rfl ha hb sa sb (by omega) (by omega)
end Go.Proofs.Ytgknoliocphoaaa
