/- EventTurns: the walk. -/
import Derived.Test.YtgknoliocphoaaaEc
import Derived.Deep.RegionLaw
import Derived.Deep.DeepCutAuto
import Derived.Deep.CutBlock
set_option linter.unusedSimpArgs false
set_option linter.unusedVariables false
namespace Go.Proofs.Ytgknoliocphoaaa
open Go.RowKit

/-- An append whose run is known, as one step of a region that draws. -/
theorem step_app {P : Program} {ops : Array Oper} {o : Oper} {a : Act} {w : World} {K : Act → World → Prop} {Q : Exit → Act → World → Prop} {E : Prop} (hgd : Region.wanted o (yielded ops a.tmps) = true) (s x : Operand) (t : TypeId)
    (ho : o.op = .call { callee := .builtin .append, args := #[s, x], argTypes := #[t, t] }) (v u v' : Value) (w' : World) (hs : a.eval s = v) (hx : a.eval x = u)
    (hr : ∀ ty, (Builtin.append_ #[t, t] ty #[v, u]).run P w = .ok v' w') (hK : K (a.put o.dst v') w') : if Region.wanted o (yielded ops a.tmps) = true then Oper.wp P o a w K Q else E := by
  rw [if_pos hgd]
  unfold Oper.wp execOp
  simp only [ho, resolve, invoke, builtin, Sem.run_bind, Sem.run_pure, Result.andThen_ok, List.map_toArray, List.map_cons, List.map_nil, hs, hx, hr]
  exact hK

set_option maxRecDepth 100000 in
set_option maxHeartbeats 8000000 in
theorem turns_small (a : List (Int × Bool)) (b o : Nat) (A ca : Nat) (k : Nat) (hk : k < 256) (w : World) (hA : a.length = A) (ha : TcS w (.slice (some ⟨b, o, Option.none⟩) A ca) a) (sa : sml a) (lA : A ≤ 40) (l0 : 0 < A) (hc : A ≤ ca) (hcm : ca ≤ maxLen) (hb : b < w.heap.size) (hrow : RowT w b o a) :
    Calls Try.prog 7 #[.slice (some ⟨b, o, Option.none⟩) A ca, .int .u8 (k : Int)] w fun e w' => e = .returned (.bool true) ∧ Below w.heap.size w w' := by
  have HA := Lib.hid ha
  have SA := Lib.hid sa
  have LA := Lib.hid hA
  have HROW := Lib.hid hrow
  have i1 : ¬ (40 : Int) < (A : Int) := by omega
  have i2 : ((A : Int) == 0) = false := by rw [beq_eq_false_iff_ne]; omega
  have wk : IntKind.i64.wrap (k : Int) = (k : Int) := by rw [IntKind.wrap_i64]; omega
  clear ha sa hA hrow
  go_enter Try.func7, Try.ntmps7
  go_wp2_with (go_at_call 8; refine Hid.out ?_)
  refine Lib.hid ?_
  refine (awake_any _).mono ?_
  rintro e w1 ⟨rfl, hb⟩
  have B1 := Lib.hid hb
  clear hb
  go_wp2_with fail
  obtain ⟨i, hi, hiA⟩ : ∃ i : Nat, (k : Int) % (A : Int) = (i : Int) ∧ i < A := ⟨k % A, by simp, Nat.mod_lt _ l0⟩
  rw [hi]
  have ci : ¬ ca = i := by omega
  have ci' : ¬ ca - i = 0 := by omega
  have ii : (i : Int) ≤ (A : Int) := by omega
  have ii2 : (i : Int) ≤ (ca : Int) := by omega
  have TD : Hid (∀ W, Below w.heap.size w W → TcS W (.slice (some ⟨b, o + i * 2, Option.none⟩) (A - i) (ca - i)) (a.drop i)) := Lib.hid fun W kk => by
    refine TcS.kept (.inr ⟨_, _, by rw [List.length_drop, LA.out], by rw [List.length_drop, LA.out]; omega, by omega, fun _ => ⟨b, o + i * 2, rfl, hb, fun j x hx => ?_⟩⟩) kk
    rw [List.getElem?_drop] at hx
    have := HROW.out (i + j) x hx
    rw [show o + (i + j) * 2 = o + i * 2 + j * 2 by omega] at this
    exact this
  have TT : Hid (∀ W, Below w.heap.size w W → TcS W (.slice (some ⟨b, o, Option.none⟩) i ca) (a.take i)) := Lib.hid fun W kk => by
    have hl : (a.take i).length = i := by rw [List.length_take, LA.out]; omega
    refine TcS.kept (.inr ⟨_, _, by rw [hl], by rw [hl]; omega, hcm, fun _ => ⟨b, o, rfl, hb, fun j x hx => ?_⟩⟩) kk
    rw [List.getElem?_take] at hx
    split at hx
    · exact HROW.out j x hx
    · cases hx
  clear hi
  go_cut [6] (fun s6 wx => ∃ v, s6 = v ∧ TcS wx v (a.drop i ++ a.take i) ∧ Below w.heap.size w wx)
  case first =>
    have W1 : Below w.heap.size w w1.drew := B1.out.trans ⟨rfl, rfl, rfl, Nat.le_refl _, fun _ _ => rfl⟩
    have HCL := Lib.hid (clone_tc (a.drop i) _ w1.drew (TD.out _ W1) (by rw [List.length_drop, LA.out]; omega))
    have HAP : Hid (∀ w2 v2, w2.ownsRow w1.drew.heap.size 37 2 v2 (a.drop i).length ((a.drop i).flatMap tc) → Below w1.drew.heap.size w1.drew w2 →
        ∃ v6 w6, (∀ ty, (Builtin.append_ #[22, 22] ty #[v2, .slice (some ⟨b, o, Option.none⟩) i ca]).run Try.prog w2 = .ok v6 w6) ∧ TcS w6 v6 (a.drop i ++ a.take i) ∧ Below w.heap.size w w6) := Lib.hid fun w2 v2 ho hb2 => by
      have hb' : Below w.heap.size w w2 := W1.trans (hb2.mono W1.size)
      obtain ⟨v6, w6, hr, ho6, hg6⟩ := app_tc w2 w1.drew.heap.size v2 _ (a.drop i) (a.take i) ho (by rw [List.length_drop, LA.out]; omega) (by rw [List.length_take, LA.out]; omega) hb2.size (TT.out w2 hb')
      exact ⟨v6, w6, hr, tcs_of_own ho6, hb'.grown hg6 hb'.size (fun q hq => Nat.le_trans W1.size (ho.lt q hq).1)⟩
    clear W1
    go_region_law (first
      | (refine step_app (by rfl) (.tmp 25) (.tmp 28) 22 (by rfl) _ _ v6 w6 (by rfl) (by rfl) hr ?_)
      | (go_simp; go_at_call 16; refine HCL.out.mono ?_; rintro e w2 ⟨v2, rfl, ho2, hb2⟩; obtain ⟨v6, w6, hr, ht6, hb6⟩ := HAP.out w2 v2 ho2 hb2))
    all_goals (go_wp2_with fail; go_meet)
    exact ⟨_, rfl, ht6, hb6⟩
  case rest =>
    obtain ⟨v, rfl, ht, hbw⟩ := hcut
    have HT := Lib.hid ht
    have HB := Lib.hid hbw
    clear ht hbw
    have hlen : (a.drop i ++ a.take i).length = A := by rw [List.length_append, List.length_drop, List.length_take, LA.out]; omega
    have LR := Lib.hid hlen
    have SR : Hid (sml (a.drop i ++ a.take i)) := Lib.hid fun x hx => by
      rcases List.mem_append.1 hx with h | h
      · exact SA.out x (List.mem_of_mem_drop h)
      · exact SA.out x (List.mem_of_mem_take h)
    have HNT := Lib.hid (nrm_turn a i)
    generalize a.drop i ++ a.take i = r at *
    clear hlen TD TT ci ci' ii ii2
    have h1 := Lib.hid (marks_any a _ wc (HA.out.kept HB.out) (by rw [LA.out]; omega) SA.out)
    go_wp2_with (go_at_call 10; refine Hid.out ?_)
    refine Lib.hid ?_
    refine h1.out.mono ?_
    rintro e w2 ⟨v2, rfl, hm2, hb2⟩
    have W2 : Hid (Below w.heap.size w w2) := Lib.hid (HB.out.trans (hb2.mono HB.out.size))
    have T2 := Lib.hid (HT.out.kept hb2)
    have h2 := Lib.hid (new_any 1 a v2 w2 hm2 (by rw [LA.out]; omega))
    clear hm2 hb2 h1 HT
    go_wp2_with (go_at_call 9; refine Hid.out ?_)
    refine Lib.hid ?_
    refine h2.out.mono ?_
    rintro e w3 ⟨v3, rfl, hm3, hb3⟩
    have W3 : Hid (Below w.heap.size w w3) := Lib.hid (W2.out.trans (hb3.mono W2.out.size))
    have M3 := Lib.hid hm3
    have h3 := Lib.hid (marks_any r _ w3 (T2.out.kept hb3) (by rw [LR.out]; omega) SR.out)
    clear hm3 hb3 h2 T2
    go_wp2_with (go_at_call 10; refine Hid.out ?_)
    refine Lib.hid ?_
    refine h3.out.mono ?_
    rintro e w4 ⟨v4, rfl, hm4, hb4⟩
    have W4 : Hid (Below w.heap.size w w4) := Lib.hid (W3.out.trans (hb4.mono W3.out.size))
    have M4 := Lib.hid (M3.out.kept hb4)
    have h4 := Lib.hid (new_any 1 r v4 w4 hm4 (by rw [LR.out]; omega))
    clear hm4 hb4 h3 M3
    go_wp2_with (go_at_call 9; refine Hid.out ?_)
    refine Lib.hid ?_
    refine h4.out.mono ?_
    rintro e w5 ⟨v5, rfl, hm5, hb5⟩
    have W5 : Hid (Below w.heap.size w w5) := Lib.hid (W4.out.trans (hb5.mono W4.out.size))
    have la : (nrm a).length ≤ 1000 := by have := nrm_len a; rw [LA.out] at this; omega
    have lr : (nrm r).length ≤ 1000 := by have := nrm_len r; rw [LR.out] at this; omega
    have h5 : Hid (Calls Try.prog 15 #[.agg #[.int .i64 1, v3], .agg #[.int .i64 1, v5]] w5 fun e w' => e = .returned (.bool true) ∧ Below w5.heap.size w5 w') := Lib.hid ((same_ev 1 1 (nrm a) (nrm r) v3 v5 w5 (M4.out.kept hb5) hm5 la lr).mono fun e w' h => ⟨by rw [h.1, HNT.out]; simp, h.2⟩)
    clear hm5 hb5 h4 M4 la lr
    go_wp2_with (go_at_call 15; refine Hid.out ?_)
    refine Lib.hid ?_
    refine h5.out.mono ?_
    rintro e w6 ⟨rfl, hb6⟩
    have W6 : Hid (Below w.heap.size w w6) := Lib.hid (W5.out.trans (hb6.mono W5.out.size))
    clear hb6 h5
    go_wp2
    go_ret
    exact ⟨rfl, W6.out⟩

set_option maxRecDepth 100000 in
set_option maxHeartbeats 2000000 in
theorem turns_any (a : List (Int × Bool)) (va : Value) (k : Nat) (hk : k < 256) (w : World) (ha : TcS w va a) (sa : sml a) :
    Calls Try.prog 7 #[va, .int .u8 (k : Int)] w fun e w' => e = .returned (.bool true) ∧ Below w.heap.size w w' := by
  by_cases l0 : a.length = 0
  · obtain ⟨pa, ca, rfl, _⟩ := ha.form
    rw [l0]
    have i2 : (((0 : Nat) : Int) == 0) = true := rfl
    clear ha
    go_enter Try.func7, Try.ntmps7
    go_wp2_with (go_at_call 8; refine Hid.out ?_)
    refine Lib.hid ?_
    refine (awake_any _).mono ?_
    rintro e w1 ⟨rfl, hb⟩
    have B1 := Lib.hid hb
    clear hb
    go_wp2
    go_ret
    exact ⟨rfl, B1.out⟩
  · by_cases lA : 40 < a.length
    · obtain ⟨pa, ca, rfl, _⟩ := ha.form
      have i1 : (40 : Int) < (a.length : Int) := by omega
      clear ha
      go_enter Try.func7, Try.ntmps7
      go_wp2_with (go_at_call 8; refine Hid.out ?_)
      refine Lib.hid ?_
      refine (awake_any _).mono ?_
      rintro e w1 ⟨rfl, hb⟩
      have B1 := Lib.hid hb
      clear hb
      go_wp2
      go_ret
      exact ⟨rfl, B1.out⟩
    · have ha' := ha
      rcases ha with ⟨_, e⟩ | ⟨ad, ca, rfl, h2, h3, h4⟩
      · rw [e] at l0; exact absurd rfl l0
      · obtain ⟨b, o, rfl, hb, hr⟩ := h4 (by rintro rfl; exact l0 rfl)
        exact turns_small a b o _ ca k hk w rfl ha' sa (by omega) (by omega) h2 h3 hb hr
end Go.Proofs.Ytgknoliocphoaaa
