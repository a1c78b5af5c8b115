/- EventMore: the walk. -/
import Derived.Test.YtgknoliocphoaaaEn
set_option linter.unusedSimpArgs false
set_option linter.unusedVariables false
namespace Go.Proofs.Ytgknoliocphoaaa
open Go.RowKit

theorem fldM (a b : Value) (w : World) : (Instr.field 26 (.agg #[a, b]) 1).run Try.prog w = .ok b w := by
  simp [Instr.field, go_sem, asAgg, Try.underlying26, Try.isAgg24]
/-- A guarded append whose run is known. -/
theorem wpList_app2 {P : Program} {w : World} {ops : Array Oper} {rest : List Oper} {o : Oper} {a : Act} {Q : Exit → Act → World → Prop} (hgd : Region.wanted o (yielded ops a.tmps) = true) (s x : Operand) (t : TypeId)
    (ho : o.op = .call { callee := .builtin .append, args := #[s, x], argTypes := #[t, t] }) (v u v' : Value) (w' : World) (hs : a.eval s = v) (hx : a.eval x = u)
    (hr : ∀ ty, (Builtin.append_ #[t, t] ty #[v, u]).run P w = .ok v' w') (h : wpList P ops Q rest (a.put o.dst v') w') : wpList P ops Q (o :: rest) a w := by
  refine wpList_step fun K hK => ?_
  rw [if_pos hgd]
  unfold Oper.wp execOp
  simp only [ho, resolve, invoke, builtin, Sem.run_bind, Sem.run_pure, Result.andThen_ok, List.map_toArray, List.map_cons, List.map_nil, hs, hx, hr]
  exact hK _ _ h

set_option maxRecDepth 100000 in
set_option maxHeartbeats 4000000 in
theorem more_small (a b m : List (Int × Bool)) (pa pb pm : Option Addr) (A B C ca cb cm : Nat) (w : World) (hA : a.length = A) (hB : b.length = B) (hC : m.length = C) (ha : TcS w (.slice pa A ca) a) (hb : TcS w (.slice pb B cb) b) (hm : TcS w (.slice pm C cm) m) (sa : sml a) (sb : sml b) (sm : sml m) (lA : A ≤ 40) (lB : B ≤ 40) (lC : C ≤ 40) :
    Calls Try.prog 6 #[.slice pa A ca, .slice pb B cb, .slice pm C cm] w fun e w' => e = .returned (.bool true) ∧ Below w.heap.size w w' := by
  have HA := Lib.hid ha
  have HB := Lib.hid hb
  have HM := Lib.hid hm
  have SA := Lib.hid sa
  have SB := Lib.hid sb
  have SM := Lib.hid sm
  have LA := Lib.hid hA
  have LB := Lib.hid hB
  have LC := Lib.hid hC
  have i1 : ¬ (40 : Int) < (A : Int) := by omega
  have i2 : ¬ (40 : Int) < (B : Int) := by omega
  have i3 : ¬ (40 : Int) < (C : Int) := by omega
  clear ha hb hm sa sb sm hA hB hC
  have hfld := fldM
  go_enter Try.func6, Try.ntmps6
  go_wp2_with (go_at_call 8; refine Hid.out ?_)
  refine Lib.hid ?_
  refine (awake_any _).mono ?_
  rintro e w1 ⟨rfl, hb⟩
  have B1 := Lib.hid hb
  clear hb
  have h1 := Lib.hid (marks_any a _ w1 (HA.out.kept B1.out) (by rw [LA.out]; omega) SA.out)
  go_wp2_with (go_at_call 10; refine Hid.out ?_)
  refine Lib.hid ?_
  refine h1.out.mono ?_
  rintro e w2 ⟨v2, rfl, hm2, hb2⟩
  have B2 : Hid (Below w.heap.size w w2) := Lib.hid (B1.out.trans (hb2.mono B1.out.size))
  have M2 := Lib.hid hm2
  clear hb2 hm2 h1
  have h2 := Lib.hid (marks_any b _ w2 (HB.out.kept B2.out) (by rw [LB.out]; omega) SB.out)
  go_wp2_with (go_at_call 10; refine Hid.out ?_)
  refine Lib.hid ?_
  refine h2.out.mono ?_
  rintro e w3 ⟨v3, rfl, hm3, hb3⟩
  have B3 : Hid (Below w.heap.size w w3) := Lib.hid (B2.out.trans (hb3.mono B2.out.size))
  have h3 := Lib.hid (clash_any a b v2 v3 w3 (M2.out.kept hb3) hm3 (by rw [LA.out]; omega) (by rw [LB.out]; omega))
  clear hb3 hm3 h2
  go_wp2_with (go_at_call 13; refine Hid.out ?_)
  refine Lib.hid ?_
  refine h3.out.mono ?_
  rintro e w4 ⟨rfl, hb4⟩
  have B4 : Hid (Below w.heap.size w w4) := Lib.hid (B3.out.trans (hb4.mono B3.out.size))
  clear hb4 h3
  cases hcl : clh a b with
  | false =>
    go_wp2
    go_ret
    exact ⟨rfl, B4.out⟩
  | true =>
    have HC := Lib.hid hcl
    clear hcl
    have h5 := Lib.hid (clone_tc a _ w4 (HA.out.kept B4.out) (by rw [LA.out]; omega))
    go_wp2_with (go_at_call 16; refine Hid.out ?_)
    refine Lib.hid ?_
    refine h5.out.mono ?_
    rintro e w5 ⟨v5, rfl, ho5, hb5⟩
    have B5 : Hid (Below w.heap.size w w5) := Lib.hid (B4.out.trans (hb5.mono B4.out.size))
    obtain ⟨v6, w6, hr, ho6, hg6⟩ := app_tc w5 w4.heap.size v5 _ a m ho5 (by rw [LA.out]; omega) (by rw [LC.out]; omega) hb5.size (HM.out.kept B5.out)
    have B6 : Hid (Below w.heap.size w w6) := Lib.hid (B5.out.grown hg6 B5.out.size (fun k hk => by have := (ho5.lt k hk).1; have := B4.out.size; omega))
    have h7 := Lib.hid (marks_any (a ++ m) v6 w6 (tcs_of_own ho6) (by rw [List.length_append, LA.out, LC.out]; omega) (fun x hx => by rcases List.mem_append.1 hx with h | h; · exact SA.out x h
                                                                                                                                      · exact SM.out x h))
    clear h5 ho5 hb5 ho6 hg6
    go_wp2_with (at_builtin; refine wpList_app2 rfl (.tmp 30) (.tmp 31) 22 rfl _ _ v6 w6 rfl rfl hr ?_)
    clear hr
    go_wp2_with (go_at_call 10; refine Hid.out ?_)
    refine Lib.hid ?_
    refine h7.out.mono ?_
    rintro e w7 ⟨v7, rfl, hm7, hb7⟩
    have B7 : Hid (Below w.heap.size w w7) := Lib.hid (B6.out.trans (hb7.mono B6.out.size))
    have h8 := Lib.hid (new_any 0 (a ++ m) v7 w7 hm7 (by rw [List.length_append, LA.out, LC.out]; omega))
    clear hm7 hb7 h7
    go_wp2_with (go_at_call 9; refine Hid.out ?_)
    refine Lib.hid ?_
    refine h8.out.mono ?_
    rintro e w8 ⟨v8, rfl, hm8, hb8⟩
    have B8 : Hid (Below w.heap.size w w8) := Lib.hid (B7.out.trans (hb8.mono B7.out.size))
    have M8 := Lib.hid hm8
    obtain ⟨p8, c8, e8, _⟩ := hm8
    obtain ⟨N8, hN8⟩ : ∃ B, (nrm (a ++ m)).length = B := ⟨_, rfl⟩
    rw [hN8] at e8
    subst e8
    have h9 := Lib.hid (marks_any b _ w8 (HB.out.kept B8.out) (by rw [LB.out]; omega) SB.out)
    clear hb8 h8 hN8
    go_wp2_with (go_at_call 10; refine Hid.out ?_)
    refine Lib.hid ?_
    refine h9.out.mono ?_
    rintro e w9 ⟨v9, rfl, hm9, hb9⟩
    have B9 : Hid (Below w.heap.size w w9) := Lib.hid (B8.out.trans (hb9.mono B8.out.size))
    have hn : (nrm (a ++ m)).length ≤ 1000 := by have := nrm_len (a ++ m); rw [List.length_append, LA.out, LC.out] at this; omega
    have h10 := Lib.hid (clash_any (nrm (a ++ m)) b _ v9 w9 (M8.out.kept hb9) hm9 hn (by rw [LB.out]; omega))
    clear hm9 hb9 h9 hn
    go_wp2_with (go_at_call 13; refine Hid.out ?_)
    refine Lib.hid ?_
    refine h10.out.mono ?_
    rintro e w10 ⟨rfl, hb10⟩
    have B10 : Hid (Below w.heap.size w w10) := Lib.hid (B9.out.trans (hb10.mono B9.out.size))
    rw [clh_more HC.out]
    clear hb10 h10
    go_wp2
    go_ret
    exact ⟨rfl, B10.out⟩

set_option maxRecDepth 100000 in
set_option maxHeartbeats 2000000 in
theorem more_any (a b m : List (Int × Bool)) (va vb vm : Value) (w : World) (ha : TcS w va a) (hb : TcS w vb b) (hm : TcS w vm m) (sa : sml a) (sb : sml b) (sm : sml m) :
    Calls Try.prog 6 #[va, vb, vm] w fun e w' => e = .returned (.bool true) ∧ Below w.heap.size w w' := by
  obtain ⟨pa, ca, rfl, _⟩ := ha.form
  obtain ⟨pb, cb, rfl, _⟩ := hb.form
  obtain ⟨pm, cm, rfl, _⟩ := hm.form
  by_cases lA : 40 < a.length
  · have i1 : (40 : Int) < (a.length : Int) := by omega
    clear ha hb hm
    go_enter Try.func6, Try.ntmps6
    go_wp2_with (go_at_call 8; refine Hid.out ?_)
    refine Lib.hid ?_
    refine (awake_any _).mono ?_
    rintro e w1 ⟨rfl, hb⟩
    have B1 := Lib.hid hb
    clear hb
    go_wp2
    go_ret
    exact ⟨rfl, B1.out⟩
  · by_cases lB : 40 < b.length
    · have i1 : ¬ (40 : Int) < (a.length : Int) := by omega
      have i2 : (40 : Int) < (b.length : Int) := by omega
      clear ha hb hm
      go_enter Try.func6, Try.ntmps6
      go_wp2_with (go_at_call 8; refine Hid.out ?_)
      refine Lib.hid ?_
      refine (awake_any _).mono ?_
      rintro e w1 ⟨rfl, hb⟩
      have B1 := Lib.hid hb
      clear hb
      go_wp2
      go_ret
      exact ⟨rfl, B1.out⟩
    · by_cases lC : 40 < m.length
      · have i1 : ¬ (40 : Int) < (a.length : Int) := by omega
        have i2 : ¬ (40 : Int) < (b.length : Int) := by omega
        have i3 : (40 : Int) < (m.length : Int) := by omega
        clear ha hb hm
        go_enter Try.func6, Try.ntmps6
        go_wp2_with (go_at_call 8; refine Hid.out ?_)
        refine Lib.hid ?_
        refine (awake_any _).mono ?_
        rintro e w1 ⟨rfl, hb⟩
        have B1 := Lib.hid hb
        clear hb
        go_wp2
        go_ret
        exact ⟨rfl, B1.out⟩
      · exact more_small a b m pa pb pm _ _ _ ca cb cm w rfl rfl rfl ha hb hm sa sb sm (by omega) (by omega) (by omega)
end Go.Proofs.Ytgknoliocphoaaa
