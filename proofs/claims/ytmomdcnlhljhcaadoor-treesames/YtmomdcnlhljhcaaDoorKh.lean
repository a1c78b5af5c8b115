/- The law's statement, kind by kind. -/
import Derived.Test.YtmomdcnlhljhcaaDoorMx
import Derived.Test.YtmomdcnlhljhcaaDoorHl
import Derived.Deep.RegionHeld3
import Derived.Deep.AppendLies
import Derived.Deep.RegionLaw
import Derived.BigRegion
import Derived.Deep.DeepCutAuto
import Derived.Deep.CutBlock
set_option linter.unusedSimpArgs false
set_option linter.unusedVariables false
namespace Go.Proofs.YtmomdcnlhljhcaaDoor
open Go.RowKit Ieee

theorem exc_two_Kh (s0 : ByteArray) (x y : Nat) (s1 : ByteArray) (q : Option Addr) (m : Nat) (t0 : ByteArray) (x' y' : Nat) (t1 : ByteArray) (q' : Option Addr) (m' : Nat) : ∀ u ∈ exc s0 x y s1 q m ++ exc t0 x' y' t1 q' m', u.oneCell' = true := by
  intro u hu
  rcases List.mem_append.1 hu with h | h
  · exact exc_one _ _ _ _ _ _ u h
  · exact exc_one _ _ _ _ _ _ u h
theorem px_num_Kh (w : World) (S : Nat → Prop) (n : Int) : Px w S (aNum n) none := by
  unfold aNum; split <;> rfl
set_option maxRecDepth 100000 in
set_option maxHeartbeats 6400000 in
theorem mk_6 (x : Sml) (p : Option Addr) (c : Nat) (s : S5) (hx : Smok x) (hs : S5ok s) (hm : (s.d : Int) % 19 = 6) (hA : ((s.b : Int) % 4 == 3) = false ∨ (((s.b : Int) % 4 == 3) = true ∧ (x.ar : Int) % 4 = 0)) (w : World) : Calls Tryd.prog 40 #[smv x p c, s5v s] w (MkS w 5 [aReg s.c] (lett 120 s.b (1 + x.ce % 3)) false [aExpr s.a s.n, aNum (IntKind.i8.wrap (s.n + 1))] true) := by
  have hst := store_cx
  obtain ⟨n, hn⟩ : ∃ n, w.heap.size = n := ⟨_, rfl⟩
  have HN := Lib.hid hn
  have HY0 := fun o => Lib.hid (Yw.start w n hn x p c s 5 o)
  have HSO := Lib.hid hs
  have HXO := Lib.hid hx
  obtain ⟨i0, hi, hz0, hz1, hz2⟩ := info_parts e_info
  have HI := Lib.hid hi
  have HZ0 := Lib.hid hz0
  have HZ1 := Lib.hid hz1
  have HZ2 := Lib.hid hz2
  unfold xbox s5box ybox at HY0
  have hdd := hs.d
  have hbb := hs.b
  have hcc := hs.c
  have haa := hs.a
  obtain ⟨hnn0, hnn1⟩ := hs.n
  have hxc := hx.ce
  have hxa := hx.ar
  have hxm := hx.mu
  have hxs := hx.se
  have hxt := hx.th
  clear hx hs hi hz0 hz1 hz2
  unfold smv s5v
  go_enter Tryd.func40, Tryd.ntmps40
  go_upto_block 0 with fail
  obtain ⟨W, hW⟩ : ∃ W, ((((w.alloc (.cells #[.int .u8 (x.ce : Int), .int .u8 (x.ar : Int), .int .u8 (x.mu : Int), .int .u8 (x.se : Int), .int .u8 (x.bu : Int), .int .i8 x.n, .slice p x.th.length c] 33)).alloc (.cells #[.int .u8 (s.d : Int), .int .u8 (s.a : Int), .int .u8 (s.b : Int), .int .u8 (s.c : Int), .int .i8 s.n] 85)).alloc (.cells #[.int .i64 0, .string ⟨#[]⟩, .string ⟨#[]⟩, .bool false, .slice none 0 0, .slice none 0 0, .slice none 0 0, .int .i64 0] 87)).alloc (.cells #[.int .i64 2, .int .i64 1, .int .i64 2, .int .i64 1, .int .i64 3, .int .i64 4, .int .i64 5, .int .i64 6, .int .i64 7, .int .i64 8, .int .i64 9, .int .i64 10, .int .i64 11, .int .i64 12, .int .i64 13, .int .i64 14, .int .i64 15, .int .i64 16, .int .i64 0] 26)).alloc (.cells #[.int .i64 5, .string ⟨#[]⟩, .string ⟨#[]⟩, .bool false, .slice none 0 0, .slice none 0 0, .slice none 0 0, .int .i64 0] 87) = W := ⟨_, rfl⟩
  have HY : Hid (Yw w W n x p c s 5 ⟨#[]⟩ ⟨#[]⟩ false (.slice none 0 0)) := Lib.hid (by rw [← hW]; exact (HY0 _).out)
  rw [hW]
  clear hW hn HY0
  simp only [Nat.add_assoc, Nat.reduceAdd]
  go_cut [8] (fun u8 wx => u8 = .bool true ∧ ∃ v qs, Yw w wx n x p c s 5 ⟨#[]⟩ ⟨((lett 120 s.b (1 + x.ce % 3)) : List UInt8).toArray⟩ false v ∧ Xo wx n qs v ∧ qs.map Prod.fst = [] ∧ (qs = [] → v = .slice none 0 0))
  case first =>
    have HMA := Lib.hid (fun w => many_any x.ce hxc w)
    have HLE := Lib.hid (fun w => letter_any 120 s.b (1 + x.ce % 3) hbb (by omega) (by omega) w)
    have x0 : W.cell? ⟨n, 0, none⟩ = some (.int .u8 (x.ce : Int)) := HY.out.xC 0
    have x1 : W.cell? ⟨n, 1, none⟩ = some (.int .u8 (x.ar : Int)) := HY.out.xC 1
    have x2 := HY.out.sB
    have x3 : W.cell? ⟨n + 4, 2, none⟩ = some (.string ⟨#[]⟩) := HY.out.yC 2
    have x4 := HY.out.yF 2
    rcases hA with hA | ⟨hA, hB⟩
    all_goals
      go_wp2
      go_region_held3 (fun w' => w'.cell? ⟨n, 0, none⟩ = some (.int .u8 (x.ce : Int)) ∧ w'.cell? ⟨n + 1, 2, none⟩ = some (.int .u8 (s.b : Int)))
        (first | exact ⟨x0, x2⟩ | assumption | exact ⟨by simp [go_sem, x0], by simp [go_sem, x2]⟩)
        (first
          | (go_at_call 25; refine (HMA.out _).mono ?_; rintro e w' ⟨rfl, rfl⟩)
          | (go_at_call 26; refine (HLE.out _).mono ?_; rintro e w' ⟨rfl, rfl⟩))
      all_goals (go_wp2_with fail; go_meet)
      case rel => exact ⟨rfl, _, [], (HY.out.set 2 _ rfl).drew, Xo.nil _ _, rfl, fun _ => rfl⟩
  case rest =>
    obtain ⟨rfl, v, qs, hcut, hXo, hq0, hnil0⟩ := hcut
    have HXN := Lib.hid hXo
    have HQ0 := Lib.hid hq0
    have HNIL := Lib.hid hnil0
    have hql : qs.length ≤ 1 := by have := congrArg List.length hq0; rw [List.length_map] at this; simp only [List.length_nil, List.length_cons] at this; omega
    clear hXo hq0 hnil0
    have HC := Lib.hid hcut
    have z1 : wc.cell? ⟨n + 1, 3, none⟩ = some (.int .u8 (s.c : Int)) := hcut.sC
    clear hcut
    go_wp2_with fail
    refine (reg_any s.c hcc _).mono ?_
    rintro e w5 ⟨rfl, hb5⟩
    have HC5 := Lib.hid (HC.out.keep hb5)
    have HX5 := Lib.hid ((HXN.out.keep hb5).setY 1 (.string ⟨#[aReg s.c]⟩))
    have z2 : w5.cell? ⟨n + 4, 1, none⟩ = some (.string ⟨#[]⟩) := HC5.out.yC 1
    have z3 := HC5.out.yF 1
    clear hb5 z1
    go_upto_block 1 with fail
    have HC6 : Hid (Yw w (w5.setCell ⟨n + 4, 1, none⟩ (.string ⟨#[aReg s.c]⟩)) n x p c s 5 ⟨#[aReg s.c]⟩ ⟨((lett 120 s.b (1 + x.ce % 3)) : List UInt8).toArray⟩ false v) := Lib.hid (HC5.out.set 1 _ rfl)
    obtain ⟨Y, hY⟩ : ∃ Y, w5.setCell ⟨n + 4, 1, none⟩ (.string ⟨#[aReg s.c]⟩) = Y := ⟨_, rfl⟩
    rw [hY] at HC6 HX5 ⊢
    have HXo := HX5
    clear hY z2 z3 HC5
    go_cut [160] (fun _ wx => ∃ v qs, Yw w wx n x p c s 5 ⟨#[aReg s.c]⟩ ⟨((lett 120 s.b (1 + x.ce % 3)) : List UInt8).toArray⟩ false v ∧ Xo wx n qs v ∧ qs.map Prod.fst = [aExpr s.a s.n, aNum (IntKind.i8.wrap (s.n + 1))] ∧ (qs = [] → v = .slice none 0 0))
    case first =>
      have y1 := HC6.out.sA
      have y2 := HC6.out.sN
      have y3 : Y.cell? ⟨n + 4, 4, none⟩ = some v := HC6.out.yC 4
      have y4 := HC6.out.yF 4
      have hYs := HC6.out.size
      have hYn : n + 4 < Y.heap.size := by omega
      have hYn1 : n + 1 < Y.heap.size := by omega
      have hvb : some (n + 4) ≠ (v : Value).ownBlock := by intro h; have := (HXo.out.own.lt _ h.symm).1; omega
      have hvb1 : some (n + 1) ≠ (v : Value).ownBlock := by intro h; have := (HXo.out.own.lt _ h.symm).1; omega
      obtain ⟨s0, hs0⟩ : ∃ s0, opB (aExpr s.a s.n) = s0 := ⟨_, rfl⟩
      obtain ⟨s1, hs1⟩ : ∃ s1, nmB (aExpr s.a s.n) = s1 := ⟨_, rfl⟩
      obtain ⟨ex, hex⟩ : ∃ ex, nxB (aExpr s.a s.n) = ex := ⟨_, rfl⟩
      obtain ⟨ey, hey⟩ : ∃ ey, nyB (aExpr s.a s.n) = ey := ⟨_, rfl⟩
      obtain ⟨en, hen⟩ : ∃ en, npB (aExpr s.a s.n) = en := ⟨_, rfl⟩
      have HEX : Hid (∀ w, Calls Tryd.prog 50 #[.int .u8 (s.a : Int), .int .i8 s.n] w fun e w' => ∃ q, e = .returned (.agg #[.string s0, .complex .f64 ex ey, .string s1, .slice q en en]) ∧ Px w' (fun g => w.heap.size ≤ g ∧ g < w'.heap.size) (aExpr s.a s.n) q ∧ Below w.heap.size w w') :=
        Lib.hid (fun w => (expr_any s.a s.n haa hnn0 hnn1 w).mono fun e w' ⟨q, h1, h2⟩ => ⟨q, by rw [h1, ← hs0, ← hs1, ← hex, ← hey, ← hen]; rfl, h2⟩)
      have HEQ : Hid (∀ q, exq (aExpr s.a s.n) q = exc s0 ex ey s1 q en) := Lib.hid (fun q => by unfold exq; rw [hs0, hs1, hex, hey, hen])
      clear hs0 hs1 hex hey hen
      obtain ⟨kw, hkw⟩ : ∃ kw : Int, IntKind.i8.wrap (s.n + 1) = kw := ⟨_, rfl⟩
      have hkb : -128 ≤ kw ∧ kw ≤ 127 := by rw [← hkw]; simp [IntKind.wrap, IntKind.bits, IntKind.signed]; omega
      obtain ⟨t0, ht0⟩ : ∃ t0, opB (aNum kw) = t0 := ⟨_, rfl⟩
      obtain ⟨t1, ht1⟩ : ∃ t1, nmB (aNum kw) = t1 := ⟨_, rfl⟩
      obtain ⟨fx, hfx⟩ : ∃ fx, nxB (aNum kw) = fx := ⟨_, rfl⟩
      obtain ⟨fy, hfy⟩ : ∃ fy, nyB (aNum kw) = fy := ⟨_, rfl⟩
      obtain ⟨fn, hfn⟩ : ∃ fn, npB (aNum kw) = fn := ⟨_, rfl⟩
      have HNU : Hid (∀ w, Calls Tryd.prog 19 #[.int .i8 kw] w fun e w' => e = .returned (.agg #[.string t0, .complex .f64 fx fy, .string t1, .slice none fn fn]) ∧ Below w.heap.size w w') :=
        Lib.hid (fun w => (num_any kw hkb.1 hkb.2 w).mono fun e w' ⟨h1, h2⟩ => ⟨by rw [h1, ← ht0, ← ht1, ← hfx, ← hfy, ← hfn]; rfl, h2⟩)
      have HEQ2 : Hid (exq (aNum kw) none = exc t0 fx fy t1 none fn) := Lib.hid (by unfold exq; rw [ht0, ht1, hfx, hfy, hfn])
      have HKW := Lib.hid hkw
      clear ht0 ht1 hfx hfy hfn
      obtain ⟨qn, hqn⟩ : ∃ qn, (qs : List (Ex × Option Addr)).length = qn := ⟨_, rfl⟩
      have hqb : qn ≤ 1 := by rw [← hqn]; first | exact hql | simp
      have HQN := Lib.hid hqn
      have HOW : Hid (Y.ownsRow (n + 5) 48 4 v qn (qcs qs)) := Lib.hid (by rw [← hqn]; exact HXo.out.own)
      clear hqn
      go_wp2
      refine wp_region_lapse (by kernel_rfl) (fun w' => w'.cell? ⟨n + 4, 4, none⟩ = some v ∧ w'.cell? ⟨n + 1, 1, none⟩ = some (.int .u8 (s.a : Int)) ∧ w'.cell? ⟨n + 1, 4, none⟩ = some (.int .i8 s.n)) 14 ?_
      have hS0 : Y.drew.cell? ⟨n + 4, 4, none⟩ = some v ∧ Y.drew.cell? ⟨n + 1, 1, none⟩ = some (.int .u8 (s.a : Int)) ∧ Y.drew.cell? ⟨n + 1, 4, none⟩ = some (.int .i8 s.n) := ⟨y3, y1, y2⟩
      refine wpAnyF_take (i := 0) (v := ?v30x0) rfl (by kernel_rfl) (by kernel_rfl) (by kernel_rfl) (by kernel_rfl) (fun _ _ _ h => h) (Or.inl ⟨by rfl, ?h30x0⟩) hS0 ?_
      case h30x0 => (intro w hSw; (try dsimp only at hSw); go_simp; try with_reducible rfl)
      simp only [Act.put, List.setIfInBounds_toArray, List.set_cons_zero, List.set_cons_succ]
      refine wpAnyF_take (i := 1) (v := ?v30x1) rfl (by kernel_rfl) (by kernel_rfl) (by kernel_rfl) (by kernel_rfl) (fun _ _ _ h => h) (Or.inl ⟨by rfl, ?h30x1⟩) hS0 ?_
      case h30x1 => (intro w hSw; (try dsimp only at hSw); go_simp; try with_reducible rfl)
      simp only [Act.put, List.setIfInBounds_toArray, List.set_cons_zero, List.set_cons_succ]
      refine wpAnyF_take (i := 2) (v := ?v30x2) rfl (by kernel_rfl) (by kernel_rfl) (by kernel_rfl) (by kernel_rfl) (fun _ _ _ h => h) (Or.inl ⟨by rfl, ?h30x2⟩) hS0 ?_
      case h30x2 => (intro w hSw; (try dsimp only at hSw); go_simp; try with_reducible rfl)
      simp only [Act.put, List.setIfInBounds_toArray, List.set_cons_zero, List.set_cons_succ]
      refine wpAnyF_take (i := 3) (v := ?v30x3) rfl (by kernel_rfl) (by kernel_rfl) (by kernel_rfl) (by kernel_rfl) (fun _ _ _ h => h) (Or.inl ⟨by rfl, ?h30x3⟩) hS0 ?_
      case h30x3 => (intro w hSw; (try dsimp only at hSw); go_simp; try with_reducible rfl)
      simp only [Act.put, List.setIfInBounds_toArray, List.set_cons_zero, List.set_cons_succ]
      refine wpAnyF_take (i := 4) (v := ?v30x4) rfl (by kernel_rfl) (by kernel_rfl) (by kernel_rfl) (by kernel_rfl) (fun _ _ _ h => h) (Or.inl ⟨by rfl, ?h30x4⟩) hS0 ?_
      case h30x4 => (intro w hSw; (try dsimp only at hSw); go_simp; try with_reducible rfl)
      simp only [Act.put, List.setIfInBounds_toArray, List.set_cons_zero, List.set_cons_succ]
      refine wpAnyF_take (i := 5) (v := ?v30x5) rfl (by kernel_rfl) (by kernel_rfl) (by kernel_rfl) (by kernel_rfl) (fun _ _ _ h => h) (Or.inl ⟨by rfl, ?h30x5⟩) hS0 ?_
      case h30x5 => (intro w hSw; (try dsimp only at hSw); go_simp; try with_reducible rfl)
      simp only [Act.put, List.setIfInBounds_toArray, List.set_cons_zero, List.set_cons_succ]
      refine wpAnyF_take (i := 7) (v := ?v30x7) rfl (by kernel_rfl) (by kernel_rfl) (by kernel_rfl) (by kernel_rfl) (fun _ _ _ h => h) (Or.inl ⟨by rfl, ?h30x7⟩) hS0 ?_
      case h30x7 => (intro w hSw; (try dsimp only at hSw); go_simp; try with_reducible rfl)
      simp only [Act.put, List.setIfInBounds_toArray, List.set_cons_zero, List.set_cons_succ]
      refine wpAnyF_take (i := 8) (v := ?v30x8) rfl (by kernel_rfl) (by kernel_rfl) (by kernel_rfl) (by kernel_rfl) (fun _ _ _ h => h) (Or.inl ⟨by rfl, ?h30x8⟩) hS0 ?_
      case h30x8 => (intro w hSw; (try dsimp only at hSw); go_simp; try with_reducible rfl)
      simp only [Act.put, List.setIfInBounds_toArray, List.set_cons_zero, List.set_cons_succ]
      refine wpAnyF_take (i := 9) (v := ?v30x9) rfl (by kernel_rfl) (by kernel_rfl) (by kernel_rfl) (by kernel_rfl) (fun _ _ _ h => h) (Or.inl ⟨by rfl, ?h30x9⟩) hS0 ?_
      case h30x9 => (intro w hSw; (try dsimp only at hSw); go_simp; try with_reducible rfl)
      simp only [Act.put, List.setIfInBounds_toArray, List.set_cons_zero, List.set_cons_succ]
      clear hS0
      refine wpAnyF_one (i := 6) (by kernel_rfl) rfl (fun K hK => ?_)
      go_simp
      go_at_call 50
      refine (HEX.out _).mono ?_
      rintro e wa ⟨q, rfl, hpa, hba⟩
      have ha0 : wa.cell? ⟨n + 4, 4, none⟩ = some v := (hba.cell (p := ⟨n + 4, 4, none⟩) hYn).trans y3
      have ha1 : wa.cell? ⟨n + 1, 1, none⟩ = some (.int .u8 (s.a : Int)) := (hba.cell (p := ⟨n + 1, 1, none⟩) hYn1).trans y1
      have ha2 : wa.cell? ⟨n + 1, 4, none⟩ = some (.int .i8 s.n) := (hba.cell (p := ⟨n + 1, 4, none⟩) hYn1).trans y2
      refine hK.out _ _ (fun hne => ⟨ha0, ha1, ha2⟩) ?_
      clear hK K
      try simp only [Act.put, List.setIfInBounds_toArray, List.set_cons_zero, List.set_cons_succ]
      refine wpAnyF_one (i := 10) (by kernel_rfl) rfl (fun K hK => ?_)
      go_simp
      go_at_call 19
      refine (HNU.out _).mono ?_
      rintro e w2 ⟨rfl, hbb2⟩
      have hb2 : Below Y.drew.heap.size Y.drew w2 := hba.trans (hbb2.mono hba.size)
      have hpx : Px w2 (fun g => Y.drew.heap.size ≤ g ∧ g < w2.heap.size) (aExpr s.a s.n) q := hpa.on (Same.below hbb2 (fun g hg => hg.2)) (fun g hg => ⟨hg.1, Nat.lt_of_lt_of_le hg.2 hbb2.size⟩)
      clear hba hbb2 hpa ha0 ha1 ha2
      have hs0 : w2.cell? ⟨n + 4, 4, none⟩ = some v := (hb2.cell (p := ⟨n + 4, 4, none⟩) hYn).trans y3
      have hs1 : w2.cell? ⟨n + 1, 1, none⟩ = some (.int .u8 (s.a : Int)) := (hb2.cell (p := ⟨n + 1, 1, none⟩) hYn1).trans y1
      have hs2 : w2.cell? ⟨n + 1, 4, none⟩ = some (.int .i8 s.n) := (hb2.cell (p := ⟨n + 1, 4, none⟩) hYn1).trans y2
      have hz2 : n + 5 ≤ w2.heap.size := Nat.le_trans (by simp; omega) hb2.size
      have hz3 : n + 4 < w2.heap.size := by omega
      have ow2 : w2.ownsRow (n + 5) 48 4 v qn (qcs qs) := own_below (w := Y.drew) HOW.out hb2
      refine hK.out _ _ (fun hne => ⟨hs0, hs1, hs2⟩) ?_
      clear hK K
      try simp only [Act.put, List.setIfInBounds_toArray, List.set_cons_zero, List.set_cons_succ]
      refine wpAnyF_one (i := 11) (by kernel_rfl) rfl (fun K hK => ?_)
      go_simp
      refine hK.out _ _ (fun hne => ⟨al_cell hs0 _, al_cell hs1 _, al_cell hs2 _⟩) ?_
      clear hK K
      try simp only [Act.put, List.setIfInBounds_toArray, List.set_cons_zero, List.set_cons_succ]
      refine wpAnyF_one (i := 12) (by kernel_rfl) rfl (fun K hK => ?_)
      refine step_append_lies _ (by rfl) (.tmp 165) (.tmp 175) 46 (by rfl) (n + 5) 48 i0 _ 4 72 Tryd.underlying46 HI.out HZ0.out HZ1.out HZ2.out rfl (by decide) v qn (qcs qs) (by rfl) (ow2.alloc _) ⟨w2.heap.size, 0, none⟩ 2 2 (exc s0 ex ey s1 q en ++ exc t0 fx fy t1 none fn) (by rfl) (by rfl) (new_cells w2 (exc s0 ex ey s1 q en ++ exc t0 fx fy t1 none fn) 48) (exc_two_Kh _ _ _ _ _ _ _ _ _ _ _ _) (by decide) (by unfold maxLen; omega) (by omega) (by simp; omega) (w2.heap.size + 1) (by simp) ?_
      intro g cap w3 hown hgrow hat hlt
      have hq0 : w3.cell? ⟨n + 4, 4, none⟩ = some v := far_cell hb2 hgrow y3 hvb
      have hq1 : w3.cell? ⟨n + 1, 1, none⟩ = some (.int .u8 (s.a : Int)) := far_cell hb2 hgrow y1 hvb1
      have hq2 : w3.cell? ⟨n + 1, 4, none⟩ = some (.int .i8 s.n) := far_cell hb2 hgrow y2 hvb1
      have hqf : w3.frozen? ⟨n + 4, 4, none⟩ = false := far_frozen hb2 hgrow hYn y4 hvb
      refine hK.out _ _ (fun hne => ⟨hq0, hq1, hq2⟩) ?_
      clear hK K
      try simp only [Act.put, List.setIfInBounds_toArray, List.set_cons_zero, List.set_cons_succ]
      refine wpAnyF_one (i := 13) (by kernel_rfl) rfl (fun K hK => ?_)
      go_simp
      refine hK.out _ _ (fun hne => ⟨hq0, hq1, hq2⟩) ?_
      clear hK K
      try simp only [Act.put, List.setIfInBounds_toArray, List.set_cons_zero, List.set_cons_succ]
      refine wpAnyF_one (i := 14) (by kernel_rfl) rfl (fun K hK => ?_)
      go_simp
      refine hK.out _ _ (fun hne => absurd rfl hne) ?_
      clear hK K
      try simp only [Act.put, List.setIfInBounds_toArray, List.set_cons_zero, List.set_cons_succ]
      refine wpAnyF_done (by kernel_rfl) ?_ _
      go_wp2_with fail
      go_meet
      have hyw := ((HC6.out.drew.keep hb2).far hgrow (fun g hg => (HXo.out.own.lt g hg).1)).set 4 (.slice (some ⟨g, 0, none⟩) (qn + 2) cap) rfl
      have hxo := HXo.out.drew.app (ns := [((aExpr s.a s.n), q), (aNum kw, none)]) (m := 2) hYs hb2 (by intro z hz; simp only [List.mem_cons, List.not_mem_nil, or_false] at hz; rcases hz with rfl | rfl; exact hpx; exact px_num_Kh _ _ _) rfl hgrow hat (cap := cap) (by rw [HQN.out, show qcs [((aExpr s.a s.n), q), (aNum kw, none)] = exc s0 ex ey s1 q en ++ exc t0 fx fy t1 none fn by simp [qcs, HEQ.out, HEQ2.out]]; exact hown)
      rw [HQN.out] at hxo
      exact ⟨_, _, hyw, hxo.setY 4 _, by rw [List.map_append, HQ0.out, HKW.out]; rfl, by simp⟩
    case rest =>
      obtain ⟨v', qs', hYw, hXo, hqs, hnil⟩ := hcut
      obtain ⟨px, cx, rfl, hxv⟩ := hXo.read hnil
      have HYW := Lib.hid hYw
      have HXV := Lib.hid hxv
      have HQ := Lib.hid hqs
      have r0 : wc.cell? ⟨n + 4, 0, none⟩ = some (.int .i64 5) := hYw.yC 0
      have r1 : wc.cell? ⟨n + 4, 1, none⟩ = some (.string ⟨#[aReg s.c]⟩) := hYw.yC 1
      have r2 : wc.cell? ⟨n + 4, 2, none⟩ = some (.string ⟨((lett 120 s.b (1 + x.ce % 3)) : List UInt8).toArray⟩) := hYw.yC 2
      have r3 : wc.cell? ⟨n + 4, 3, none⟩ = some (.bool false) := hYw.yC 3
      have r4 : wc.cell? ⟨n + 4, 4, none⟩ = some (.slice px (qs'.map Prod.fst).length cx) := hYw.yC 4
      have r5 : wc.cell? ⟨n + 4, 5, none⟩ = some (.slice none 0 0) := hYw.yC 5
      have r6 : wc.cell? ⟨n + 4, 6, none⟩ = some (.slice none 0 0) := hYw.yC 6
      have r7 : wc.cell? ⟨n + 4, 7, none⟩ = some (.int .i64 0) := hYw.yC 7
      have f0 := hYw.rF 0
      have f1 := hYw.rF 1
      have f2 := hYw.rF 2
      have f3 := hYw.rF 3
      have f4 := hYw.rF 4
      have f5 := hYw.rF 5
      have f6 := hYw.rF 6
      have f7 := hYw.rF 7
      have t0 : wc.cell? ⟨n + 2, 0, none⟩ = some (.int .i64 0) := hYw.rC 0
      have t1 : wc.cell? ⟨n + 2, 1, none⟩ = some (.string ⟨#[]⟩) := hYw.rC 1
      have t2 : wc.cell? ⟨n + 2, 2, none⟩ = some (.string ⟨#[]⟩) := hYw.rC 2
      have t3 : wc.cell? ⟨n + 2, 3, none⟩ = some (.bool false) := hYw.rC 3
      have t4 : wc.cell? ⟨n + 2, 4, none⟩ = some (.slice none 0 0) := hYw.rC 4
      have t5 : wc.cell? ⟨n + 2, 5, none⟩ = some (.slice none 0 0) := hYw.rC 5
      have t6 : wc.cell? ⟨n + 2, 6, none⟩ = some (.slice none 0 0) := hYw.rC 6
      have t7 : wc.cell? ⟨n + 2, 7, none⟩ = some (.int .i64 0) := hYw.rC 7
      have hlx : (qs'.map Prod.fst).length = ([aExpr s.a s.n, aNum (IntKind.i8.wrap (s.n + 1))] : List Ex).length := by rw [hqs]
      rw [hlx] at r4
      clear hYw hxv hqs hnil hXo hlx
      go_wp2
      obtain ⟨z1, z2⟩ := fin8 HN.out HYW.out.bel HYW.out.size HXV.out _ _ _ _ _ _ _ _ _ rfl
      rw [HQ.out] at z1
      refine bodyPost_ret (v := .tuple #[.agg #[.int .i64 5, .string ⟨#[aReg s.c]⟩, .string ⟨((lett 120 s.b (1 + x.ce % 3)) : List UInt8).toArray⟩, .bool false, .slice px ([aExpr s.a s.n, aNum (IntKind.i8.wrap (s.n + 1))] : List Ex).length cx, .slice none 0 0, .slice none 0 0, .int .i64 0], .bool true]) (by simp [results, Tryd.results40, go_sem, t0, t1, t2, t3, t4, t5, t6, t7]) rfl ⟨px, cx, rfl, z1, z2⟩

set_option maxRecDepth 100000 in
set_option maxHeartbeats 6400000 in
theorem mk_6i (x : Sml) (p : Option Addr) (c : Nat) (s : S5) (hx : Smok x) (hs : S5ok s) (hm : (s.d : Int) % 19 = 6) (hA : ((s.b : Int) % 4 == 3) = true) (hB : 0 < (x.ar : Int) % 4) (w : World) : Calls Tryd.prog 40 #[smv x p c, s5v s] w (MkS w 5 [aReg s.c] [118] true [aExpr (s.b / 4 % 7) ((s.b / 32 : Nat) : Int), aExpr s.a s.n, aNum (IntKind.i8.wrap (s.n + 1))] true) := by
  have hst := store_cx
  obtain ⟨n, hn⟩ : ∃ n, w.heap.size = n := ⟨_, rfl⟩
  have HN := Lib.hid hn
  have HY0 := fun o => Lib.hid (Yw.start w n hn x p c s 5 o)
  have HSO := Lib.hid hs
  have HXO := Lib.hid hx
  obtain ⟨i0, hi, hz0, hz1, hz2⟩ := info_parts e_info
  have HI := Lib.hid hi
  have HZ0 := Lib.hid hz0
  have HZ1 := Lib.hid hz1
  have HZ2 := Lib.hid hz2
  unfold xbox s5box ybox at HY0
  have hdd := hs.d
  have hbb := hs.b
  have hcc := hs.c
  have haa := hs.a
  obtain ⟨hnn0, hnn1⟩ := hs.n
  have hxc := hx.ce
  have hxa := hx.ar
  have hxm := hx.mu
  have hxs := hx.se
  have hxt := hx.th
  clear hx hs hi hz0 hz1 hz2
  unfold smv s5v
  go_enter Tryd.func40, Tryd.ntmps40
  go_upto_block 0 with fail
  obtain ⟨W, hW⟩ : ∃ W, ((((w.alloc (.cells #[.int .u8 (x.ce : Int), .int .u8 (x.ar : Int), .int .u8 (x.mu : Int), .int .u8 (x.se : Int), .int .u8 (x.bu : Int), .int .i8 x.n, .slice p x.th.length c] 33)).alloc (.cells #[.int .u8 (s.d : Int), .int .u8 (s.a : Int), .int .u8 (s.b : Int), .int .u8 (s.c : Int), .int .i8 s.n] 85)).alloc (.cells #[.int .i64 0, .string ⟨#[]⟩, .string ⟨#[]⟩, .bool false, .slice none 0 0, .slice none 0 0, .slice none 0 0, .int .i64 0] 87)).alloc (.cells #[.int .i64 2, .int .i64 1, .int .i64 2, .int .i64 1, .int .i64 3, .int .i64 4, .int .i64 5, .int .i64 6, .int .i64 7, .int .i64 8, .int .i64 9, .int .i64 10, .int .i64 11, .int .i64 12, .int .i64 13, .int .i64 14, .int .i64 15, .int .i64 16, .int .i64 0] 26)).alloc (.cells #[.int .i64 5, .string ⟨#[]⟩, .string ⟨#[]⟩, .bool false, .slice none 0 0, .slice none 0 0, .slice none 0 0, .int .i64 0] 87) = W := ⟨_, rfl⟩
  have HY : Hid (Yw w W n x p c s 5 ⟨#[]⟩ ⟨#[]⟩ false (.slice none 0 0)) := Lib.hid (by rw [← hW]; exact (HY0 _).out)
  rw [hW]
  clear hW hn HY0
  simp only [Nat.add_assoc, Nat.reduceAdd]
  go_cut [8] (fun u8 wx => u8 = .bool true ∧ ∃ v qs, Yw w wx n x p c s 5 ⟨#[]⟩ ⟨#[118]⟩ true v ∧ Xo wx n qs v ∧ qs.map Prod.fst = [aExpr (s.b / 4 % 7) ((s.b / 32 : Nat) : Int)] ∧ (qs = [] → v = .slice none 0 0))
  case first =>
    have x1 : W.cell? ⟨n, 1, none⟩ = some (.int .u8 (x.ar : Int)) := HY.out.xC 1
    have x2 := HY.out.sB
    have x3 : W.cell? ⟨n + 4, 2, none⟩ = some (.string ⟨#[]⟩) := HY.out.yC 2
    have x4 := HY.out.yF 2
    have x5 : W.cell? ⟨n + 4, 3, none⟩ = some (.bool false) := HY.out.yC 3
    have x6 := HY.out.yF 3
    go_upto_region 6 with fail
    have HC6 : Hid (Yw w ((W.setCell ⟨n + 4, 2, none⟩ (.string ⟨#[118]⟩)).setCell ⟨n + 4, 3, none⟩ (.bool true)) n x p c s 5 ⟨#[]⟩ ⟨#[118]⟩ true (.slice none 0 0)) := Lib.hid ((HY.out.set 2 _ rfl).set 3 _ rfl)
    obtain ⟨Y, hY⟩ : ∃ Y, (W.setCell ⟨n + 4, 2, none⟩ (.string ⟨#[118]⟩)).setCell ⟨n + 4, 3, none⟩ (.bool true) = Y := ⟨_, rfl⟩
    rw [hY] at HC6 ⊢
    clear hY x1 x2 x3 x4 x5 x6
    have HXo : Hid (Xo Y n [] (.slice none 0 0)) := Lib.hid (Xo.nil _ _)
    obtain ⟨ka, hka⟩ : ∃ ka : Nat, s.b / 4 % 7 = ka := ⟨_, rfl⟩
    obtain ⟨kn, hkn⟩ : ∃ kn : Nat, s.b / 32 = kn := ⟨_, rfl⟩
    have hk1 : (IntKind.u8.wrap ((s.b : Int) / 4)).tmod 7 = (ka : Int) := by rw [wr_u8 (by omega) (by omega), Int.tmod_eq_emod_of_nonneg (by omega)]; omega
    have hk2 : IntKind.i8.wrap (IntKind.u8.wrap (kn : Int)) = (kn : Int) := by rw [wr_u8 (by omega) (by omega), wr_i8 (by omega) (by omega)]
    have hkn1 : (s.b : Int) / 32 = (kn : Int) := by omega
    have hkab : ka < 256 := by omega
    have hknb : kn ≤ 7 := by omega
    have HKA := Lib.hid hka
    have HKN := Lib.hid hkn
    clear hka hkn
    have y1 := HC6.out.sB
    have y3 : Y.cell? ⟨n + 4, 4, none⟩ = some (.slice none 0 0) := HC6.out.yC 4
    have y4 := HC6.out.yF 4
    have hYs := HC6.out.size
    have hYn : n + 4 < Y.heap.size := by omega
    have hYn1 : n + 1 < Y.heap.size := by omega
    have hvb : some (n + 4) ≠ ((.slice none 0 0) : Value).ownBlock := by intro h; have := (HXo.out.own.lt _ h.symm).1; omega
    have hvb1 : some (n + 1) ≠ ((.slice none 0 0) : Value).ownBlock := by intro h; have := (HXo.out.own.lt _ h.symm).1; omega
    obtain ⟨s0, hs0⟩ : ∃ s0, opB (aExpr ka (kn : Int)) = s0 := ⟨_, rfl⟩
    obtain ⟨s1, hs1⟩ : ∃ s1, nmB (aExpr ka (kn : Int)) = s1 := ⟨_, rfl⟩
    obtain ⟨ex, hex⟩ : ∃ ex, nxB (aExpr ka (kn : Int)) = ex := ⟨_, rfl⟩
    obtain ⟨ey, hey⟩ : ∃ ey, nyB (aExpr ka (kn : Int)) = ey := ⟨_, rfl⟩
    obtain ⟨en, hen⟩ : ∃ en, npB (aExpr ka (kn : Int)) = en := ⟨_, rfl⟩
    have HEX : Hid (∀ w, Calls Tryd.prog 50 #[.int .u8 (ka : Int), .int .i8 (kn : Int)] w fun e w' => ∃ q, e = .returned (.agg #[.string s0, .complex .f64 ex ey, .string s1, .slice q en en]) ∧ Px w' (fun g => w.heap.size ≤ g ∧ g < w'.heap.size) (aExpr ka (kn : Int)) q ∧ Below w.heap.size w w') :=
      Lib.hid (fun w => (expr_any ka (kn : Int) hkab (by omega) (by omega) w).mono fun e w' ⟨q, h1, h2⟩ => ⟨q, by rw [h1, ← hs0, ← hs1, ← hex, ← hey, ← hen]; rfl, h2⟩)
    have HEQ : Hid (∀ q, exq (aExpr ka (kn : Int)) q = exc s0 ex ey s1 q en) := Lib.hid (fun q => by unfold exq; rw [hs0, hs1, hex, hey, hen])
    clear hs0 hs1 hex hey hen
    obtain ⟨qn, hqn⟩ : ∃ qn, ([] : List (Ex × Option Addr)).length = qn := ⟨_, rfl⟩
    have hqb : qn ≤ 1 := by rw [← hqn]; first | exact hql | simp
    have HQN := Lib.hid hqn
    have HOW : Hid (Y.ownsRow (n + 5) 48 4 (.slice none 0 0) qn (qcs [])) := Lib.hid (by rw [← hqn]; exact HXo.out.own)
    clear hqn
    go_wp2
    refine wp_region_lapse (by kernel_rfl) (fun w' => w'.cell? ⟨n + 4, 4, none⟩ = some (.slice none 0 0) ∧ w'.cell? ⟨n + 1, 2, none⟩ = some (.int .u8 (s.b : Int))) 14 ?_
    have hS0 : Y.drew.cell? ⟨n + 4, 4, none⟩ = some (.slice none 0 0) ∧ Y.drew.cell? ⟨n + 1, 2, none⟩ = some (.int .u8 (s.b : Int)) := ⟨y3, y1⟩
    refine wpAnyF_take (i := 0) (v := ?v6x0) rfl (by kernel_rfl) (by kernel_rfl) (by kernel_rfl) (by kernel_rfl) (fun _ _ _ h => h) (Or.inl ⟨by rfl, ?h6x0⟩) hS0 ?_
    case h6x0 => (intro w hSw; (try dsimp only at hSw); go_simp; try with_reducible rfl)
    simp only [Act.put, List.setIfInBounds_toArray, List.set_cons_zero, List.set_cons_succ]
    refine wpAnyF_take (i := 1) (v := ?v6x1) rfl (by kernel_rfl) (by kernel_rfl) (by kernel_rfl) (by kernel_rfl) (fun _ _ _ h => h) (Or.inl ⟨by rfl, ?h6x1⟩) hS0 ?_
    case h6x1 => (intro w hSw; (try dsimp only at hSw); go_simp; try with_reducible rfl)
    simp only [Act.put, List.setIfInBounds_toArray, List.set_cons_zero, List.set_cons_succ]
    refine wpAnyF_take (i := 2) (v := ?v6x2) rfl (by kernel_rfl) (by kernel_rfl) (by kernel_rfl) (by kernel_rfl) (fun _ _ _ h => h) (Or.inl ⟨by rfl, ?h6x2⟩) hS0 ?_
    case h6x2 => (intro w hSw; (try dsimp only at hSw); go_simp; try with_reducible rfl)
    simp only [Act.put, List.setIfInBounds_toArray, List.set_cons_zero, List.set_cons_succ]
    refine wpAnyF_take (i := 3) (v := ?v6x3) rfl (by kernel_rfl) (by kernel_rfl) (by kernel_rfl) (by kernel_rfl) (fun _ _ _ h => h) (Or.inl ⟨by rfl, ?h6x3⟩) hS0 ?_
    case h6x3 => (intro w hSw; (try dsimp only at hSw); go_simp; try with_reducible rfl)
    simp only [Act.put, List.setIfInBounds_toArray, List.set_cons_zero, List.set_cons_succ]
    refine wpAnyF_take (i := 4) (v := ?v6x4) rfl (by kernel_rfl) (by kernel_rfl) (by kernel_rfl) (by kernel_rfl) (fun _ _ _ h => h) (Or.inl ⟨by rfl, ?h6x4⟩) hS0 ?_
    case h6x4 => (intro w hSw; (try dsimp only at hSw); go_simp; try with_reducible rfl)
    simp only [Act.put, List.setIfInBounds_toArray, List.set_cons_zero, List.set_cons_succ]
    refine wpAnyF_take (i := 5) (v := ?v6x5) rfl (by kernel_rfl) (by kernel_rfl) (by kernel_rfl) (by kernel_rfl) (fun _ _ _ h => h) (Or.inl ⟨by rfl, ?h6x5⟩) hS0 ?_
    case h6x5 => (intro w hSw; (try dsimp only at hSw); go_simp; try with_reducible rfl)
    simp only [Act.put, List.setIfInBounds_toArray, List.set_cons_zero, List.set_cons_succ]
    refine wpAnyF_take (i := 6) (v := ?v6x6) rfl (by kernel_rfl) (by kernel_rfl) (by kernel_rfl) (by kernel_rfl) (fun _ _ _ h => h) (Or.inl ⟨by rfl, ?h6x6⟩) hS0 ?_
    case h6x6 => (intro w hSw; (try dsimp only at hSw); go_simp; try with_reducible rfl)
    simp only [Act.put, List.setIfInBounds_toArray, List.set_cons_zero, List.set_cons_succ]
    refine wpAnyF_take (i := 7) (v := ?v6x7) rfl (by kernel_rfl) (by kernel_rfl) (by kernel_rfl) (by kernel_rfl) (fun _ _ _ h => h) (Or.inl ⟨by rfl, ?h6x7⟩) hS0 ?_
    case h6x7 => (intro w hSw; (try dsimp only at hSw); go_simp; try with_reducible rfl)
    simp only [Act.put, List.setIfInBounds_toArray, List.set_cons_zero, List.set_cons_succ]
    refine wpAnyF_take (i := 8) (v := ?v6x8) rfl (by kernel_rfl) (by kernel_rfl) (by kernel_rfl) (by kernel_rfl) (fun _ _ _ h => h) (Or.inl ⟨by rfl, ?h6x8⟩) hS0 ?_
    case h6x8 => (intro w hSw; (try dsimp only at hSw); go_simp; try with_reducible rfl)
    simp only [Act.put, List.setIfInBounds_toArray, List.set_cons_zero, List.set_cons_succ]
    refine wpAnyF_take (i := 9) (v := ?v6x9) rfl (by kernel_rfl) (by kernel_rfl) (by kernel_rfl) (by kernel_rfl) (fun _ _ _ h => h) (Or.inl ⟨by rfl, ?h6x9⟩) hS0 ?_
    case h6x9 => (intro w hSw; (try dsimp only at hSw); go_simp; try with_reducible rfl)
    simp only [Act.put, List.setIfInBounds_toArray, List.set_cons_zero, List.set_cons_succ]
    clear hS0
    refine wpAnyF_one (i := 10) (by kernel_rfl) rfl (fun K hK => ?_)
    go_simp
    go_at_call 50
    refine (HEX.out _).mono ?_
    rintro e w2 ⟨q, rfl, hpx, hb2⟩
    have hs0 : w2.cell? ⟨n + 4, 4, none⟩ = some (.slice none 0 0) := (hb2.cell (p := ⟨n + 4, 4, none⟩) hYn).trans y3
    have hs1 : w2.cell? ⟨n + 1, 2, none⟩ = some (.int .u8 (s.b : Int)) := (hb2.cell (p := ⟨n + 1, 2, none⟩) hYn1).trans y1
    have hz2 : n + 5 ≤ w2.heap.size := Nat.le_trans (by simp; omega) hb2.size
    have hz3 : n + 4 < w2.heap.size := by omega
    have ow2 : w2.ownsRow (n + 5) 48 4 (.slice none 0 0) qn (qcs []) := own_below (w := Y.drew) HOW.out hb2
    refine hK.out _ _ (fun hne => ⟨hs0, hs1⟩) ?_
    clear hK K
    try simp only [Act.put, List.setIfInBounds_toArray, List.set_cons_zero, List.set_cons_succ]
    refine wpAnyF_one (i := 11) (by kernel_rfl) rfl (fun K hK => ?_)
    go_simp
    refine hK.out _ _ (fun hne => ⟨al_cell hs0 _, al_cell hs1 _⟩) ?_
    clear hK K
    try simp only [Act.put, List.setIfInBounds_toArray, List.set_cons_zero, List.set_cons_succ]
    refine wpAnyF_one (i := 12) (by kernel_rfl) rfl (fun K hK => ?_)
    refine step_append_lies _ (by rfl) (.tmp 39) (.tmp 49) 46 (by rfl) (n + 5) 48 i0 _ 4 72 Tryd.underlying46 HI.out HZ0.out HZ1.out HZ2.out rfl (by decide) (.slice none 0 0) qn (qcs []) (by rfl) (ow2.alloc _) ⟨w2.heap.size, 0, none⟩ 1 1 (exc s0 ex ey s1 q en) (by rfl) (by rfl) (new_cells w2 (exc s0 ex ey s1 q en) 48) (exc_one _ _ _ _ _ _) (by decide) (by unfold maxLen; omega) (by omega) (by simp; omega) (w2.heap.size + 1) (by simp) ?_
    intro g cap w3 hown hgrow hat hlt
    have hq0 : w3.cell? ⟨n + 4, 4, none⟩ = some (.slice none 0 0) := far_cell hb2 hgrow y3 hvb
    have hq1 : w3.cell? ⟨n + 1, 2, none⟩ = some (.int .u8 (s.b : Int)) := far_cell hb2 hgrow y1 hvb1
    have hqf : w3.frozen? ⟨n + 4, 4, none⟩ = false := far_frozen hb2 hgrow hYn y4 hvb
    refine hK.out _ _ (fun hne => ⟨hq0, hq1⟩) ?_
    clear hK K
    try simp only [Act.put, List.setIfInBounds_toArray, List.set_cons_zero, List.set_cons_succ]
    refine wpAnyF_one (i := 13) (by kernel_rfl) rfl (fun K hK => ?_)
    go_simp
    refine hK.out _ _ (fun hne => ⟨hq0, hq1⟩) ?_
    clear hK K
    try simp only [Act.put, List.setIfInBounds_toArray, List.set_cons_zero, List.set_cons_succ]
    refine wpAnyF_one (i := 14) (by kernel_rfl) rfl (fun K hK => ?_)
    go_simp
    refine hK.out _ _ (fun hne => absurd rfl hne) ?_
    clear hK K
    try simp only [Act.put, List.setIfInBounds_toArray, List.set_cons_zero, List.set_cons_succ]
    refine wpAnyF_done (by kernel_rfl) ?_ _
    go_wp2_with fail
    go_meet
    have hyw := ((HC6.out.drew.keep hb2).far hgrow (fun g hg => (HXo.out.own.lt g hg).1)).set 4 (.slice (some ⟨g, 0, none⟩) (qn + 1) cap) rfl
    have hxo := HXo.out.drew.app (ns := [((aExpr ka (kn : Int)), q)]) (m := 1) hYs hb2 (by intro z hz; simp only [List.mem_cons, List.not_mem_nil, or_false] at hz; subst hz; exact hpx) rfl hgrow hat (cap := cap) (by rw [HQN.out, show qcs [((aExpr ka (kn : Int)), q)] = exc s0 ex ey s1 q en by simp [qcs, HEQ.out]]; exact hown)
    rw [HQN.out] at hxo
    exact ⟨rfl, _, _, hyw, hxo.setY 4 _, by rw [HKA.out, HKN.out]; rfl, by simp⟩
  case rest =>
    obtain ⟨rfl, v, qs, hcut, hXo, hq0, hnil0⟩ := hcut
    have HXN := Lib.hid hXo
    have HQ0 := Lib.hid hq0
    have HNIL := Lib.hid hnil0
    have hql : qs.length ≤ 1 := by have := congrArg List.length hq0; rw [List.length_map] at this; simp only [List.length_nil, List.length_cons] at this; omega
    clear hXo hq0 hnil0
    have HC := Lib.hid hcut
    have z1 : wc.cell? ⟨n + 1, 3, none⟩ = some (.int .u8 (s.c : Int)) := hcut.sC
    clear hcut
    go_wp2_with fail
    refine (reg_any s.c hcc _).mono ?_
    rintro e w5 ⟨rfl, hb5⟩
    have HC5 := Lib.hid (HC.out.keep hb5)
    have HX5 := Lib.hid ((HXN.out.keep hb5).setY 1 (.string ⟨#[aReg s.c]⟩))
    have z2 : w5.cell? ⟨n + 4, 1, none⟩ = some (.string ⟨#[]⟩) := HC5.out.yC 1
    have z3 := HC5.out.yF 1
    clear hb5 z1
    go_upto_block 1 with fail
    have HC6 : Hid (Yw w (w5.setCell ⟨n + 4, 1, none⟩ (.string ⟨#[aReg s.c]⟩)) n x p c s 5 ⟨#[aReg s.c]⟩ ⟨([118] : List UInt8).toArray⟩ true v) := Lib.hid (HC5.out.set 1 _ rfl)
    obtain ⟨Y, hY⟩ : ∃ Y, w5.setCell ⟨n + 4, 1, none⟩ (.string ⟨#[aReg s.c]⟩) = Y := ⟨_, rfl⟩
    rw [hY] at HC6 HX5 ⊢
    have HXo := HX5
    clear hY z2 z3 HC5
    go_cut [160] (fun _ wx => ∃ v qs, Yw w wx n x p c s 5 ⟨#[aReg s.c]⟩ ⟨([118] : List UInt8).toArray⟩ true v ∧ Xo wx n qs v ∧ qs.map Prod.fst = [aExpr (s.b / 4 % 7) ((s.b / 32 : Nat) : Int), aExpr s.a s.n, aNum (IntKind.i8.wrap (s.n + 1))] ∧ (qs = [] → v = .slice none 0 0))
    case first =>
      have y1 := HC6.out.sA
      have y2 := HC6.out.sN
      have y3 : Y.cell? ⟨n + 4, 4, none⟩ = some v := HC6.out.yC 4
      have y4 := HC6.out.yF 4
      have hYs := HC6.out.size
      have hYn : n + 4 < Y.heap.size := by omega
      have hYn1 : n + 1 < Y.heap.size := by omega
      have hvb : some (n + 4) ≠ (v : Value).ownBlock := by intro h; have := (HXo.out.own.lt _ h.symm).1; omega
      have hvb1 : some (n + 1) ≠ (v : Value).ownBlock := by intro h; have := (HXo.out.own.lt _ h.symm).1; omega
      obtain ⟨s0, hs0⟩ : ∃ s0, opB (aExpr s.a s.n) = s0 := ⟨_, rfl⟩
      obtain ⟨s1, hs1⟩ : ∃ s1, nmB (aExpr s.a s.n) = s1 := ⟨_, rfl⟩
      obtain ⟨ex, hex⟩ : ∃ ex, nxB (aExpr s.a s.n) = ex := ⟨_, rfl⟩
      obtain ⟨ey, hey⟩ : ∃ ey, nyB (aExpr s.a s.n) = ey := ⟨_, rfl⟩
      obtain ⟨en, hen⟩ : ∃ en, npB (aExpr s.a s.n) = en := ⟨_, rfl⟩
      have HEX : Hid (∀ w, Calls Tryd.prog 50 #[.int .u8 (s.a : Int), .int .i8 s.n] w fun e w' => ∃ q, e = .returned (.agg #[.string s0, .complex .f64 ex ey, .string s1, .slice q en en]) ∧ Px w' (fun g => w.heap.size ≤ g ∧ g < w'.heap.size) (aExpr s.a s.n) q ∧ Below w.heap.size w w') :=
        Lib.hid (fun w => (expr_any s.a s.n haa hnn0 hnn1 w).mono fun e w' ⟨q, h1, h2⟩ => ⟨q, by rw [h1, ← hs0, ← hs1, ← hex, ← hey, ← hen]; rfl, h2⟩)
      have HEQ : Hid (∀ q, exq (aExpr s.a s.n) q = exc s0 ex ey s1 q en) := Lib.hid (fun q => by unfold exq; rw [hs0, hs1, hex, hey, hen])
      clear hs0 hs1 hex hey hen
      obtain ⟨kw, hkw⟩ : ∃ kw : Int, IntKind.i8.wrap (s.n + 1) = kw := ⟨_, rfl⟩
      have hkb : -128 ≤ kw ∧ kw ≤ 127 := by rw [← hkw]; simp [IntKind.wrap, IntKind.bits, IntKind.signed]; omega
      obtain ⟨t0, ht0⟩ : ∃ t0, opB (aNum kw) = t0 := ⟨_, rfl⟩
      obtain ⟨t1, ht1⟩ : ∃ t1, nmB (aNum kw) = t1 := ⟨_, rfl⟩
      obtain ⟨fx, hfx⟩ : ∃ fx, nxB (aNum kw) = fx := ⟨_, rfl⟩
      obtain ⟨fy, hfy⟩ : ∃ fy, nyB (aNum kw) = fy := ⟨_, rfl⟩
      obtain ⟨fn, hfn⟩ : ∃ fn, npB (aNum kw) = fn := ⟨_, rfl⟩
      have HNU : Hid (∀ w, Calls Tryd.prog 19 #[.int .i8 kw] w fun e w' => e = .returned (.agg #[.string t0, .complex .f64 fx fy, .string t1, .slice none fn fn]) ∧ Below w.heap.size w w') :=
        Lib.hid (fun w => (num_any kw hkb.1 hkb.2 w).mono fun e w' ⟨h1, h2⟩ => ⟨by rw [h1, ← ht0, ← ht1, ← hfx, ← hfy, ← hfn]; rfl, h2⟩)
      have HEQ2 : Hid (exq (aNum kw) none = exc t0 fx fy t1 none fn) := Lib.hid (by unfold exq; rw [ht0, ht1, hfx, hfy, hfn])
      have HKW := Lib.hid hkw
      clear ht0 ht1 hfx hfy hfn
      obtain ⟨qn, hqn⟩ : ∃ qn, (qs : List (Ex × Option Addr)).length = qn := ⟨_, rfl⟩
      have hqb : qn ≤ 1 := by rw [← hqn]; first | exact hql | simp
      have HQN := Lib.hid hqn
      have HOW : Hid (Y.ownsRow (n + 5) 48 4 v qn (qcs qs)) := Lib.hid (by rw [← hqn]; exact HXo.out.own)
      clear hqn
      go_wp2
      refine wp_region_lapse (by kernel_rfl) (fun w' => w'.cell? ⟨n + 4, 4, none⟩ = some v ∧ w'.cell? ⟨n + 1, 1, none⟩ = some (.int .u8 (s.a : Int)) ∧ w'.cell? ⟨n + 1, 4, none⟩ = some (.int .i8 s.n)) 14 ?_
      have hS0 : Y.drew.cell? ⟨n + 4, 4, none⟩ = some v ∧ Y.drew.cell? ⟨n + 1, 1, none⟩ = some (.int .u8 (s.a : Int)) ∧ Y.drew.cell? ⟨n + 1, 4, none⟩ = some (.int .i8 s.n) := ⟨y3, y1, y2⟩
      refine wpAnyF_take (i := 0) (v := ?v30x0) rfl (by kernel_rfl) (by kernel_rfl) (by kernel_rfl) (by kernel_rfl) (fun _ _ _ h => h) (Or.inl ⟨by rfl, ?h30x0⟩) hS0 ?_
      case h30x0 => (intro w hSw; (try dsimp only at hSw); go_simp; try with_reducible rfl)
      simp only [Act.put, List.setIfInBounds_toArray, List.set_cons_zero, List.set_cons_succ]
      refine wpAnyF_take (i := 1) (v := ?v30x1) rfl (by kernel_rfl) (by kernel_rfl) (by kernel_rfl) (by kernel_rfl) (fun _ _ _ h => h) (Or.inl ⟨by rfl, ?h30x1⟩) hS0 ?_
      case h30x1 => (intro w hSw; (try dsimp only at hSw); go_simp; try with_reducible rfl)
      simp only [Act.put, List.setIfInBounds_toArray, List.set_cons_zero, List.set_cons_succ]
      refine wpAnyF_take (i := 2) (v := ?v30x2) rfl (by kernel_rfl) (by kernel_rfl) (by kernel_rfl) (by kernel_rfl) (fun _ _ _ h => h) (Or.inl ⟨by rfl, ?h30x2⟩) hS0 ?_
      case h30x2 => (intro w hSw; (try dsimp only at hSw); go_simp; try with_reducible rfl)
      simp only [Act.put, List.setIfInBounds_toArray, List.set_cons_zero, List.set_cons_succ]
      refine wpAnyF_take (i := 3) (v := ?v30x3) rfl (by kernel_rfl) (by kernel_rfl) (by kernel_rfl) (by kernel_rfl) (fun _ _ _ h => h) (Or.inl ⟨by rfl, ?h30x3⟩) hS0 ?_
      case h30x3 => (intro w hSw; (try dsimp only at hSw); go_simp; try with_reducible rfl)
      simp only [Act.put, List.setIfInBounds_toArray, List.set_cons_zero, List.set_cons_succ]
      refine wpAnyF_take (i := 4) (v := ?v30x4) rfl (by kernel_rfl) (by kernel_rfl) (by kernel_rfl) (by kernel_rfl) (fun _ _ _ h => h) (Or.inl ⟨by rfl, ?h30x4⟩) hS0 ?_
      case h30x4 => (intro w hSw; (try dsimp only at hSw); go_simp; try with_reducible rfl)
      simp only [Act.put, List.setIfInBounds_toArray, List.set_cons_zero, List.set_cons_succ]
      refine wpAnyF_take (i := 5) (v := ?v30x5) rfl (by kernel_rfl) (by kernel_rfl) (by kernel_rfl) (by kernel_rfl) (fun _ _ _ h => h) (Or.inl ⟨by rfl, ?h30x5⟩) hS0 ?_
      case h30x5 => (intro w hSw; (try dsimp only at hSw); go_simp; try with_reducible rfl)
      simp only [Act.put, List.setIfInBounds_toArray, List.set_cons_zero, List.set_cons_succ]
      refine wpAnyF_take (i := 7) (v := ?v30x7) rfl (by kernel_rfl) (by kernel_rfl) (by kernel_rfl) (by kernel_rfl) (fun _ _ _ h => h) (Or.inl ⟨by rfl, ?h30x7⟩) hS0 ?_
      case h30x7 => (intro w hSw; (try dsimp only at hSw); go_simp; try with_reducible rfl)
      simp only [Act.put, List.setIfInBounds_toArray, List.set_cons_zero, List.set_cons_succ]
      refine wpAnyF_take (i := 8) (v := ?v30x8) rfl (by kernel_rfl) (by kernel_rfl) (by kernel_rfl) (by kernel_rfl) (fun _ _ _ h => h) (Or.inl ⟨by rfl, ?h30x8⟩) hS0 ?_
      case h30x8 => (intro w hSw; (try dsimp only at hSw); go_simp; try with_reducible rfl)
      simp only [Act.put, List.setIfInBounds_toArray, List.set_cons_zero, List.set_cons_succ]
      refine wpAnyF_take (i := 9) (v := ?v30x9) rfl (by kernel_rfl) (by kernel_rfl) (by kernel_rfl) (by kernel_rfl) (fun _ _ _ h => h) (Or.inl ⟨by rfl, ?h30x9⟩) hS0 ?_
      case h30x9 => (intro w hSw; (try dsimp only at hSw); go_simp; try with_reducible rfl)
      simp only [Act.put, List.setIfInBounds_toArray, List.set_cons_zero, List.set_cons_succ]
      clear hS0
      refine wpAnyF_one (i := 6) (by kernel_rfl) rfl (fun K hK => ?_)
      go_simp
      go_at_call 50
      refine (HEX.out _).mono ?_
      rintro e wa ⟨q, rfl, hpa, hba⟩
      have ha0 : wa.cell? ⟨n + 4, 4, none⟩ = some v := (hba.cell (p := ⟨n + 4, 4, none⟩) hYn).trans y3
      have ha1 : wa.cell? ⟨n + 1, 1, none⟩ = some (.int .u8 (s.a : Int)) := (hba.cell (p := ⟨n + 1, 1, none⟩) hYn1).trans y1
      have ha2 : wa.cell? ⟨n + 1, 4, none⟩ = some (.int .i8 s.n) := (hba.cell (p := ⟨n + 1, 4, none⟩) hYn1).trans y2
      refine hK.out _ _ (fun hne => ⟨ha0, ha1, ha2⟩) ?_
      clear hK K
      try simp only [Act.put, List.setIfInBounds_toArray, List.set_cons_zero, List.set_cons_succ]
      refine wpAnyF_one (i := 10) (by kernel_rfl) rfl (fun K hK => ?_)
      go_simp
      go_at_call 19
      refine (HNU.out _).mono ?_
      rintro e w2 ⟨rfl, hbb2⟩
      have hb2 : Below Y.drew.heap.size Y.drew w2 := hba.trans (hbb2.mono hba.size)
      have hpx : Px w2 (fun g => Y.drew.heap.size ≤ g ∧ g < w2.heap.size) (aExpr s.a s.n) q := hpa.on (Same.below hbb2 (fun g hg => hg.2)) (fun g hg => ⟨hg.1, Nat.lt_of_lt_of_le hg.2 hbb2.size⟩)
      clear hba hbb2 hpa ha0 ha1 ha2
      have hs0 : w2.cell? ⟨n + 4, 4, none⟩ = some v := (hb2.cell (p := ⟨n + 4, 4, none⟩) hYn).trans y3
      have hs1 : w2.cell? ⟨n + 1, 1, none⟩ = some (.int .u8 (s.a : Int)) := (hb2.cell (p := ⟨n + 1, 1, none⟩) hYn1).trans y1
      have hs2 : w2.cell? ⟨n + 1, 4, none⟩ = some (.int .i8 s.n) := (hb2.cell (p := ⟨n + 1, 4, none⟩) hYn1).trans y2
      have hz2 : n + 5 ≤ w2.heap.size := Nat.le_trans (by simp; omega) hb2.size
      have hz3 : n + 4 < w2.heap.size := by omega
      have ow2 : w2.ownsRow (n + 5) 48 4 v qn (qcs qs) := own_below (w := Y.drew) HOW.out hb2
      refine hK.out _ _ (fun hne => ⟨hs0, hs1, hs2⟩) ?_
      clear hK K
      try simp only [Act.put, List.setIfInBounds_toArray, List.set_cons_zero, List.set_cons_succ]
      refine wpAnyF_one (i := 11) (by kernel_rfl) rfl (fun K hK => ?_)
      go_simp
      refine hK.out _ _ (fun hne => ⟨al_cell hs0 _, al_cell hs1 _, al_cell hs2 _⟩) ?_
      clear hK K
      try simp only [Act.put, List.setIfInBounds_toArray, List.set_cons_zero, List.set_cons_succ]
      refine wpAnyF_one (i := 12) (by kernel_rfl) rfl (fun K hK => ?_)
      refine step_append_lies _ (by rfl) (.tmp 165) (.tmp 175) 46 (by rfl) (n + 5) 48 i0 _ 4 72 Tryd.underlying46 HI.out HZ0.out HZ1.out HZ2.out rfl (by decide) v qn (qcs qs) (by rfl) (ow2.alloc _) ⟨w2.heap.size, 0, none⟩ 2 2 (exc s0 ex ey s1 q en ++ exc t0 fx fy t1 none fn) (by rfl) (by rfl) (new_cells w2 (exc s0 ex ey s1 q en ++ exc t0 fx fy t1 none fn) 48) (exc_two_Kh _ _ _ _ _ _ _ _ _ _ _ _) (by decide) (by unfold maxLen; omega) (by omega) (by simp; omega) (w2.heap.size + 1) (by simp) ?_
      intro g cap w3 hown hgrow hat hlt
      have hq0 : w3.cell? ⟨n + 4, 4, none⟩ = some v := far_cell hb2 hgrow y3 hvb
      have hq1 : w3.cell? ⟨n + 1, 1, none⟩ = some (.int .u8 (s.a : Int)) := far_cell hb2 hgrow y1 hvb1
      have hq2 : w3.cell? ⟨n + 1, 4, none⟩ = some (.int .i8 s.n) := far_cell hb2 hgrow y2 hvb1
      have hqf : w3.frozen? ⟨n + 4, 4, none⟩ = false := far_frozen hb2 hgrow hYn y4 hvb
      refine hK.out _ _ (fun hne => ⟨hq0, hq1, hq2⟩) ?_
      clear hK K
      try simp only [Act.put, List.setIfInBounds_toArray, List.set_cons_zero, List.set_cons_succ]
      refine wpAnyF_one (i := 13) (by kernel_rfl) rfl (fun K hK => ?_)
      go_simp
      refine hK.out _ _ (fun hne => ⟨hq0, hq1, hq2⟩) ?_
      clear hK K
      try simp only [Act.put, List.setIfInBounds_toArray, List.set_cons_zero, List.set_cons_succ]
      refine wpAnyF_one (i := 14) (by kernel_rfl) rfl (fun K hK => ?_)
      go_simp
      refine hK.out _ _ (fun hne => absurd rfl hne) ?_
      clear hK K
      try simp only [Act.put, List.setIfInBounds_toArray, List.set_cons_zero, List.set_cons_succ]
      refine wpAnyF_done (by kernel_rfl) ?_ _
      go_wp2_with fail
      go_meet
      have hyw := ((HC6.out.drew.keep hb2).far hgrow (fun g hg => (HXo.out.own.lt g hg).1)).set 4 (.slice (some ⟨g, 0, none⟩) (qn + 2) cap) rfl
      have hxo := HXo.out.drew.app (ns := [((aExpr s.a s.n), q), (aNum kw, none)]) (m := 2) hYs hb2 (by intro z hz; simp only [List.mem_cons, List.not_mem_nil, or_false] at hz; rcases hz with rfl | rfl; exact hpx; exact px_num_Kh _ _ _) rfl hgrow hat (cap := cap) (by rw [HQN.out, show qcs [((aExpr s.a s.n), q), (aNum kw, none)] = exc s0 ex ey s1 q en ++ exc t0 fx fy t1 none fn by simp [qcs, HEQ.out, HEQ2.out]]; exact hown)
      rw [HQN.out] at hxo
      exact ⟨_, _, hyw, hxo.setY 4 _, by rw [List.map_append, HQ0.out, HKW.out]; rfl, by simp⟩
    case rest =>
      obtain ⟨v', qs', hYw, hXo, hqs, hnil⟩ := hcut
      obtain ⟨px, cx, rfl, hxv⟩ := hXo.read hnil
      have HYW := Lib.hid hYw
      have HXV := Lib.hid hxv
      have HQ := Lib.hid hqs
      have r0 : wc.cell? ⟨n + 4, 0, none⟩ = some (.int .i64 5) := hYw.yC 0
      have r1 : wc.cell? ⟨n + 4, 1, none⟩ = some (.string ⟨#[aReg s.c]⟩) := hYw.yC 1
      have r2 : wc.cell? ⟨n + 4, 2, none⟩ = some (.string ⟨([118] : List UInt8).toArray⟩) := hYw.yC 2
      have r3 : wc.cell? ⟨n + 4, 3, none⟩ = some (.bool true) := hYw.yC 3
      have r4 : wc.cell? ⟨n + 4, 4, none⟩ = some (.slice px (qs'.map Prod.fst).length cx) := hYw.yC 4
      have r5 : wc.cell? ⟨n + 4, 5, none⟩ = some (.slice none 0 0) := hYw.yC 5
      have r6 : wc.cell? ⟨n + 4, 6, none⟩ = some (.slice none 0 0) := hYw.yC 6
      have r7 : wc.cell? ⟨n + 4, 7, none⟩ = some (.int .i64 0) := hYw.yC 7
      have f0 := hYw.rF 0
      have f1 := hYw.rF 1
      have f2 := hYw.rF 2
      have f3 := hYw.rF 3
      have f4 := hYw.rF 4
      have f5 := hYw.rF 5
      have f6 := hYw.rF 6
      have f7 := hYw.rF 7
      have t0 : wc.cell? ⟨n + 2, 0, none⟩ = some (.int .i64 0) := hYw.rC 0
      have t1 : wc.cell? ⟨n + 2, 1, none⟩ = some (.string ⟨#[]⟩) := hYw.rC 1
      have t2 : wc.cell? ⟨n + 2, 2, none⟩ = some (.string ⟨#[]⟩) := hYw.rC 2
      have t3 : wc.cell? ⟨n + 2, 3, none⟩ = some (.bool false) := hYw.rC 3
      have t4 : wc.cell? ⟨n + 2, 4, none⟩ = some (.slice none 0 0) := hYw.rC 4
      have t5 : wc.cell? ⟨n + 2, 5, none⟩ = some (.slice none 0 0) := hYw.rC 5
      have t6 : wc.cell? ⟨n + 2, 6, none⟩ = some (.slice none 0 0) := hYw.rC 6
      have t7 : wc.cell? ⟨n + 2, 7, none⟩ = some (.int .i64 0) := hYw.rC 7
      have hlx : (qs'.map Prod.fst).length = ([aExpr (s.b / 4 % 7) ((s.b / 32 : Nat) : Int), aExpr s.a s.n, aNum (IntKind.i8.wrap (s.n + 1))] : List Ex).length := by rw [hqs]
      rw [hlx] at r4
      clear hYw hxv hqs hnil hXo hlx
      go_wp2
      obtain ⟨z1, z2⟩ := fin8 HN.out HYW.out.bel HYW.out.size HXV.out _ _ _ _ _ _ _ _ _ rfl
      rw [HQ.out] at z1
      refine bodyPost_ret (v := .tuple #[.agg #[.int .i64 5, .string ⟨#[aReg s.c]⟩, .string ⟨([118] : List UInt8).toArray⟩, .bool true, .slice px ([aExpr (s.b / 4 % 7) ((s.b / 32 : Nat) : Int), aExpr s.a s.n, aNum (IntKind.i8.wrap (s.n + 1))] : List Ex).length cx, .slice none 0 0, .slice none 0 0, .int .i64 0], .bool true]) (by simp [results, Tryd.results40, go_sem, t0, t1, t2, t3, t4, t5, t6, t7]) rfl ⟨px, cx, rfl, z1, z2⟩
end Go.Proofs.YtmomdcnlhljhcaaDoor
