/- The law's statement, kind by kind (without an index, and but for Cas). -/
import Derived.Test.YtmomdcnlhljhcaaDoorMx
import Derived.Deep.RegionHeld3
import Derived.Deep.AppendLies
import Derived.Deep.RegionLaw
import Derived.BigRegion
import Derived.Deep.DeepCutAuto
import Derived.Deep.CutBlock
set_option linter.unusedSimpArgs false
set_option linter.unusedVariables false
namespace Go.Proofs.YtmomdcnlhljhcaaDoor
open Go.RowKit Ieee

set_option maxRecDepth 100000 in
set_option maxHeartbeats 6400000 in
theorem mk_1 (x : Sml) (p : Option Addr) (c : Nat) (s : S5) (hx : Smok x) (hs : S5ok s) (hm : (s.d : Int) % 19 = 1) (hA : ((s.b : Int) % 4 == 3) = false ∨ (((s.b : Int) % 4 == 3) = true ∧ (x.ar : Int) % 4 = 0)) (w : World) : Calls Tryd.prog 40 #[smv x p c, s5v s] w (MkS w 1 [aReg s.c] (lett 120 s.b (1 + x.ce % 3)) false [] true) := by
  have hst := store_cx
  obtain ⟨n, hn⟩ : ∃ n, w.heap.size = n := ⟨_, rfl⟩
  have HN := Lib.hid hn
  have HY0 := fun o => Lib.hid (Yw.start w n hn x p c s 1 o)
  have HSO := Lib.hid hs
  have HXO := Lib.hid hx
  obtain ⟨i0, hi, hz0, hz1, hz2⟩ := info_parts e_info
  have HI := Lib.hid hi
  have HZ0 := Lib.hid hz0
  have HZ1 := Lib.hid hz1
  have HZ2 := Lib.hid hz2
  unfold xbox s5box ybox at HY0
  have hdd := hs.d
  have hbb := hs.b
  have hcc := hs.c
  have haa := hs.a
  obtain ⟨hnn0, hnn1⟩ := hs.n
  have hxc := hx.ce
  have hxa := hx.ar
  have hxm := hx.mu
  have hxs := hx.se
  have hxt := hx.th
  clear hx hs hi hz0 hz1 hz2
  unfold smv s5v
  go_enter Tryd.func40, Tryd.ntmps40
  go_upto_block 0 with fail
  obtain ⟨W, hW⟩ : ∃ W, ((((w.alloc (.cells #[.int .u8 (x.ce : Int), .int .u8 (x.ar : Int), .int .u8 (x.mu : Int), .int .u8 (x.se : Int), .int .u8 (x.bu : Int), .int .i8 x.n, .slice p x.th.length c] 33)).alloc (.cells #[.int .u8 (s.d : Int), .int .u8 (s.a : Int), .int .u8 (s.b : Int), .int .u8 (s.c : Int), .int .i8 s.n] 85)).alloc (.cells #[.int .i64 0, .string ⟨#[]⟩, .string ⟨#[]⟩, .bool false, .slice none 0 0, .slice none 0 0, .slice none 0 0, .int .i64 0] 87)).alloc (.cells #[.int .i64 2, .int .i64 1, .int .i64 2, .int .i64 1, .int .i64 3, .int .i64 4, .int .i64 5, .int .i64 6, .int .i64 7, .int .i64 8, .int .i64 9, .int .i64 10, .int .i64 11, .int .i64 12, .int .i64 13, .int .i64 14, .int .i64 15, .int .i64 16, .int .i64 0] 26)).alloc (.cells #[.int .i64 1, .string ⟨#[]⟩, .string ⟨#[]⟩, .bool false, .slice none 0 0, .slice none 0 0, .slice none 0 0, .int .i64 0] 87) = W := ⟨_, rfl⟩
  have HY : Hid (Yw w W n x p c s 1 ⟨#[]⟩ ⟨#[]⟩ false (.slice none 0 0)) := Lib.hid (by rw [← hW]; exact (HY0 _).out)
  rw [hW]
  clear hW hn HY0
  simp only [Nat.add_assoc, Nat.reduceAdd]
  go_cut [8] (fun u8 wx => u8 = .bool true ∧ ∃ v qs, Yw w wx n x p c s 1 ⟨#[]⟩ ⟨((lett 120 s.b (1 + x.ce % 3)) : List UInt8).toArray⟩ false v ∧ Xo wx n qs v ∧ qs.map Prod.fst = [] ∧ (qs = [] → v = .slice none 0 0))
  case first =>
    have HMA := Lib.hid (fun w => many_any x.ce hxc w)
    have HLE := Lib.hid (fun w => letter_any 120 s.b (1 + x.ce % 3) hbb (by omega) (by omega) w)
    have x0 : W.cell? ⟨n, 0, none⟩ = some (.int .u8 (x.ce : Int)) := HY.out.xC 0
    have x1 : W.cell? ⟨n, 1, none⟩ = some (.int .u8 (x.ar : Int)) := HY.out.xC 1
    have x2 := HY.out.sB
    have x3 : W.cell? ⟨n + 4, 2, none⟩ = some (.string ⟨#[]⟩) := HY.out.yC 2
    have x4 := HY.out.yF 2
    rcases hA with hA | ⟨hA, hB⟩
    all_goals
      go_wp2
      go_region_held3 (fun w' => w'.cell? ⟨n, 0, none⟩ = some (.int .u8 (x.ce : Int)) ∧ w'.cell? ⟨n + 1, 2, none⟩ = some (.int .u8 (s.b : Int)))
        (first | exact ⟨x0, x2⟩ | assumption | exact ⟨by simp [go_sem, x0], by simp [go_sem, x2]⟩)
        (first
          | (go_at_call 25; refine (HMA.out _).mono ?_; rintro e w' ⟨rfl, rfl⟩)
          | (go_at_call 26; refine (HLE.out _).mono ?_; rintro e w' ⟨rfl, rfl⟩))
      all_goals (go_wp2_with fail; go_meet)
      case rel => exact ⟨rfl, _, [], (HY.out.set 2 _ rfl).drew, Xo.nil _ _, rfl, fun _ => rfl⟩
  case rest =>
    obtain ⟨rfl, v, qs, hcut, hXo, hq0, hnil0⟩ := hcut
    have HXN := Lib.hid hXo
    have HQ0 := Lib.hid hq0
    have HNIL := Lib.hid hnil0
    have hql : qs.length ≤ 1 := by have := congrArg List.length hq0; rw [List.length_map] at this; simp only [List.length_nil, List.length_cons] at this; omega
    clear hXo hq0 hnil0
    have HC := Lib.hid hcut
    have z1 : wc.cell? ⟨n + 1, 3, none⟩ = some (.int .u8 (s.c : Int)) := hcut.sC
    clear hcut
    go_wp2_with fail
    refine (reg_any s.c hcc _).mono ?_
    rintro e w5 ⟨rfl, hb5⟩
    have HC5 := Lib.hid (HC.out.keep hb5)
    have HX5 := Lib.hid ((HXN.out.keep hb5).setY 1 (.string ⟨#[aReg s.c]⟩))
    have z2 : w5.cell? ⟨n + 4, 1, none⟩ = some (.string ⟨#[]⟩) := HC5.out.yC 1
    have z3 := HC5.out.yF 1
    clear hb5 z1
    go_upto_block 1 with fail
    have HC6 : Hid (Yw w (w5.setCell ⟨n + 4, 1, none⟩ (.string ⟨#[aReg s.c]⟩)) n x p c s 1 ⟨#[aReg s.c]⟩ ⟨((lett 120 s.b (1 + x.ce % 3)) : List UInt8).toArray⟩ false v) := Lib.hid (HC5.out.set 1 _ rfl)
    obtain ⟨Y, hY⟩ : ∃ Y, w5.setCell ⟨n + 4, 1, none⟩ (.string ⟨#[aReg s.c]⟩) = Y := ⟨_, rfl⟩
    rw [hY] at HC6 HX5 ⊢
    have HXo := HX5
    clear hY z2 z3 HC5
    go_cut [160] (fun _ wx => ∃ v qs, Yw w wx n x p c s 1 ⟨#[aReg s.c]⟩ ⟨((lett 120 s.b (1 + x.ce % 3)) : List UInt8).toArray⟩ false v ∧ Xo wx n qs v ∧ qs.map Prod.fst = [] ∧ (qs = [] → v = .slice none 0 0))
    case first =>
      go_wp2
      go_meet
      case rel => exact ⟨_, _, HC6.out, HXo.out, HQ0.out, HNIL.out⟩
    case rest =>
      obtain ⟨v', qs', hYw, hXo, hqs, hnil⟩ := hcut
      obtain ⟨px, cx, rfl, hxv⟩ := hXo.read hnil
      have HYW := Lib.hid hYw
      have HXV := Lib.hid hxv
      have HQ := Lib.hid hqs
      have r0 : wc.cell? ⟨n + 4, 0, none⟩ = some (.int .i64 1) := hYw.yC 0
      have r1 : wc.cell? ⟨n + 4, 1, none⟩ = some (.string ⟨#[aReg s.c]⟩) := hYw.yC 1
      have r2 : wc.cell? ⟨n + 4, 2, none⟩ = some (.string ⟨((lett 120 s.b (1 + x.ce % 3)) : List UInt8).toArray⟩) := hYw.yC 2
      have r3 : wc.cell? ⟨n + 4, 3, none⟩ = some (.bool false) := hYw.yC 3
      have r4 : wc.cell? ⟨n + 4, 4, none⟩ = some (.slice px (qs'.map Prod.fst).length cx) := hYw.yC 4
      have r5 : wc.cell? ⟨n + 4, 5, none⟩ = some (.slice none 0 0) := hYw.yC 5
      have r6 : wc.cell? ⟨n + 4, 6, none⟩ = some (.slice none 0 0) := hYw.yC 6
      have r7 : wc.cell? ⟨n + 4, 7, none⟩ = some (.int .i64 0) := hYw.yC 7
      have f0 := hYw.rF 0
      have f1 := hYw.rF 1
      have f2 := hYw.rF 2
      have f3 := hYw.rF 3
      have f4 := hYw.rF 4
      have f5 := hYw.rF 5
      have f6 := hYw.rF 6
      have f7 := hYw.rF 7
      have t0 : wc.cell? ⟨n + 2, 0, none⟩ = some (.int .i64 0) := hYw.rC 0
      have t1 : wc.cell? ⟨n + 2, 1, none⟩ = some (.string ⟨#[]⟩) := hYw.rC 1
      have t2 : wc.cell? ⟨n + 2, 2, none⟩ = some (.string ⟨#[]⟩) := hYw.rC 2
      have t3 : wc.cell? ⟨n + 2, 3, none⟩ = some (.bool false) := hYw.rC 3
      have t4 : wc.cell? ⟨n + 2, 4, none⟩ = some (.slice none 0 0) := hYw.rC 4
      have t5 : wc.cell? ⟨n + 2, 5, none⟩ = some (.slice none 0 0) := hYw.rC 5
      have t6 : wc.cell? ⟨n + 2, 6, none⟩ = some (.slice none 0 0) := hYw.rC 6
      have t7 : wc.cell? ⟨n + 2, 7, none⟩ = some (.int .i64 0) := hYw.rC 7
      have hlx : (qs'.map Prod.fst).length = ([] : List Ex).length := by rw [hqs]
      rw [hlx] at r4
      clear hYw hxv hqs hnil hXo hlx
      go_wp2
      obtain ⟨z1, z2⟩ := fin8 HN.out HYW.out.bel HYW.out.size HXV.out _ _ _ _ _ _ _ _ _ rfl
      rw [HQ.out] at z1
      refine bodyPost_ret (v := .tuple #[.agg #[.int .i64 1, .string ⟨#[aReg s.c]⟩, .string ⟨((lett 120 s.b (1 + x.ce % 3)) : List UInt8).toArray⟩, .bool false, .slice px ([] : List Ex).length cx, .slice none 0 0, .slice none 0 0, .int .i64 0], .bool true]) (by simp [results, Tryd.results40, go_sem, t0, t1, t2, t3, t4, t5, t6, t7]) rfl ⟨px, cx, rfl, z1, z2⟩

set_option maxRecDepth 100000 in
set_option maxHeartbeats 6400000 in
theorem mk_3 (x : Sml) (p : Option Addr) (c : Nat) (s : S5) (hx : Smok x) (hs : S5ok s) (hm : (s.d : Int) % 19 = 3) (hA : ((s.b : Int) % 4 == 3) = false ∨ (((s.b : Int) % 4 == 3) = true ∧ (x.ar : Int) % 4 = 0)) (w : World) : Calls Tryd.prog 40 #[smv x p c, s5v s] w (MkS w 1 [aReg s.c] (lett 120 s.b (1 + x.ce % 3)) false [] true) := by
  have hst := store_cx
  obtain ⟨n, hn⟩ : ∃ n, w.heap.size = n := ⟨_, rfl⟩
  have HN := Lib.hid hn
  have HY0 := fun o => Lib.hid (Yw.start w n hn x p c s 1 o)
  have HSO := Lib.hid hs
  have HXO := Lib.hid hx
  obtain ⟨i0, hi, hz0, hz1, hz2⟩ := info_parts e_info
  have HI := Lib.hid hi
  have HZ0 := Lib.hid hz0
  have HZ1 := Lib.hid hz1
  have HZ2 := Lib.hid hz2
  unfold xbox s5box ybox at HY0
  have hdd := hs.d
  have hbb := hs.b
  have hcc := hs.c
  have haa := hs.a
  obtain ⟨hnn0, hnn1⟩ := hs.n
  have hxc := hx.ce
  have hxa := hx.ar
  have hxm := hx.mu
  have hxs := hx.se
  have hxt := hx.th
  clear hx hs hi hz0 hz1 hz2
  unfold smv s5v
  go_enter Tryd.func40, Tryd.ntmps40
  go_upto_block 0 with fail
  obtain ⟨W, hW⟩ : ∃ W, ((((w.alloc (.cells #[.int .u8 (x.ce : Int), .int .u8 (x.ar : Int), .int .u8 (x.mu : Int), .int .u8 (x.se : Int), .int .u8 (x.bu : Int), .int .i8 x.n, .slice p x.th.length c] 33)).alloc (.cells #[.int .u8 (s.d : Int), .int .u8 (s.a : Int), .int .u8 (s.b : Int), .int .u8 (s.c : Int), .int .i8 s.n] 85)).alloc (.cells #[.int .i64 0, .string ⟨#[]⟩, .string ⟨#[]⟩, .bool false, .slice none 0 0, .slice none 0 0, .slice none 0 0, .int .i64 0] 87)).alloc (.cells #[.int .i64 2, .int .i64 1, .int .i64 2, .int .i64 1, .int .i64 3, .int .i64 4, .int .i64 5, .int .i64 6, .int .i64 7, .int .i64 8, .int .i64 9, .int .i64 10, .int .i64 11, .int .i64 12, .int .i64 13, .int .i64 14, .int .i64 15, .int .i64 16, .int .i64 0] 26)).alloc (.cells #[.int .i64 1, .string ⟨#[]⟩, .string ⟨#[]⟩, .bool false, .slice none 0 0, .slice none 0 0, .slice none 0 0, .int .i64 0] 87) = W := ⟨_, rfl⟩
  have HY : Hid (Yw w W n x p c s 1 ⟨#[]⟩ ⟨#[]⟩ false (.slice none 0 0)) := Lib.hid (by rw [← hW]; exact (HY0 _).out)
  rw [hW]
  clear hW hn HY0
  simp only [Nat.add_assoc, Nat.reduceAdd]
  go_cut [8] (fun u8 wx => u8 = .bool true ∧ ∃ v qs, Yw w wx n x p c s 1 ⟨#[]⟩ ⟨((lett 120 s.b (1 + x.ce % 3)) : List UInt8).toArray⟩ false v ∧ Xo wx n qs v ∧ qs.map Prod.fst = [] ∧ (qs = [] → v = .slice none 0 0))
  case first =>
    have HMA := Lib.hid (fun w => many_any x.ce hxc w)
    have HLE := Lib.hid (fun w => letter_any 120 s.b (1 + x.ce % 3) hbb (by omega) (by omega) w)
    have x0 : W.cell? ⟨n, 0, none⟩ = some (.int .u8 (x.ce : Int)) := HY.out.xC 0
    have x1 : W.cell? ⟨n, 1, none⟩ = some (.int .u8 (x.ar : Int)) := HY.out.xC 1
    have x2 := HY.out.sB
    have x3 : W.cell? ⟨n + 4, 2, none⟩ = some (.string ⟨#[]⟩) := HY.out.yC 2
    have x4 := HY.out.yF 2
    rcases hA with hA | ⟨hA, hB⟩
    all_goals
      go_wp2
      go_region_held3 (fun w' => w'.cell? ⟨n, 0, none⟩ = some (.int .u8 (x.ce : Int)) ∧ w'.cell? ⟨n + 1, 2, none⟩ = some (.int .u8 (s.b : Int)))
        (first | exact ⟨x0, x2⟩ | assumption | exact ⟨by simp [go_sem, x0], by simp [go_sem, x2]⟩)
        (first
          | (go_at_call 25; refine (HMA.out _).mono ?_; rintro e w' ⟨rfl, rfl⟩)
          | (go_at_call 26; refine (HLE.out _).mono ?_; rintro e w' ⟨rfl, rfl⟩))
      all_goals (go_wp2_with fail; go_meet)
      case rel => exact ⟨rfl, _, [], (HY.out.set 2 _ rfl).drew, Xo.nil _ _, rfl, fun _ => rfl⟩
  case rest =>
    obtain ⟨rfl, v, qs, hcut, hXo, hq0, hnil0⟩ := hcut
    have HXN := Lib.hid hXo
    have HQ0 := Lib.hid hq0
    have HNIL := Lib.hid hnil0
    have hql : qs.length ≤ 1 := by have := congrArg List.length hq0; rw [List.length_map] at this; simp only [List.length_nil, List.length_cons] at this; omega
    clear hXo hq0 hnil0
    have HC := Lib.hid hcut
    have z1 : wc.cell? ⟨n + 1, 3, none⟩ = some (.int .u8 (s.c : Int)) := hcut.sC
    clear hcut
    go_wp2_with fail
    refine (reg_any s.c hcc _).mono ?_
    rintro e w5 ⟨rfl, hb5⟩
    have HC5 := Lib.hid (HC.out.keep hb5)
    have HX5 := Lib.hid ((HXN.out.keep hb5).setY 1 (.string ⟨#[aReg s.c]⟩))
    have z2 : w5.cell? ⟨n + 4, 1, none⟩ = some (.string ⟨#[]⟩) := HC5.out.yC 1
    have z3 := HC5.out.yF 1
    clear hb5 z1
    go_upto_block 1 with fail
    have HC6 : Hid (Yw w (w5.setCell ⟨n + 4, 1, none⟩ (.string ⟨#[aReg s.c]⟩)) n x p c s 1 ⟨#[aReg s.c]⟩ ⟨((lett 120 s.b (1 + x.ce % 3)) : List UInt8).toArray⟩ false v) := Lib.hid (HC5.out.set 1 _ rfl)
    obtain ⟨Y, hY⟩ : ∃ Y, w5.setCell ⟨n + 4, 1, none⟩ (.string ⟨#[aReg s.c]⟩) = Y := ⟨_, rfl⟩
    rw [hY] at HC6 HX5 ⊢
    have HXo := HX5
    clear hY z2 z3 HC5
    go_cut [160] (fun _ wx => ∃ v qs, Yw w wx n x p c s 1 ⟨#[aReg s.c]⟩ ⟨((lett 120 s.b (1 + x.ce % 3)) : List UInt8).toArray⟩ false v ∧ Xo wx n qs v ∧ qs.map Prod.fst = [] ∧ (qs = [] → v = .slice none 0 0))
    case first =>
      go_wp2
      go_meet
      case rel => exact ⟨_, _, HC6.out, HXo.out, HQ0.out, HNIL.out⟩
    case rest =>
      obtain ⟨v', qs', hYw, hXo, hqs, hnil⟩ := hcut
      obtain ⟨px, cx, rfl, hxv⟩ := hXo.read hnil
      have HYW := Lib.hid hYw
      have HXV := Lib.hid hxv
      have HQ := Lib.hid hqs
      have r0 : wc.cell? ⟨n + 4, 0, none⟩ = some (.int .i64 1) := hYw.yC 0
      have r1 : wc.cell? ⟨n + 4, 1, none⟩ = some (.string ⟨#[aReg s.c]⟩) := hYw.yC 1
      have r2 : wc.cell? ⟨n + 4, 2, none⟩ = some (.string ⟨((lett 120 s.b (1 + x.ce % 3)) : List UInt8).toArray⟩) := hYw.yC 2
      have r3 : wc.cell? ⟨n + 4, 3, none⟩ = some (.bool false) := hYw.yC 3
      have r4 : wc.cell? ⟨n + 4, 4, none⟩ = some (.slice px (qs'.map Prod.fst).length cx) := hYw.yC 4
      have r5 : wc.cell? ⟨n + 4, 5, none⟩ = some (.slice none 0 0) := hYw.yC 5
      have r6 : wc.cell? ⟨n + 4, 6, none⟩ = some (.slice none 0 0) := hYw.yC 6
      have r7 : wc.cell? ⟨n + 4, 7, none⟩ = some (.int .i64 0) := hYw.yC 7
      have f0 := hYw.rF 0
      have f1 := hYw.rF 1
      have f2 := hYw.rF 2
      have f3 := hYw.rF 3
      have f4 := hYw.rF 4
      have f5 := hYw.rF 5
      have f6 := hYw.rF 6
      have f7 := hYw.rF 7
      have t0 : wc.cell? ⟨n + 2, 0, none⟩ = some (.int .i64 0) := hYw.rC 0
      have t1 : wc.cell? ⟨n + 2, 1, none⟩ = some (.string ⟨#[]⟩) := hYw.rC 1
      have t2 : wc.cell? ⟨n + 2, 2, none⟩ = some (.string ⟨#[]⟩) := hYw.rC 2
      have t3 : wc.cell? ⟨n + 2, 3, none⟩ = some (.bool false) := hYw.rC 3
      have t4 : wc.cell? ⟨n + 2, 4, none⟩ = some (.slice none 0 0) := hYw.rC 4
      have t5 : wc.cell? ⟨n + 2, 5, none⟩ = some (.slice none 0 0) := hYw.rC 5
      have t6 : wc.cell? ⟨n + 2, 6, none⟩ = some (.slice none 0 0) := hYw.rC 6
      have t7 : wc.cell? ⟨n + 2, 7, none⟩ = some (.int .i64 0) := hYw.rC 7
      have hlx : (qs'.map Prod.fst).length = ([] : List Ex).length := by rw [hqs]
      rw [hlx] at r4
      clear hYw hxv hqs hnil hXo hlx
      go_wp2
      obtain ⟨z1, z2⟩ := fin8 HN.out HYW.out.bel HYW.out.size HXV.out _ _ _ _ _ _ _ _ _ rfl
      rw [HQ.out] at z1
      refine bodyPost_ret (v := .tuple #[.agg #[.int .i64 1, .string ⟨#[aReg s.c]⟩, .string ⟨((lett 120 s.b (1 + x.ce % 3)) : List UInt8).toArray⟩, .bool false, .slice px ([] : List Ex).length cx, .slice none 0 0, .slice none 0 0, .int .i64 0], .bool true]) (by simp [results, Tryd.results40, go_sem, t0, t1, t2, t3, t4, t5, t6, t7]) rfl ⟨px, cx, rfl, z1, z2⟩

set_option maxRecDepth 100000 in
set_option maxHeartbeats 6400000 in
theorem mk_7 (x : Sml) (p : Option Addr) (c : Nat) (s : S5) (hx : Smok x) (hs : S5ok s) (hm : (s.d : Int) % 19 = 7) (w : World) : Calls Tryd.prog 40 #[smv x p c, s5v s] w (MkS w 6 [] (lett 109 s.b (max (x.mu % 3) 1)) false [] (decide (0 < x.mu % 3))) := by
  have hst := store_cx
  obtain ⟨n, hn⟩ : ∃ n, w.heap.size = n := ⟨_, rfl⟩
  have HN := Lib.hid hn
  have HY0 := fun o => Lib.hid (Yw.start w n hn x p c s 6 o)
  have HSO := Lib.hid hs
  have HXO := Lib.hid hx
  obtain ⟨i0, hi, hz0, hz1, hz2⟩ := info_parts e_info
  have HI := Lib.hid hi
  have HZ0 := Lib.hid hz0
  have HZ1 := Lib.hid hz1
  have HZ2 := Lib.hid hz2
  unfold xbox s5box ybox at HY0
  have hdd := hs.d
  have hbb := hs.b
  have hcc := hs.c
  have haa := hs.a
  obtain ⟨hnn0, hnn1⟩ := hs.n
  have hxc := hx.ce
  have hxa := hx.ar
  have hxm := hx.mu
  have hxs := hx.se
  have hxt := hx.th
  clear hx hs hi hz0 hz1 hz2
  unfold smv s5v
  go_enter Tryd.func40, Tryd.ntmps40
  go_upto_block 0 with fail
  obtain ⟨W, hW⟩ : ∃ W, ((((w.alloc (.cells #[.int .u8 (x.ce : Int), .int .u8 (x.ar : Int), .int .u8 (x.mu : Int), .int .u8 (x.se : Int), .int .u8 (x.bu : Int), .int .i8 x.n, .slice p x.th.length c] 33)).alloc (.cells #[.int .u8 (s.d : Int), .int .u8 (s.a : Int), .int .u8 (s.b : Int), .int .u8 (s.c : Int), .int .i8 s.n] 85)).alloc (.cells #[.int .i64 0, .string ⟨#[]⟩, .string ⟨#[]⟩, .bool false, .slice none 0 0, .slice none 0 0, .slice none 0 0, .int .i64 0] 87)).alloc (.cells #[.int .i64 2, .int .i64 1, .int .i64 2, .int .i64 1, .int .i64 3, .int .i64 4, .int .i64 5, .int .i64 6, .int .i64 7, .int .i64 8, .int .i64 9, .int .i64 10, .int .i64 11, .int .i64 12, .int .i64 13, .int .i64 14, .int .i64 15, .int .i64 16, .int .i64 0] 26)).alloc (.cells #[.int .i64 6, .string ⟨#[]⟩, .string ⟨#[]⟩, .bool false, .slice none 0 0, .slice none 0 0, .slice none 0 0, .int .i64 0] 87) = W := ⟨_, rfl⟩
  have HY : Hid (Yw w W n x p c s 6 ⟨#[]⟩ ⟨#[]⟩ false (.slice none 0 0)) := Lib.hid (by rw [← hW]; exact (HY0 _).out)
  rw [hW]
  clear hW hn HY0
  simp only [Nat.add_assoc, Nat.reduceAdd]
  go_cut [8] (fun u8 wx => u8 = .bool (decide (0 < x.mu % 3)) ∧ ∃ v qs, Yw w wx n x p c s 6 ⟨#[]⟩ ⟨((lett 109 s.b (max (x.mu % 3) 1)) : List UInt8).toArray⟩ false v ∧ Xo wx n qs v ∧ qs.map Prod.fst = [] ∧ (qs = [] → v = .slice none 0 0))
  case first =>
    obtain ⟨mm, hmm⟩ : ∃ mm : Nat, max (x.mu % 3) 1 = mm := ⟨_, rfl⟩
    have hmi : max ((x.mu : Int) % 3) 1 = (mm : Int) := by omega
    have hm0 : 0 < mm ∧ mm ≤ 10 := by omega
    have HLE := Lib.hid (fun w => letter_any 109 s.b mm hbb hm0.1 hm0.2 w)
    have x1 : W.cell? ⟨n, 2, none⟩ = some (.int .u8 (x.mu : Int)) := HY.out.xC 2
    have x2 := HY.out.sB
    have x3 : W.cell? ⟨n + 4, 2, none⟩ = some (.string ⟨#[]⟩) := HY.out.yC 2
    have x4 := HY.out.yF 2
    have hok : decide (0 < x.mu % 3) = decide (0 < (x.mu : Int) % 3) := by congr 1; apply propext; constructor <;> intro h <;> omega
    have HOK := Lib.hid hok
    have HMM := Lib.hid hmm
    clear hok hmm
    go_wp2_with (go_at_call 26; refine (HLE.out _).mono ?_; rintro e w' ⟨rfl, rfl⟩)
    go_meet
    case rel => exact ⟨by rw [HOK.out], _, [], by rw [HMM.out]; exact HY.out.set 2 _ rfl, Xo.nil _ _, rfl, fun _ => rfl⟩
  case rest =>
    obtain ⟨rfl, v, qs, hcut, hXo, hq0, hnil0⟩ := hcut
    have HXN := Lib.hid hXo
    have HQ0 := Lib.hid hq0
    have HNIL := Lib.hid hnil0
    have hql : qs.length ≤ 1 := by have := congrArg List.length hq0; rw [List.length_map] at this; simp only [List.length_nil, List.length_cons] at this; omega
    clear hXo hq0 hnil0
    have HC6 := Lib.hid hcut
    clear hcut
    go_upto_block 1 with fail
    obtain ⟨Y, rfl⟩ : ∃ Y, Y = wc := ⟨_, rfl⟩
    have HXo := HXN
    go_cut [160] (fun _ wx => ∃ v qs, Yw w wx n x p c s 6 ⟨#[]⟩ ⟨((lett 109 s.b (max (x.mu % 3) 1)) : List UInt8).toArray⟩ false v ∧ Xo wx n qs v ∧ qs.map Prod.fst = [] ∧ (qs = [] → v = .slice none 0 0))
    case first =>
      go_wp2
      go_meet
      case rel => exact ⟨_, _, HC6.out, HXo.out, HQ0.out, HNIL.out⟩
    case rest =>
      obtain ⟨v', qs', hYw, hXo, hqs, hnil⟩ := hcut
      obtain ⟨px, cx, rfl, hxv⟩ := hXo.read hnil
      have HYW := Lib.hid hYw
      have HXV := Lib.hid hxv
      have HQ := Lib.hid hqs
      have r0 : wc.cell? ⟨n + 4, 0, none⟩ = some (.int .i64 6) := hYw.yC 0
      have r1 : wc.cell? ⟨n + 4, 1, none⟩ = some (.string ⟨#[]⟩) := hYw.yC 1
      have r2 : wc.cell? ⟨n + 4, 2, none⟩ = some (.string ⟨((lett 109 s.b (max (x.mu % 3) 1)) : List UInt8).toArray⟩) := hYw.yC 2
      have r3 : wc.cell? ⟨n + 4, 3, none⟩ = some (.bool false) := hYw.yC 3
      have r4 : wc.cell? ⟨n + 4, 4, none⟩ = some (.slice px (qs'.map Prod.fst).length cx) := hYw.yC 4
      have r5 : wc.cell? ⟨n + 4, 5, none⟩ = some (.slice none 0 0) := hYw.yC 5
      have r6 : wc.cell? ⟨n + 4, 6, none⟩ = some (.slice none 0 0) := hYw.yC 6
      have r7 : wc.cell? ⟨n + 4, 7, none⟩ = some (.int .i64 0) := hYw.yC 7
      have f0 := hYw.rF 0
      have f1 := hYw.rF 1
      have f2 := hYw.rF 2
      have f3 := hYw.rF 3
      have f4 := hYw.rF 4
      have f5 := hYw.rF 5
      have f6 := hYw.rF 6
      have f7 := hYw.rF 7
      have t0 : wc.cell? ⟨n + 2, 0, none⟩ = some (.int .i64 0) := hYw.rC 0
      have t1 : wc.cell? ⟨n + 2, 1, none⟩ = some (.string ⟨#[]⟩) := hYw.rC 1
      have t2 : wc.cell? ⟨n + 2, 2, none⟩ = some (.string ⟨#[]⟩) := hYw.rC 2
      have t3 : wc.cell? ⟨n + 2, 3, none⟩ = some (.bool false) := hYw.rC 3
      have t4 : wc.cell? ⟨n + 2, 4, none⟩ = some (.slice none 0 0) := hYw.rC 4
      have t5 : wc.cell? ⟨n + 2, 5, none⟩ = some (.slice none 0 0) := hYw.rC 5
      have t6 : wc.cell? ⟨n + 2, 6, none⟩ = some (.slice none 0 0) := hYw.rC 6
      have t7 : wc.cell? ⟨n + 2, 7, none⟩ = some (.int .i64 0) := hYw.rC 7
      have hlx : (qs'.map Prod.fst).length = ([] : List Ex).length := by rw [hqs]
      rw [hlx] at r4
      clear hYw hxv hqs hnil hXo hlx
      go_wp2
      obtain ⟨z1, z2⟩ := fin8 HN.out HYW.out.bel HYW.out.size HXV.out _ _ _ _ _ _ _ _ _ rfl
      rw [HQ.out] at z1
      refine bodyPost_ret (v := .tuple #[.agg #[.int .i64 6, .string ⟨#[]⟩, .string ⟨((lett 109 s.b (max (x.mu % 3) 1)) : List UInt8).toArray⟩, .bool false, .slice px ([] : List Ex).length cx, .slice none 0 0, .slice none 0 0, .int .i64 0], .bool (decide (0 < x.mu % 3))]) (by simp [results, Tryd.results40, go_sem, t0, t1, t2, t3, t4, t5, t6, t7]) rfl ⟨px, cx, rfl, z1, z2⟩

set_option maxRecDepth 100000 in
set_option maxHeartbeats 6400000 in
theorem mk_8 (x : Sml) (p : Option Addr) (c : Nat) (s : S5) (hx : Smok x) (hs : S5ok s) (hm : (s.d : Int) % 19 = 8) (w : World) : Calls Tryd.prog 40 #[smv x p c, s5v s] w (MkS w 7 [] (lett 109 s.b (max (x.mu % 3) 1)) false [] (decide (0 < x.mu % 3))) := by
  have hst := store_cx
  obtain ⟨n, hn⟩ : ∃ n, w.heap.size = n := ⟨_, rfl⟩
  have HN := Lib.hid hn
  have HY0 := fun o => Lib.hid (Yw.start w n hn x p c s 7 o)
  have HSO := Lib.hid hs
  have HXO := Lib.hid hx
  obtain ⟨i0, hi, hz0, hz1, hz2⟩ := info_parts e_info
  have HI := Lib.hid hi
  have HZ0 := Lib.hid hz0
  have HZ1 := Lib.hid hz1
  have HZ2 := Lib.hid hz2
  unfold xbox s5box ybox at HY0
  have hdd := hs.d
  have hbb := hs.b
  have hcc := hs.c
  have haa := hs.a
  obtain ⟨hnn0, hnn1⟩ := hs.n
  have hxc := hx.ce
  have hxa := hx.ar
  have hxm := hx.mu
  have hxs := hx.se
  have hxt := hx.th
  clear hx hs hi hz0 hz1 hz2
  unfold smv s5v
  go_enter Tryd.func40, Tryd.ntmps40
  go_upto_block 0 with fail
  obtain ⟨W, hW⟩ : ∃ W, ((((w.alloc (.cells #[.int .u8 (x.ce : Int), .int .u8 (x.ar : Int), .int .u8 (x.mu : Int), .int .u8 (x.se : Int), .int .u8 (x.bu : Int), .int .i8 x.n, .slice p x.th.length c] 33)).alloc (.cells #[.int .u8 (s.d : Int), .int .u8 (s.a : Int), .int .u8 (s.b : Int), .int .u8 (s.c : Int), .int .i8 s.n] 85)).alloc (.cells #[.int .i64 0, .string ⟨#[]⟩, .string ⟨#[]⟩, .bool false, .slice none 0 0, .slice none 0 0, .slice none 0 0, .int .i64 0] 87)).alloc (.cells #[.int .i64 2, .int .i64 1, .int .i64 2, .int .i64 1, .int .i64 3, .int .i64 4, .int .i64 5, .int .i64 6, .int .i64 7, .int .i64 8, .int .i64 9, .int .i64 10, .int .i64 11, .int .i64 12, .int .i64 13, .int .i64 14, .int .i64 15, .int .i64 16, .int .i64 0] 26)).alloc (.cells #[.int .i64 7, .string ⟨#[]⟩, .string ⟨#[]⟩, .bool false, .slice none 0 0, .slice none 0 0, .slice none 0 0, .int .i64 0] 87) = W := ⟨_, rfl⟩
  have HY : Hid (Yw w W n x p c s 7 ⟨#[]⟩ ⟨#[]⟩ false (.slice none 0 0)) := Lib.hid (by rw [← hW]; exact (HY0 _).out)
  rw [hW]
  clear hW hn HY0
  simp only [Nat.add_assoc, Nat.reduceAdd]
  go_cut [8] (fun u8 wx => u8 = .bool (decide (0 < x.mu % 3)) ∧ ∃ v qs, Yw w wx n x p c s 7 ⟨#[]⟩ ⟨((lett 109 s.b (max (x.mu % 3) 1)) : List UInt8).toArray⟩ false v ∧ Xo wx n qs v ∧ qs.map Prod.fst = [] ∧ (qs = [] → v = .slice none 0 0))
  case first =>
    obtain ⟨mm, hmm⟩ : ∃ mm : Nat, max (x.mu % 3) 1 = mm := ⟨_, rfl⟩
    have hmi : max ((x.mu : Int) % 3) 1 = (mm : Int) := by omega
    have hm0 : 0 < mm ∧ mm ≤ 10 := by omega
    have HLE := Lib.hid (fun w => letter_any 109 s.b mm hbb hm0.1 hm0.2 w)
    have x1 : W.cell? ⟨n, 2, none⟩ = some (.int .u8 (x.mu : Int)) := HY.out.xC 2
    have x2 := HY.out.sB
    have x3 : W.cell? ⟨n + 4, 2, none⟩ = some (.string ⟨#[]⟩) := HY.out.yC 2
    have x4 := HY.out.yF 2
    have hok : decide (0 < x.mu % 3) = decide (0 < (x.mu : Int) % 3) := by congr 1; apply propext; constructor <;> intro h <;> omega
    have HOK := Lib.hid hok
    have HMM := Lib.hid hmm
    clear hok hmm
    go_wp2_with (go_at_call 26; refine (HLE.out _).mono ?_; rintro e w' ⟨rfl, rfl⟩)
    go_meet
    case rel => exact ⟨by rw [HOK.out], _, [], by rw [HMM.out]; exact HY.out.set 2 _ rfl, Xo.nil _ _, rfl, fun _ => rfl⟩
  case rest =>
    obtain ⟨rfl, v, qs, hcut, hXo, hq0, hnil0⟩ := hcut
    have HXN := Lib.hid hXo
    have HQ0 := Lib.hid hq0
    have HNIL := Lib.hid hnil0
    have hql : qs.length ≤ 1 := by have := congrArg List.length hq0; rw [List.length_map] at this; simp only [List.length_nil, List.length_cons] at this; omega
    clear hXo hq0 hnil0
    have HC6 := Lib.hid hcut
    clear hcut
    go_upto_block 1 with fail
    obtain ⟨Y, rfl⟩ : ∃ Y, Y = wc := ⟨_, rfl⟩
    have HXo := HXN
    go_cut [160] (fun _ wx => ∃ v qs, Yw w wx n x p c s 7 ⟨#[]⟩ ⟨((lett 109 s.b (max (x.mu % 3) 1)) : List UInt8).toArray⟩ false v ∧ Xo wx n qs v ∧ qs.map Prod.fst = [] ∧ (qs = [] → v = .slice none 0 0))
    case first =>
      go_wp2
      go_meet
      case rel => exact ⟨_, _, HC6.out, HXo.out, HQ0.out, HNIL.out⟩
    case rest =>
      obtain ⟨v', qs', hYw, hXo, hqs, hnil⟩ := hcut
      obtain ⟨px, cx, rfl, hxv⟩ := hXo.read hnil
      have HYW := Lib.hid hYw
      have HXV := Lib.hid hxv
      have HQ := Lib.hid hqs
      have r0 : wc.cell? ⟨n + 4, 0, none⟩ = some (.int .i64 7) := hYw.yC 0
      have r1 : wc.cell? ⟨n + 4, 1, none⟩ = some (.string ⟨#[]⟩) := hYw.yC 1
      have r2 : wc.cell? ⟨n + 4, 2, none⟩ = some (.string ⟨((lett 109 s.b (max (x.mu % 3) 1)) : List UInt8).toArray⟩) := hYw.yC 2
      have r3 : wc.cell? ⟨n + 4, 3, none⟩ = some (.bool false) := hYw.yC 3
      have r4 : wc.cell? ⟨n + 4, 4, none⟩ = some (.slice px (qs'.map Prod.fst).length cx) := hYw.yC 4
      have r5 : wc.cell? ⟨n + 4, 5, none⟩ = some (.slice none 0 0) := hYw.yC 5
      have r6 : wc.cell? ⟨n + 4, 6, none⟩ = some (.slice none 0 0) := hYw.yC 6
      have r7 : wc.cell? ⟨n + 4, 7, none⟩ = some (.int .i64 0) := hYw.yC 7
      have f0 := hYw.rF 0
      have f1 := hYw.rF 1
      have f2 := hYw.rF 2
      have f3 := hYw.rF 3
      have f4 := hYw.rF 4
      have f5 := hYw.rF 5
      have f6 := hYw.rF 6
      have f7 := hYw.rF 7
      have t0 : wc.cell? ⟨n + 2, 0, none⟩ = some (.int .i64 0) := hYw.rC 0
      have t1 : wc.cell? ⟨n + 2, 1, none⟩ = some (.string ⟨#[]⟩) := hYw.rC 1
      have t2 : wc.cell? ⟨n + 2, 2, none⟩ = some (.string ⟨#[]⟩) := hYw.rC 2
      have t3 : wc.cell? ⟨n + 2, 3, none⟩ = some (.bool false) := hYw.rC 3
      have t4 : wc.cell? ⟨n + 2, 4, none⟩ = some (.slice none 0 0) := hYw.rC 4
      have t5 : wc.cell? ⟨n + 2, 5, none⟩ = some (.slice none 0 0) := hYw.rC 5
      have t6 : wc.cell? ⟨n + 2, 6, none⟩ = some (.slice none 0 0) := hYw.rC 6
      have t7 : wc.cell? ⟨n + 2, 7, none⟩ = some (.int .i64 0) := hYw.rC 7
      have hlx : (qs'.map Prod.fst).length = ([] : List Ex).length := by rw [hqs]
      rw [hlx] at r4
      clear hYw hxv hqs hnil hXo hlx
      go_wp2
      obtain ⟨z1, z2⟩ := fin8 HN.out HYW.out.bel HYW.out.size HXV.out _ _ _ _ _ _ _ _ _ rfl
      rw [HQ.out] at z1
      refine bodyPost_ret (v := .tuple #[.agg #[.int .i64 7, .string ⟨#[]⟩, .string ⟨((lett 109 s.b (max (x.mu % 3) 1)) : List UInt8).toArray⟩, .bool false, .slice px ([] : List Ex).length cx, .slice none 0 0, .slice none 0 0, .int .i64 0], .bool (decide (0 < x.mu % 3))]) (by simp [results, Tryd.results40, go_sem, t0, t1, t2, t3, t4, t5, t6, t7]) rfl ⟨px, cx, rfl, z1, z2⟩

set_option maxRecDepth 100000 in
set_option maxHeartbeats 6400000 in
theorem mk_9 (x : Sml) (p : Option Addr) (c : Nat) (s : S5) (hx : Smok x) (hs : S5ok s) (hm : (s.d : Int) % 19 = 9) (w : World) : Calls Tryd.prog 40 #[smv x p c, s5v s] w (MkS w 8 [aReg s.c] (lett 109 s.b (max (x.mu % 3) 1)) false [] (decide (0 < x.mu % 3))) := by
  have hst := store_cx
  obtain ⟨n, hn⟩ : ∃ n, w.heap.size = n := ⟨_, rfl⟩
  have HN := Lib.hid hn
  have HY0 := fun o => Lib.hid (Yw.start w n hn x p c s 8 o)
  have HSO := Lib.hid hs
  have HXO := Lib.hid hx
  obtain ⟨i0, hi, hz0, hz1, hz2⟩ := info_parts e_info
  have HI := Lib.hid hi
  have HZ0 := Lib.hid hz0
  have HZ1 := Lib.hid hz1
  have HZ2 := Lib.hid hz2
  unfold xbox s5box ybox at HY0
  have hdd := hs.d
  have hbb := hs.b
  have hcc := hs.c
  have haa := hs.a
  obtain ⟨hnn0, hnn1⟩ := hs.n
  have hxc := hx.ce
  have hxa := hx.ar
  have hxm := hx.mu
  have hxs := hx.se
  have hxt := hx.th
  clear hx hs hi hz0 hz1 hz2
  unfold smv s5v
  go_enter Tryd.func40, Tryd.ntmps40
  go_upto_block 0 with fail
  obtain ⟨W, hW⟩ : ∃ W, ((((w.alloc (.cells #[.int .u8 (x.ce : Int), .int .u8 (x.ar : Int), .int .u8 (x.mu : Int), .int .u8 (x.se : Int), .int .u8 (x.bu : Int), .int .i8 x.n, .slice p x.th.length c] 33)).alloc (.cells #[.int .u8 (s.d : Int), .int .u8 (s.a : Int), .int .u8 (s.b : Int), .int .u8 (s.c : Int), .int .i8 s.n] 85)).alloc (.cells #[.int .i64 0, .string ⟨#[]⟩, .string ⟨#[]⟩, .bool false, .slice none 0 0, .slice none 0 0, .slice none 0 0, .int .i64 0] 87)).alloc (.cells #[.int .i64 2, .int .i64 1, .int .i64 2, .int .i64 1, .int .i64 3, .int .i64 4, .int .i64 5, .int .i64 6, .int .i64 7, .int .i64 8, .int .i64 9, .int .i64 10, .int .i64 11, .int .i64 12, .int .i64 13, .int .i64 14, .int .i64 15, .int .i64 16, .int .i64 0] 26)).alloc (.cells #[.int .i64 8, .string ⟨#[]⟩, .string ⟨#[]⟩, .bool false, .slice none 0 0, .slice none 0 0, .slice none 0 0, .int .i64 0] 87) = W := ⟨_, rfl⟩
  have HY : Hid (Yw w W n x p c s 8 ⟨#[]⟩ ⟨#[]⟩ false (.slice none 0 0)) := Lib.hid (by rw [← hW]; exact (HY0 _).out)
  rw [hW]
  clear hW hn HY0
  simp only [Nat.add_assoc, Nat.reduceAdd]
  go_cut [8] (fun u8 wx => u8 = .bool (decide (0 < x.mu % 3)) ∧ ∃ v qs, Yw w wx n x p c s 8 ⟨#[]⟩ ⟨((lett 109 s.b (max (x.mu % 3) 1)) : List UInt8).toArray⟩ false v ∧ Xo wx n qs v ∧ qs.map Prod.fst = [] ∧ (qs = [] → v = .slice none 0 0))
  case first =>
    obtain ⟨mm, hmm⟩ : ∃ mm : Nat, max (x.mu % 3) 1 = mm := ⟨_, rfl⟩
    have hmi : max ((x.mu : Int) % 3) 1 = (mm : Int) := by omega
    have hm0 : 0 < mm ∧ mm ≤ 10 := by omega
    have HLE := Lib.hid (fun w => letter_any 109 s.b mm hbb hm0.1 hm0.2 w)
    have x1 : W.cell? ⟨n, 2, none⟩ = some (.int .u8 (x.mu : Int)) := HY.out.xC 2
    have x2 := HY.out.sB
    have x3 : W.cell? ⟨n + 4, 2, none⟩ = some (.string ⟨#[]⟩) := HY.out.yC 2
    have x4 := HY.out.yF 2
    have hok : decide (0 < x.mu % 3) = decide (0 < (x.mu : Int) % 3) := by congr 1; apply propext; constructor <;> intro h <;> omega
    have HOK := Lib.hid hok
    have HMM := Lib.hid hmm
    clear hok hmm
    go_wp2_with (go_at_call 26; refine (HLE.out _).mono ?_; rintro e w' ⟨rfl, rfl⟩)
    go_meet
    case rel => exact ⟨by rw [HOK.out], _, [], by rw [HMM.out]; exact HY.out.set 2 _ rfl, Xo.nil _ _, rfl, fun _ => rfl⟩
  case rest =>
    obtain ⟨rfl, v, qs, hcut, hXo, hq0, hnil0⟩ := hcut
    have HXN := Lib.hid hXo
    have HQ0 := Lib.hid hq0
    have HNIL := Lib.hid hnil0
    have hql : qs.length ≤ 1 := by have := congrArg List.length hq0; rw [List.length_map] at this; simp only [List.length_nil, List.length_cons] at this; omega
    clear hXo hq0 hnil0
    have HC := Lib.hid hcut
    have z1 : wc.cell? ⟨n + 1, 3, none⟩ = some (.int .u8 (s.c : Int)) := hcut.sC
    clear hcut
    go_wp2_with fail
    refine (reg_any s.c hcc _).mono ?_
    rintro e w5 ⟨rfl, hb5⟩
    have HC5 := Lib.hid (HC.out.keep hb5)
    have HX5 := Lib.hid ((HXN.out.keep hb5).setY 1 (.string ⟨#[aReg s.c]⟩))
    have z2 : w5.cell? ⟨n + 4, 1, none⟩ = some (.string ⟨#[]⟩) := HC5.out.yC 1
    have z3 := HC5.out.yF 1
    clear hb5 z1
    go_upto_block 1 with fail
    have HC6 : Hid (Yw w (w5.setCell ⟨n + 4, 1, none⟩ (.string ⟨#[aReg s.c]⟩)) n x p c s 8 ⟨#[aReg s.c]⟩ ⟨((lett 109 s.b (max (x.mu % 3) 1)) : List UInt8).toArray⟩ false v) := Lib.hid (HC5.out.set 1 _ rfl)
    obtain ⟨Y, hY⟩ : ∃ Y, w5.setCell ⟨n + 4, 1, none⟩ (.string ⟨#[aReg s.c]⟩) = Y := ⟨_, rfl⟩
    rw [hY] at HC6 HX5 ⊢
    have HXo := HX5
    clear hY z2 z3 HC5
    go_cut [160] (fun _ wx => ∃ v qs, Yw w wx n x p c s 8 ⟨#[aReg s.c]⟩ ⟨((lett 109 s.b (max (x.mu % 3) 1)) : List UInt8).toArray⟩ false v ∧ Xo wx n qs v ∧ qs.map Prod.fst = [] ∧ (qs = [] → v = .slice none 0 0))
    case first =>
      go_wp2
      go_meet
      case rel => exact ⟨_, _, HC6.out, HXo.out, HQ0.out, HNIL.out⟩
    case rest =>
      obtain ⟨v', qs', hYw, hXo, hqs, hnil⟩ := hcut
      obtain ⟨px, cx, rfl, hxv⟩ := hXo.read hnil
      have HYW := Lib.hid hYw
      have HXV := Lib.hid hxv
      have HQ := Lib.hid hqs
      have r0 : wc.cell? ⟨n + 4, 0, none⟩ = some (.int .i64 8) := hYw.yC 0
      have r1 : wc.cell? ⟨n + 4, 1, none⟩ = some (.string ⟨#[aReg s.c]⟩) := hYw.yC 1
      have r2 : wc.cell? ⟨n + 4, 2, none⟩ = some (.string ⟨((lett 109 s.b (max (x.mu % 3) 1)) : List UInt8).toArray⟩) := hYw.yC 2
      have r3 : wc.cell? ⟨n + 4, 3, none⟩ = some (.bool false) := hYw.yC 3
      have r4 : wc.cell? ⟨n + 4, 4, none⟩ = some (.slice px (qs'.map Prod.fst).length cx) := hYw.yC 4
      have r5 : wc.cell? ⟨n + 4, 5, none⟩ = some (.slice none 0 0) := hYw.yC 5
      have r6 : wc.cell? ⟨n + 4, 6, none⟩ = some (.slice none 0 0) := hYw.yC 6
      have r7 : wc.cell? ⟨n + 4, 7, none⟩ = some (.int .i64 0) := hYw.yC 7
      have f0 := hYw.rF 0
      have f1 := hYw.rF 1
      have f2 := hYw.rF 2
      have f3 := hYw.rF 3
      have f4 := hYw.rF 4
      have f5 := hYw.rF 5
      have f6 := hYw.rF 6
      have f7 := hYw.rF 7
      have t0 : wc.cell? ⟨n + 2, 0, none⟩ = some (.int .i64 0) := hYw.rC 0
      have t1 : wc.cell? ⟨n + 2, 1, none⟩ = some (.string ⟨#[]⟩) := hYw.rC 1
      have t2 : wc.cell? ⟨n + 2, 2, none⟩ = some (.string ⟨#[]⟩) := hYw.rC 2
      have t3 : wc.cell? ⟨n + 2, 3, none⟩ = some (.bool false) := hYw.rC 3
      have t4 : wc.cell? ⟨n + 2, 4, none⟩ = some (.slice none 0 0) := hYw.rC 4
      have t5 : wc.cell? ⟨n + 2, 5, none⟩ = some (.slice none 0 0) := hYw.rC 5
      have t6 : wc.cell? ⟨n + 2, 6, none⟩ = some (.slice none 0 0) := hYw.rC 6
      have t7 : wc.cell? ⟨n + 2, 7, none⟩ = some (.int .i64 0) := hYw.rC 7
      have hlx : (qs'.map Prod.fst).length = ([] : List Ex).length := by rw [hqs]
      rw [hlx] at r4
      clear hYw hxv hqs hnil hXo hlx
      go_wp2
      obtain ⟨z1, z2⟩ := fin8 HN.out HYW.out.bel HYW.out.size HXV.out _ _ _ _ _ _ _ _ _ rfl
      rw [HQ.out] at z1
      refine bodyPost_ret (v := .tuple #[.agg #[.int .i64 8, .string ⟨#[aReg s.c]⟩, .string ⟨((lett 109 s.b (max (x.mu % 3) 1)) : List UInt8).toArray⟩, .bool false, .slice px ([] : List Ex).length cx, .slice none 0 0, .slice none 0 0, .int .i64 0], .bool (decide (0 < x.mu % 3))]) (by simp [results, Tryd.results40, go_sem, t0, t1, t2, t3, t4, t5, t6, t7]) rfl ⟨px, cx, rfl, z1, z2⟩

set_option maxRecDepth 100000 in
set_option maxHeartbeats 6400000 in
theorem mk_10 (x : Sml) (p : Option Addr) (c : Nat) (s : S5) (hx : Smok x) (hs : S5ok s) (hm : (s.d : Int) % 19 = 10) (w : World) : Calls Tryd.prog 40 #[smv x p c, s5v s] w (MkS w 9 [] (lett 115 s.b (max (x.se % 3) 1)) false [] (decide (0 < x.se % 3))) := by
  have hst := store_cx
  obtain ⟨n, hn⟩ : ∃ n, w.heap.size = n := ⟨_, rfl⟩
  have HN := Lib.hid hn
  have HY0 := fun o => Lib.hid (Yw.start w n hn x p c s 9 o)
  have HSO := Lib.hid hs
  have HXO := Lib.hid hx
  obtain ⟨i0, hi, hz0, hz1, hz2⟩ := info_parts e_info
  have HI := Lib.hid hi
  have HZ0 := Lib.hid hz0
  have HZ1 := Lib.hid hz1
  have HZ2 := Lib.hid hz2
  unfold xbox s5box ybox at HY0
  have hdd := hs.d
  have hbb := hs.b
  have hcc := hs.c
  have haa := hs.a
  obtain ⟨hnn0, hnn1⟩ := hs.n
  have hxc := hx.ce
  have hxa := hx.ar
  have hxm := hx.mu
  have hxs := hx.se
  have hxt := hx.th
  clear hx hs hi hz0 hz1 hz2
  unfold smv s5v
  go_enter Tryd.func40, Tryd.ntmps40
  go_upto_block 0 with fail
  obtain ⟨W, hW⟩ : ∃ W, ((((w.alloc (.cells #[.int .u8 (x.ce : Int), .int .u8 (x.ar : Int), .int .u8 (x.mu : Int), .int .u8 (x.se : Int), .int .u8 (x.bu : Int), .int .i8 x.n, .slice p x.th.length c] 33)).alloc (.cells #[.int .u8 (s.d : Int), .int .u8 (s.a : Int), .int .u8 (s.b : Int), .int .u8 (s.c : Int), .int .i8 s.n] 85)).alloc (.cells #[.int .i64 0, .string ⟨#[]⟩, .string ⟨#[]⟩, .bool false, .slice none 0 0, .slice none 0 0, .slice none 0 0, .int .i64 0] 87)).alloc (.cells #[.int .i64 2, .int .i64 1, .int .i64 2, .int .i64 1, .int .i64 3, .int .i64 4, .int .i64 5, .int .i64 6, .int .i64 7, .int .i64 8, .int .i64 9, .int .i64 10, .int .i64 11, .int .i64 12, .int .i64 13, .int .i64 14, .int .i64 15, .int .i64 16, .int .i64 0] 26)).alloc (.cells #[.int .i64 9, .string ⟨#[]⟩, .string ⟨#[]⟩, .bool false, .slice none 0 0, .slice none 0 0, .slice none 0 0, .int .i64 0] 87) = W := ⟨_, rfl⟩
  have HY : Hid (Yw w W n x p c s 9 ⟨#[]⟩ ⟨#[]⟩ false (.slice none 0 0)) := Lib.hid (by rw [← hW]; exact (HY0 _).out)
  rw [hW]
  clear hW hn HY0
  simp only [Nat.add_assoc, Nat.reduceAdd]
  go_cut [8] (fun u8 wx => u8 = .bool (decide (0 < x.se % 3)) ∧ ∃ v qs, Yw w wx n x p c s 9 ⟨#[]⟩ ⟨((lett 115 s.b (max (x.se % 3) 1)) : List UInt8).toArray⟩ false v ∧ Xo wx n qs v ∧ qs.map Prod.fst = [] ∧ (qs = [] → v = .slice none 0 0))
  case first =>
    obtain ⟨mm, hmm⟩ : ∃ mm : Nat, max (x.se % 3) 1 = mm := ⟨_, rfl⟩
    have hmi : max ((x.se : Int) % 3) 1 = (mm : Int) := by omega
    have hm0 : 0 < mm ∧ mm ≤ 10 := by omega
    have HLE := Lib.hid (fun w => letter_any 115 s.b mm hbb hm0.1 hm0.2 w)
    have x1 : W.cell? ⟨n, 3, none⟩ = some (.int .u8 (x.se : Int)) := HY.out.xC 3
    have x2 := HY.out.sB
    have x3 : W.cell? ⟨n + 4, 2, none⟩ = some (.string ⟨#[]⟩) := HY.out.yC 2
    have x4 := HY.out.yF 2
    have hok : decide (0 < x.se % 3) = decide (0 < (x.se : Int) % 3) := by congr 1; apply propext; constructor <;> intro h <;> omega
    have HOK := Lib.hid hok
    have HMM := Lib.hid hmm
    clear hok hmm
    go_wp2_with (go_at_call 26; refine (HLE.out _).mono ?_; rintro e w' ⟨rfl, rfl⟩)
    go_meet
    case rel => exact ⟨by rw [HOK.out], _, [], by rw [HMM.out]; exact HY.out.set 2 _ rfl, Xo.nil _ _, rfl, fun _ => rfl⟩
  case rest =>
    obtain ⟨rfl, v, qs, hcut, hXo, hq0, hnil0⟩ := hcut
    have HXN := Lib.hid hXo
    have HQ0 := Lib.hid hq0
    have HNIL := Lib.hid hnil0
    have hql : qs.length ≤ 1 := by have := congrArg List.length hq0; rw [List.length_map] at this; simp only [List.length_nil, List.length_cons] at this; omega
    clear hXo hq0 hnil0
    have HC6 := Lib.hid hcut
    clear hcut
    go_upto_block 1 with fail
    obtain ⟨Y, rfl⟩ : ∃ Y, Y = wc := ⟨_, rfl⟩
    have HXo := HXN
    go_cut [160] (fun _ wx => ∃ v qs, Yw w wx n x p c s 9 ⟨#[]⟩ ⟨((lett 115 s.b (max (x.se % 3) 1)) : List UInt8).toArray⟩ false v ∧ Xo wx n qs v ∧ qs.map Prod.fst = [] ∧ (qs = [] → v = .slice none 0 0))
    case first =>
      go_wp2
      go_meet
      case rel => exact ⟨_, _, HC6.out, HXo.out, HQ0.out, HNIL.out⟩
    case rest =>
      obtain ⟨v', qs', hYw, hXo, hqs, hnil⟩ := hcut
      obtain ⟨px, cx, rfl, hxv⟩ := hXo.read hnil
      have HYW := Lib.hid hYw
      have HXV := Lib.hid hxv
      have HQ := Lib.hid hqs
      have r0 : wc.cell? ⟨n + 4, 0, none⟩ = some (.int .i64 9) := hYw.yC 0
      have r1 : wc.cell? ⟨n + 4, 1, none⟩ = some (.string ⟨#[]⟩) := hYw.yC 1
      have r2 : wc.cell? ⟨n + 4, 2, none⟩ = some (.string ⟨((lett 115 s.b (max (x.se % 3) 1)) : List UInt8).toArray⟩) := hYw.yC 2
      have r3 : wc.cell? ⟨n + 4, 3, none⟩ = some (.bool false) := hYw.yC 3
      have r4 : wc.cell? ⟨n + 4, 4, none⟩ = some (.slice px (qs'.map Prod.fst).length cx) := hYw.yC 4
      have r5 : wc.cell? ⟨n + 4, 5, none⟩ = some (.slice none 0 0) := hYw.yC 5
      have r6 : wc.cell? ⟨n + 4, 6, none⟩ = some (.slice none 0 0) := hYw.yC 6
      have r7 : wc.cell? ⟨n + 4, 7, none⟩ = some (.int .i64 0) := hYw.yC 7
      have f0 := hYw.rF 0
      have f1 := hYw.rF 1
      have f2 := hYw.rF 2
      have f3 := hYw.rF 3
      have f4 := hYw.rF 4
      have f5 := hYw.rF 5
      have f6 := hYw.rF 6
      have f7 := hYw.rF 7
      have t0 : wc.cell? ⟨n + 2, 0, none⟩ = some (.int .i64 0) := hYw.rC 0
      have t1 : wc.cell? ⟨n + 2, 1, none⟩ = some (.string ⟨#[]⟩) := hYw.rC 1
      have t2 : wc.cell? ⟨n + 2, 2, none⟩ = some (.string ⟨#[]⟩) := hYw.rC 2
      have t3 : wc.cell? ⟨n + 2, 3, none⟩ = some (.bool false) := hYw.rC 3
      have t4 : wc.cell? ⟨n + 2, 4, none⟩ = some (.slice none 0 0) := hYw.rC 4
      have t5 : wc.cell? ⟨n + 2, 5, none⟩ = some (.slice none 0 0) := hYw.rC 5
      have t6 : wc.cell? ⟨n + 2, 6, none⟩ = some (.slice none 0 0) := hYw.rC 6
      have t7 : wc.cell? ⟨n + 2, 7, none⟩ = some (.int .i64 0) := hYw.rC 7
      have hlx : (qs'.map Prod.fst).length = ([] : List Ex).length := by rw [hqs]
      rw [hlx] at r4
      clear hYw hxv hqs hnil hXo hlx
      go_wp2
      obtain ⟨z1, z2⟩ := fin8 HN.out HYW.out.bel HYW.out.size HXV.out _ _ _ _ _ _ _ _ _ rfl
      rw [HQ.out] at z1
      refine bodyPost_ret (v := .tuple #[.agg #[.int .i64 9, .string ⟨#[]⟩, .string ⟨((lett 115 s.b (max (x.se % 3) 1)) : List UInt8).toArray⟩, .bool false, .slice px ([] : List Ex).length cx, .slice none 0 0, .slice none 0 0, .int .i64 0], .bool (decide (0 < x.se % 3))]) (by simp [results, Tryd.results40, go_sem, t0, t1, t2, t3, t4, t5, t6, t7]) rfl ⟨px, cx, rfl, z1, z2⟩

set_option maxRecDepth 100000 in
set_option maxHeartbeats 6400000 in
theorem mk_11 (x : Sml) (p : Option Addr) (c : Nat) (s : S5) (hx : Smok x) (hs : S5ok s) (hm : (s.d : Int) % 19 = 11) (w : World) : Calls Tryd.prog 40 #[smv x p c, s5v s] w (MkS w 10 [] (lett 115 s.b (max (x.se % 3) 1)) false [] (decide (0 < x.se % 3))) := by
  have hst := store_cx
  obtain ⟨n, hn⟩ : ∃ n, w.heap.size = n := ⟨_, rfl⟩
  have HN := Lib.hid hn
  have HY0 := fun o => Lib.hid (Yw.start w n hn x p c s 10 o)
  have HSO := Lib.hid hs
  have HXO := Lib.hid hx
  obtain ⟨i0, hi, hz0, hz1, hz2⟩ := info_parts e_info
  have HI := Lib.hid hi
  have HZ0 := Lib.hid hz0
  have HZ1 := Lib.hid hz1
  have HZ2 := Lib.hid hz2
  unfold xbox s5box ybox at HY0
  have hdd := hs.d
  have hbb := hs.b
  have hcc := hs.c
  have haa := hs.a
  obtain ⟨hnn0, hnn1⟩ := hs.n
  have hxc := hx.ce
  have hxa := hx.ar
  have hxm := hx.mu
  have hxs := hx.se
  have hxt := hx.th
  clear hx hs hi hz0 hz1 hz2
  unfold smv s5v
  go_enter Tryd.func40, Tryd.ntmps40
  go_upto_block 0 with fail
  obtain ⟨W, hW⟩ : ∃ W, ((((w.alloc (.cells #[.int .u8 (x.ce : Int), .int .u8 (x.ar : Int), .int .u8 (x.mu : Int), .int .u8 (x.se : Int), .int .u8 (x.bu : Int), .int .i8 x.n, .slice p x.th.length c] 33)).alloc (.cells #[.int .u8 (s.d : Int), .int .u8 (s.a : Int), .int .u8 (s.b : Int), .int .u8 (s.c : Int), .int .i8 s.n] 85)).alloc (.cells #[.int .i64 0, .string ⟨#[]⟩, .string ⟨#[]⟩, .bool false, .slice none 0 0, .slice none 0 0, .slice none 0 0, .int .i64 0] 87)).alloc (.cells #[.int .i64 2, .int .i64 1, .int .i64 2, .int .i64 1, .int .i64 3, .int .i64 4, .int .i64 5, .int .i64 6, .int .i64 7, .int .i64 8, .int .i64 9, .int .i64 10, .int .i64 11, .int .i64 12, .int .i64 13, .int .i64 14, .int .i64 15, .int .i64 16, .int .i64 0] 26)).alloc (.cells #[.int .i64 10, .string ⟨#[]⟩, .string ⟨#[]⟩, .bool false, .slice none 0 0, .slice none 0 0, .slice none 0 0, .int .i64 0] 87) = W := ⟨_, rfl⟩
  have HY : Hid (Yw w W n x p c s 10 ⟨#[]⟩ ⟨#[]⟩ false (.slice none 0 0)) := Lib.hid (by rw [← hW]; exact (HY0 _).out)
  rw [hW]
  clear hW hn HY0
  simp only [Nat.add_assoc, Nat.reduceAdd]
  go_cut [8] (fun u8 wx => u8 = .bool (decide (0 < x.se % 3)) ∧ ∃ v qs, Yw w wx n x p c s 10 ⟨#[]⟩ ⟨((lett 115 s.b (max (x.se % 3) 1)) : List UInt8).toArray⟩ false v ∧ Xo wx n qs v ∧ qs.map Prod.fst = [] ∧ (qs = [] → v = .slice none 0 0))
  case first =>
    obtain ⟨mm, hmm⟩ : ∃ mm : Nat, max (x.se % 3) 1 = mm := ⟨_, rfl⟩
    have hmi : max ((x.se : Int) % 3) 1 = (mm : Int) := by omega
    have hm0 : 0 < mm ∧ mm ≤ 10 := by omega
    have HLE := Lib.hid (fun w => letter_any 115 s.b mm hbb hm0.1 hm0.2 w)
    have x1 : W.cell? ⟨n, 3, none⟩ = some (.int .u8 (x.se : Int)) := HY.out.xC 3
    have x2 := HY.out.sB
    have x3 : W.cell? ⟨n + 4, 2, none⟩ = some (.string ⟨#[]⟩) := HY.out.yC 2
    have x4 := HY.out.yF 2
    have hok : decide (0 < x.se % 3) = decide (0 < (x.se : Int) % 3) := by congr 1; apply propext; constructor <;> intro h <;> omega
    have HOK := Lib.hid hok
    have HMM := Lib.hid hmm
    clear hok hmm
    go_wp2_with (go_at_call 26; refine (HLE.out _).mono ?_; rintro e w' ⟨rfl, rfl⟩)
    go_meet
    case rel => exact ⟨by rw [HOK.out], _, [], by rw [HMM.out]; exact HY.out.set 2 _ rfl, Xo.nil _ _, rfl, fun _ => rfl⟩
  case rest =>
    obtain ⟨rfl, v, qs, hcut, hXo, hq0, hnil0⟩ := hcut
    have HXN := Lib.hid hXo
    have HQ0 := Lib.hid hq0
    have HNIL := Lib.hid hnil0
    have hql : qs.length ≤ 1 := by have := congrArg List.length hq0; rw [List.length_map] at this; simp only [List.length_nil, List.length_cons] at this; omega
    clear hXo hq0 hnil0
    have HC6 := Lib.hid hcut
    clear hcut
    go_upto_block 1 with fail
    obtain ⟨Y, rfl⟩ : ∃ Y, Y = wc := ⟨_, rfl⟩
    have HXo := HXN
    go_cut [160] (fun _ wx => ∃ v qs, Yw w wx n x p c s 10 ⟨#[]⟩ ⟨((lett 115 s.b (max (x.se % 3) 1)) : List UInt8).toArray⟩ false v ∧ Xo wx n qs v ∧ qs.map Prod.fst = [] ∧ (qs = [] → v = .slice none 0 0))
    case first =>
      go_wp2
      go_meet
      case rel => exact ⟨_, _, HC6.out, HXo.out, HQ0.out, HNIL.out⟩
    case rest =>
      obtain ⟨v', qs', hYw, hXo, hqs, hnil⟩ := hcut
      obtain ⟨px, cx, rfl, hxv⟩ := hXo.read hnil
      have HYW := Lib.hid hYw
      have HXV := Lib.hid hxv
      have HQ := Lib.hid hqs
      have r0 : wc.cell? ⟨n + 4, 0, none⟩ = some (.int .i64 10) := hYw.yC 0
      have r1 : wc.cell? ⟨n + 4, 1, none⟩ = some (.string ⟨#[]⟩) := hYw.yC 1
      have r2 : wc.cell? ⟨n + 4, 2, none⟩ = some (.string ⟨((lett 115 s.b (max (x.se % 3) 1)) : List UInt8).toArray⟩) := hYw.yC 2
      have r3 : wc.cell? ⟨n + 4, 3, none⟩ = some (.bool false) := hYw.yC 3
      have r4 : wc.cell? ⟨n + 4, 4, none⟩ = some (.slice px (qs'.map Prod.fst).length cx) := hYw.yC 4
      have r5 : wc.cell? ⟨n + 4, 5, none⟩ = some (.slice none 0 0) := hYw.yC 5
      have r6 : wc.cell? ⟨n + 4, 6, none⟩ = some (.slice none 0 0) := hYw.yC 6
      have r7 : wc.cell? ⟨n + 4, 7, none⟩ = some (.int .i64 0) := hYw.yC 7
      have f0 := hYw.rF 0
      have f1 := hYw.rF 1
      have f2 := hYw.rF 2
      have f3 := hYw.rF 3
      have f4 := hYw.rF 4
      have f5 := hYw.rF 5
      have f6 := hYw.rF 6
      have f7 := hYw.rF 7
      have t0 : wc.cell? ⟨n + 2, 0, none⟩ = some (.int .i64 0) := hYw.rC 0
      have t1 : wc.cell? ⟨n + 2, 1, none⟩ = some (.string ⟨#[]⟩) := hYw.rC 1
      have t2 : wc.cell? ⟨n + 2, 2, none⟩ = some (.string ⟨#[]⟩) := hYw.rC 2
      have t3 : wc.cell? ⟨n + 2, 3, none⟩ = some (.bool false) := hYw.rC 3
      have t4 : wc.cell? ⟨n + 2, 4, none⟩ = some (.slice none 0 0) := hYw.rC 4
      have t5 : wc.cell? ⟨n + 2, 5, none⟩ = some (.slice none 0 0) := hYw.rC 5
      have t6 : wc.cell? ⟨n + 2, 6, none⟩ = some (.slice none 0 0) := hYw.rC 6
      have t7 : wc.cell? ⟨n + 2, 7, none⟩ = some (.int .i64 0) := hYw.rC 7
      have hlx : (qs'.map Prod.fst).length = ([] : List Ex).length := by rw [hqs]
      rw [hlx] at r4
      clear hYw hxv hqs hnil hXo hlx
      go_wp2
      obtain ⟨z1, z2⟩ := fin8 HN.out HYW.out.bel HYW.out.size HXV.out _ _ _ _ _ _ _ _ _ rfl
      rw [HQ.out] at z1
      refine bodyPost_ret (v := .tuple #[.agg #[.int .i64 10, .string ⟨#[]⟩, .string ⟨((lett 115 s.b (max (x.se % 3) 1)) : List UInt8).toArray⟩, .bool false, .slice px ([] : List Ex).length cx, .slice none 0 0, .slice none 0 0, .int .i64 0], .bool (decide (0 < x.se % 3))]) (by simp [results, Tryd.results40, go_sem, t0, t1, t2, t3, t4, t5, t6, t7]) rfl ⟨px, cx, rfl, z1, z2⟩

set_option maxRecDepth 100000 in
set_option maxHeartbeats 6400000 in
theorem mk_12 (x : Sml) (p : Option Addr) (c : Nat) (s : S5) (hx : Smok x) (hs : S5ok s) (hm : (s.d : Int) % 19 = 12) (w : World) : Calls Tryd.prog 40 #[smv x p c, s5v s] w (MkS w 11 [] (lett 116 s.b (max x.th.length 1)) false [] true) := by
  have hst := store_cx
  obtain ⟨n, hn⟩ : ∃ n, w.heap.size = n := ⟨_, rfl⟩
  have HN := Lib.hid hn
  have HY0 := fun o => Lib.hid (Yw.start w n hn x p c s 11 o)
  have HSO := Lib.hid hs
  have HXO := Lib.hid hx
  obtain ⟨i0, hi, hz0, hz1, hz2⟩ := info_parts e_info
  have HI := Lib.hid hi
  have HZ0 := Lib.hid hz0
  have HZ1 := Lib.hid hz1
  have HZ2 := Lib.hid hz2
  unfold xbox s5box ybox at HY0
  have hdd := hs.d
  have hbb := hs.b
  have hcc := hs.c
  have haa := hs.a
  obtain ⟨hnn0, hnn1⟩ := hs.n
  have hxc := hx.ce
  have hxa := hx.ar
  have hxm := hx.mu
  have hxs := hx.se
  have hxt := hx.th
  clear hx hs hi hz0 hz1 hz2
  unfold smv s5v
  go_enter Tryd.func40, Tryd.ntmps40
  go_upto_block 0 with fail
  obtain ⟨W, hW⟩ : ∃ W, ((((w.alloc (.cells #[.int .u8 (x.ce : Int), .int .u8 (x.ar : Int), .int .u8 (x.mu : Int), .int .u8 (x.se : Int), .int .u8 (x.bu : Int), .int .i8 x.n, .slice p x.th.length c] 33)).alloc (.cells #[.int .u8 (s.d : Int), .int .u8 (s.a : Int), .int .u8 (s.b : Int), .int .u8 (s.c : Int), .int .i8 s.n] 85)).alloc (.cells #[.int .i64 0, .string ⟨#[]⟩, .string ⟨#[]⟩, .bool false, .slice none 0 0, .slice none 0 0, .slice none 0 0, .int .i64 0] 87)).alloc (.cells #[.int .i64 2, .int .i64 1, .int .i64 2, .int .i64 1, .int .i64 3, .int .i64 4, .int .i64 5, .int .i64 6, .int .i64 7, .int .i64 8, .int .i64 9, .int .i64 10, .int .i64 11, .int .i64 12, .int .i64 13, .int .i64 14, .int .i64 15, .int .i64 16, .int .i64 0] 26)).alloc (.cells #[.int .i64 11, .string ⟨#[]⟩, .string ⟨#[]⟩, .bool false, .slice none 0 0, .slice none 0 0, .slice none 0 0, .int .i64 0] 87) = W := ⟨_, rfl⟩
  have HY : Hid (Yw w W n x p c s 11 ⟨#[]⟩ ⟨#[]⟩ false (.slice none 0 0)) := Lib.hid (by rw [← hW]; exact (HY0 _).out)
  rw [hW]
  clear hW hn HY0
  simp only [Nat.add_assoc, Nat.reduceAdd]
  go_cut [8] (fun u8 wx => u8 = .bool true ∧ ∃ v qs, Yw w wx n x p c s 11 ⟨#[]⟩ ⟨((lett 116 s.b (max x.th.length 1)) : List UInt8).toArray⟩ false v ∧ Xo wx n qs v ∧ qs.map Prod.fst = [] ∧ (qs = [] → v = .slice none 0 0))
  case first =>
    obtain ⟨mm, hmm⟩ : ∃ mm : Nat, max x.th.length 1 = mm := ⟨_, rfl⟩
    have hm0 : 0 < mm ∧ mm ≤ 10 := by omega
    have hmi : max ((x.th.length : Nat) : Int) 1 = (mm : Int) := by omega
    have HLE := Lib.hid (fun w => letter_any 116 s.b mm hbb hm0.1 hm0.2 w)
    have x1 : W.cell? ⟨n, 6, none⟩ = some (.slice p x.th.length c) := HY.out.xC 6
    have x2 := HY.out.sB
    have x3 : W.cell? ⟨n + 4, 2, none⟩ = some (.string ⟨#[]⟩) := HY.out.yC 2
    have x4 := HY.out.yF 2
    have HMM := Lib.hid hmm
    clear hmm
    go_wp2_with (go_at_call 26; refine (HLE.out _).mono ?_; rintro e w' ⟨rfl, rfl⟩)
    go_meet
    case rel => exact ⟨rfl, _, [], by rw [HMM.out]; exact HY.out.set 2 _ rfl, Xo.nil _ _, rfl, fun _ => rfl⟩
  case rest =>
    obtain ⟨rfl, v, qs, hcut, hXo, hq0, hnil0⟩ := hcut
    have HXN := Lib.hid hXo
    have HQ0 := Lib.hid hq0
    have HNIL := Lib.hid hnil0
    have hql : qs.length ≤ 1 := by have := congrArg List.length hq0; rw [List.length_map] at this; simp only [List.length_nil, List.length_cons] at this; omega
    clear hXo hq0 hnil0
    have HC6 := Lib.hid hcut
    clear hcut
    go_upto_block 1 with fail
    obtain ⟨Y, rfl⟩ : ∃ Y, Y = wc := ⟨_, rfl⟩
    have HXo := HXN
    go_cut [160] (fun _ wx => ∃ v qs, Yw w wx n x p c s 11 ⟨#[]⟩ ⟨((lett 116 s.b (max x.th.length 1)) : List UInt8).toArray⟩ false v ∧ Xo wx n qs v ∧ qs.map Prod.fst = [] ∧ (qs = [] → v = .slice none 0 0))
    case first =>
      go_wp2
      go_meet
      case rel => exact ⟨_, _, HC6.out, HXo.out, HQ0.out, HNIL.out⟩
    case rest =>
      obtain ⟨v', qs', hYw, hXo, hqs, hnil⟩ := hcut
      obtain ⟨px, cx, rfl, hxv⟩ := hXo.read hnil
      have HYW := Lib.hid hYw
      have HXV := Lib.hid hxv
      have HQ := Lib.hid hqs
      have r0 : wc.cell? ⟨n + 4, 0, none⟩ = some (.int .i64 11) := hYw.yC 0
      have r1 : wc.cell? ⟨n + 4, 1, none⟩ = some (.string ⟨#[]⟩) := hYw.yC 1
      have r2 : wc.cell? ⟨n + 4, 2, none⟩ = some (.string ⟨((lett 116 s.b (max x.th.length 1)) : List UInt8).toArray⟩) := hYw.yC 2
      have r3 : wc.cell? ⟨n + 4, 3, none⟩ = some (.bool false) := hYw.yC 3
      have r4 : wc.cell? ⟨n + 4, 4, none⟩ = some (.slice px (qs'.map Prod.fst).length cx) := hYw.yC 4
      have r5 : wc.cell? ⟨n + 4, 5, none⟩ = some (.slice none 0 0) := hYw.yC 5
      have r6 : wc.cell? ⟨n + 4, 6, none⟩ = some (.slice none 0 0) := hYw.yC 6
      have r7 : wc.cell? ⟨n + 4, 7, none⟩ = some (.int .i64 0) := hYw.yC 7
      have f0 := hYw.rF 0
      have f1 := hYw.rF 1
      have f2 := hYw.rF 2
      have f3 := hYw.rF 3
      have f4 := hYw.rF 4
      have f5 := hYw.rF 5
      have f6 := hYw.rF 6
      have f7 := hYw.rF 7
      have t0 : wc.cell? ⟨n + 2, 0, none⟩ = some (.int .i64 0) := hYw.rC 0
      have t1 : wc.cell? ⟨n + 2, 1, none⟩ = some (.string ⟨#[]⟩) := hYw.rC 1
      have t2 : wc.cell? ⟨n + 2, 2, none⟩ = some (.string ⟨#[]⟩) := hYw.rC 2
      have t3 : wc.cell? ⟨n + 2, 3, none⟩ = some (.bool false) := hYw.rC 3
      have t4 : wc.cell? ⟨n + 2, 4, none⟩ = some (.slice none 0 0) := hYw.rC 4
      have t5 : wc.cell? ⟨n + 2, 5, none⟩ = some (.slice none 0 0) := hYw.rC 5
      have t6 : wc.cell? ⟨n + 2, 6, none⟩ = some (.slice none 0 0) := hYw.rC 6
      have t7 : wc.cell? ⟨n + 2, 7, none⟩ = some (.int .i64 0) := hYw.rC 7
      have hlx : (qs'.map Prod.fst).length = ([] : List Ex).length := by rw [hqs]
      rw [hlx] at r4
      clear hYw hxv hqs hnil hXo hlx
      go_wp2
      obtain ⟨z1, z2⟩ := fin8 HN.out HYW.out.bel HYW.out.size HXV.out _ _ _ _ _ _ _ _ _ rfl
      rw [HQ.out] at z1
      refine bodyPost_ret (v := .tuple #[.agg #[.int .i64 11, .string ⟨#[]⟩, .string ⟨((lett 116 s.b (max x.th.length 1)) : List UInt8).toArray⟩, .bool false, .slice px ([] : List Ex).length cx, .slice none 0 0, .slice none 0 0, .int .i64 0], .bool true]) (by simp [results, Tryd.results40, go_sem, t0, t1, t2, t3, t4, t5, t6, t7]) rfl ⟨px, cx, rfl, z1, z2⟩

set_option maxRecDepth 100000 in
set_option maxHeartbeats 6400000 in
theorem mk_13 (x : Sml) (p : Option Addr) (c : Nat) (s : S5) (hx : Smok x) (hs : S5ok s) (hm : (s.d : Int) % 19 = 13) (w : World) : Calls Tryd.prog 40 #[smv x p c, s5v s] w (MkS w 12 [] (lett 116 s.b (max x.th.length 1)) false [] true) := by
  have hst := store_cx
  obtain ⟨n, hn⟩ : ∃ n, w.heap.size = n := ⟨_, rfl⟩
  have HN := Lib.hid hn
  have HY0 := fun o => Lib.hid (Yw.start w n hn x p c s 12 o)
  have HSO := Lib.hid hs
  have HXO := Lib.hid hx
  obtain ⟨i0, hi, hz0, hz1, hz2⟩ := info_parts e_info
  have HI := Lib.hid hi
  have HZ0 := Lib.hid hz0
  have HZ1 := Lib.hid hz1
  have HZ2 := Lib.hid hz2
  unfold xbox s5box ybox at HY0
  have hdd := hs.d
  have hbb := hs.b
  have hcc := hs.c
  have haa := hs.a
  obtain ⟨hnn0, hnn1⟩ := hs.n
  have hxc := hx.ce
  have hxa := hx.ar
  have hxm := hx.mu
  have hxs := hx.se
  have hxt := hx.th
  clear hx hs hi hz0 hz1 hz2
  unfold smv s5v
  go_enter Tryd.func40, Tryd.ntmps40
  go_upto_block 0 with fail
  obtain ⟨W, hW⟩ : ∃ W, ((((w.alloc (.cells #[.int .u8 (x.ce : Int), .int .u8 (x.ar : Int), .int .u8 (x.mu : Int), .int .u8 (x.se : Int), .int .u8 (x.bu : Int), .int .i8 x.n, .slice p x.th.length c] 33)).alloc (.cells #[.int .u8 (s.d : Int), .int .u8 (s.a : Int), .int .u8 (s.b : Int), .int .u8 (s.c : Int), .int .i8 s.n] 85)).alloc (.cells #[.int .i64 0, .string ⟨#[]⟩, .string ⟨#[]⟩, .bool false, .slice none 0 0, .slice none 0 0, .slice none 0 0, .int .i64 0] 87)).alloc (.cells #[.int .i64 2, .int .i64 1, .int .i64 2, .int .i64 1, .int .i64 3, .int .i64 4, .int .i64 5, .int .i64 6, .int .i64 7, .int .i64 8, .int .i64 9, .int .i64 10, .int .i64 11, .int .i64 12, .int .i64 13, .int .i64 14, .int .i64 15, .int .i64 16, .int .i64 0] 26)).alloc (.cells #[.int .i64 12, .string ⟨#[]⟩, .string ⟨#[]⟩, .bool false, .slice none 0 0, .slice none 0 0, .slice none 0 0, .int .i64 0] 87) = W := ⟨_, rfl⟩
  have HY : Hid (Yw w W n x p c s 12 ⟨#[]⟩ ⟨#[]⟩ false (.slice none 0 0)) := Lib.hid (by rw [← hW]; exact (HY0 _).out)
  rw [hW]
  clear hW hn HY0
  simp only [Nat.add_assoc, Nat.reduceAdd]
  go_cut [8] (fun u8 wx => u8 = .bool true ∧ ∃ v qs, Yw w wx n x p c s 12 ⟨#[]⟩ ⟨((lett 116 s.b (max x.th.length 1)) : List UInt8).toArray⟩ false v ∧ Xo wx n qs v ∧ qs.map Prod.fst = [] ∧ (qs = [] → v = .slice none 0 0))
  case first =>
    obtain ⟨mm, hmm⟩ : ∃ mm : Nat, max x.th.length 1 = mm := ⟨_, rfl⟩
    have hm0 : 0 < mm ∧ mm ≤ 10 := by omega
    have hmi : max ((x.th.length : Nat) : Int) 1 = (mm : Int) := by omega
    have HLE := Lib.hid (fun w => letter_any 116 s.b mm hbb hm0.1 hm0.2 w)
    have x1 : W.cell? ⟨n, 6, none⟩ = some (.slice p x.th.length c) := HY.out.xC 6
    have x2 := HY.out.sB
    have x3 : W.cell? ⟨n + 4, 2, none⟩ = some (.string ⟨#[]⟩) := HY.out.yC 2
    have x4 := HY.out.yF 2
    have HMM := Lib.hid hmm
    clear hmm
    go_wp2_with (go_at_call 26; refine (HLE.out _).mono ?_; rintro e w' ⟨rfl, rfl⟩)
    go_meet
    case rel => exact ⟨rfl, _, [], by rw [HMM.out]; exact HY.out.set 2 _ rfl, Xo.nil _ _, rfl, fun _ => rfl⟩
  case rest =>
    obtain ⟨rfl, v, qs, hcut, hXo, hq0, hnil0⟩ := hcut
    have HXN := Lib.hid hXo
    have HQ0 := Lib.hid hq0
    have HNIL := Lib.hid hnil0
    have hql : qs.length ≤ 1 := by have := congrArg List.length hq0; rw [List.length_map] at this; simp only [List.length_nil, List.length_cons] at this; omega
    clear hXo hq0 hnil0
    have HC6 := Lib.hid hcut
    clear hcut
    go_upto_block 1 with fail
    obtain ⟨Y, rfl⟩ : ∃ Y, Y = wc := ⟨_, rfl⟩
    have HXo := HXN
    go_cut [160] (fun _ wx => ∃ v qs, Yw w wx n x p c s 12 ⟨#[]⟩ ⟨((lett 116 s.b (max x.th.length 1)) : List UInt8).toArray⟩ false v ∧ Xo wx n qs v ∧ qs.map Prod.fst = [] ∧ (qs = [] → v = .slice none 0 0))
    case first =>
      go_wp2
      go_meet
      case rel => exact ⟨_, _, HC6.out, HXo.out, HQ0.out, HNIL.out⟩
    case rest =>
      obtain ⟨v', qs', hYw, hXo, hqs, hnil⟩ := hcut
      obtain ⟨px, cx, rfl, hxv⟩ := hXo.read hnil
      have HYW := Lib.hid hYw
      have HXV := Lib.hid hxv
      have HQ := Lib.hid hqs
      have r0 : wc.cell? ⟨n + 4, 0, none⟩ = some (.int .i64 12) := hYw.yC 0
      have r1 : wc.cell? ⟨n + 4, 1, none⟩ = some (.string ⟨#[]⟩) := hYw.yC 1
      have r2 : wc.cell? ⟨n + 4, 2, none⟩ = some (.string ⟨((lett 116 s.b (max x.th.length 1)) : List UInt8).toArray⟩) := hYw.yC 2
      have r3 : wc.cell? ⟨n + 4, 3, none⟩ = some (.bool false) := hYw.yC 3
      have r4 : wc.cell? ⟨n + 4, 4, none⟩ = some (.slice px (qs'.map Prod.fst).length cx) := hYw.yC 4
      have r5 : wc.cell? ⟨n + 4, 5, none⟩ = some (.slice none 0 0) := hYw.yC 5
      have r6 : wc.cell? ⟨n + 4, 6, none⟩ = some (.slice none 0 0) := hYw.yC 6
      have r7 : wc.cell? ⟨n + 4, 7, none⟩ = some (.int .i64 0) := hYw.yC 7
      have f0 := hYw.rF 0
      have f1 := hYw.rF 1
      have f2 := hYw.rF 2
      have f3 := hYw.rF 3
      have f4 := hYw.rF 4
      have f5 := hYw.rF 5
      have f6 := hYw.rF 6
      have f7 := hYw.rF 7
      have t0 : wc.cell? ⟨n + 2, 0, none⟩ = some (.int .i64 0) := hYw.rC 0
      have t1 : wc.cell? ⟨n + 2, 1, none⟩ = some (.string ⟨#[]⟩) := hYw.rC 1
      have t2 : wc.cell? ⟨n + 2, 2, none⟩ = some (.string ⟨#[]⟩) := hYw.rC 2
      have t3 : wc.cell? ⟨n + 2, 3, none⟩ = some (.bool false) := hYw.rC 3
      have t4 : wc.cell? ⟨n + 2, 4, none⟩ = some (.slice none 0 0) := hYw.rC 4
      have t5 : wc.cell? ⟨n + 2, 5, none⟩ = some (.slice none 0 0) := hYw.rC 5
      have t6 : wc.cell? ⟨n + 2, 6, none⟩ = some (.slice none 0 0) := hYw.rC 6
      have t7 : wc.cell? ⟨n + 2, 7, none⟩ = some (.int .i64 0) := hYw.rC 7
      have hlx : (qs'.map Prod.fst).length = ([] : List Ex).length := by rw [hqs]
      rw [hlx] at r4
      clear hYw hxv hqs hnil hXo hlx
      go_wp2
      obtain ⟨z1, z2⟩ := fin8 HN.out HYW.out.bel HYW.out.size HXV.out _ _ _ _ _ _ _ _ _ rfl
      rw [HQ.out] at z1
      refine bodyPost_ret (v := .tuple #[.agg #[.int .i64 12, .string ⟨#[]⟩, .string ⟨((lett 116 s.b (max x.th.length 1)) : List UInt8).toArray⟩, .bool false, .slice px ([] : List Ex).length cx, .slice none 0 0, .slice none 0 0, .int .i64 0], .bool true]) (by simp [results, Tryd.results40, go_sem, t0, t1, t2, t3, t4, t5, t6, t7]) rfl ⟨px, cx, rfl, z1, z2⟩
end Go.Proofs.YtmomdcnlhljhcaaDoor
