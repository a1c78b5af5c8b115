/- The law's statement, kind by kind (without an index, and but for Cas). -/
import Derived.Test.YtmomdcnlhljhcaaDoorMx
import Derived.Deep.RegionHeld3
import Derived.Deep.AppendLies
import Derived.Deep.RegionLaw
import Derived.BigRegion
import Derived.Deep.DeepCutAuto
import Derived.Deep.CutBlock
set_option linter.unusedSimpArgs false
set_option linter.unusedVariables false
namespace Go.Proofs.YtmomdcnlhljhcaaDoor
open Go.RowKit Ieee

set_option maxRecDepth 100000 in
set_option maxHeartbeats 6400000 in
theorem mk_16 (x : Sml) (p : Option Addr) (c : Nat) (s : S5) (hx : Smok x) (hs : S5ok s) (hm : (s.d : Int) % 19 = 16) (w : World) : Calls Tryd.prog 40 #[smv x p c, s5v s] w (MkS w 15 [] [] false [aExpr s.a s.n] true) := by
  have hst := store_cx
  obtain ⟨n, hn⟩ : ∃ n, w.heap.size = n := ⟨_, rfl⟩
  have HN := Lib.hid hn
  have HY0 := fun o => Lib.hid (Yw.start w n hn x p c s 15 o)
  have HSO := Lib.hid hs
  have HXO := Lib.hid hx
  obtain ⟨i0, hi, hz0, hz1, hz2⟩ := info_parts e_info
  have HI := Lib.hid hi
  have HZ0 := Lib.hid hz0
  have HZ1 := Lib.hid hz1
  have HZ2 := Lib.hid hz2
  unfold xbox s5box ybox at HY0
  have hdd := hs.d
  have hbb := hs.b
  have hcc := hs.c
  have haa := hs.a
  obtain ⟨hnn0, hnn1⟩ := hs.n
  have hxc := hx.ce
  have hxa := hx.ar
  have hxm := hx.mu
  have hxs := hx.se
  have hxt := hx.th
  clear hx hs hi hz0 hz1 hz2
  unfold smv s5v
  go_enter Tryd.func40, Tryd.ntmps40
  go_upto_block 0 with fail
  obtain ⟨W, hW⟩ : ∃ W, ((((w.alloc (.cells #[.int .u8 (x.ce : Int), .int .u8 (x.ar : Int), .int .u8 (x.mu : Int), .int .u8 (x.se : Int), .int .u8 (x.bu : Int), .int .i8 x.n, .slice p x.th.length c] 33)).alloc (.cells #[.int .u8 (s.d : Int), .int .u8 (s.a : Int), .int .u8 (s.b : Int), .int .u8 (s.c : Int), .int .i8 s.n] 85)).alloc (.cells #[.int .i64 0, .string ⟨#[]⟩, .string ⟨#[]⟩, .bool false, .slice none 0 0, .slice none 0 0, .slice none 0 0, .int .i64 0] 87)).alloc (.cells #[.int .i64 2, .int .i64 1, .int .i64 2, .int .i64 1, .int .i64 3, .int .i64 4, .int .i64 5, .int .i64 6, .int .i64 7, .int .i64 8, .int .i64 9, .int .i64 10, .int .i64 11, .int .i64 12, .int .i64 13, .int .i64 14, .int .i64 15, .int .i64 16, .int .i64 0] 26)).alloc (.cells #[.int .i64 15, .string ⟨#[]⟩, .string ⟨#[]⟩, .bool false, .slice none 0 0, .slice none 0 0, .slice none 0 0, .int .i64 0] 87) = W := ⟨_, rfl⟩
  have HY : Hid (Yw w W n x p c s 15 ⟨#[]⟩ ⟨#[]⟩ false (.slice none 0 0)) := Lib.hid (by rw [← hW]; exact (HY0 _).out)
  rw [hW]
  clear hW hn HY0
  simp only [Nat.add_assoc, Nat.reduceAdd]
  go_cut [8] (fun u8 wx => u8 = .bool true ∧ ∃ v qs, Yw w wx n x p c s 15 ⟨#[]⟩ ⟨([] : List UInt8).toArray⟩ false v ∧ Xo wx n qs v ∧ qs.map Prod.fst = [] ∧ (qs = [] → v = .slice none 0 0))
  case first =>
    have x2 := HY.out.sB
    go_wp2
    go_meet
    case rel => exact ⟨rfl, _, [], HY.out, Xo.nil _ _, rfl, fun _ => rfl⟩
  case rest =>
    obtain ⟨rfl, v, qs, hcut, hXo, hq0, hnil0⟩ := hcut
    have HXN := Lib.hid hXo
    have HQ0 := Lib.hid hq0
    have HNIL := Lib.hid hnil0
    have hql : qs.length ≤ 1 := by have := congrArg List.length hq0; rw [List.length_map] at this; simp only [List.length_nil, List.length_cons] at this; omega
    clear hXo hq0 hnil0
    have HC6 := Lib.hid hcut
    clear hcut
    go_upto_block 1 with fail
    obtain ⟨Y, rfl⟩ : ∃ Y, Y = wc := ⟨_, rfl⟩
    have HXo := HXN
    go_cut [160] (fun _ wx => ∃ v qs, Yw w wx n x p c s 15 ⟨#[]⟩ ⟨([] : List UInt8).toArray⟩ false v ∧ Xo wx n qs v ∧ qs.map Prod.fst = [aExpr s.a s.n] ∧ (qs = [] → v = .slice none 0 0))
    case first =>
      have y1 := HC6.out.sA
      have y2 := HC6.out.sN
      have y3 : Y.cell? ⟨n + 4, 4, none⟩ = some v := HC6.out.yC 4
      have y4 := HC6.out.yF 4
      have hYs := HC6.out.size
      have hYn : n + 4 < Y.heap.size := by omega
      have hYn1 : n + 1 < Y.heap.size := by omega
      have hvb : some (n + 4) ≠ (v : Value).ownBlock := by intro h; have := (HXo.out.own.lt _ h.symm).1; omega
      obtain ⟨s0, hs0⟩ : ∃ s0, opB (aExpr s.a s.n) = s0 := ⟨_, rfl⟩
      obtain ⟨s1, hs1⟩ : ∃ s1, nmB (aExpr s.a s.n) = s1 := ⟨_, rfl⟩
      obtain ⟨ex, hex⟩ : ∃ ex, nxB (aExpr s.a s.n) = ex := ⟨_, rfl⟩
      obtain ⟨ey, hey⟩ : ∃ ey, nyB (aExpr s.a s.n) = ey := ⟨_, rfl⟩
      obtain ⟨en, hen⟩ : ∃ en, npB (aExpr s.a s.n) = en := ⟨_, rfl⟩
      have HEX : Hid (∀ w, Calls Tryd.prog 50 #[.int .u8 (s.a : Int), .int .i8 s.n] w fun e w' => ∃ q, e = .returned (.agg #[.string s0, .complex .f64 ex ey, .string s1, .slice q en en]) ∧ Px w' (fun g => w.heap.size ≤ g ∧ g < w'.heap.size) (aExpr s.a s.n) q ∧ Below w.heap.size w w') :=
        Lib.hid (fun w => (expr_any s.a s.n haa hnn0 hnn1 w).mono fun e w' ⟨q, h1, h2⟩ => ⟨q, by rw [h1, ← hs0, ← hs1, ← hex, ← hey, ← hen]; rfl, h2⟩)
      have HEQ : Hid (∀ q, exq (aExpr s.a s.n) q = exc s0 ex ey s1 q en) := Lib.hid (fun q => by unfold exq; rw [hs0, hs1, hex, hey, hen])
      clear hs0 hs1 hex hey hen
      obtain ⟨qn, hqn⟩ : ∃ qn, (qs : List (Ex × Option Addr)).length = qn := ⟨_, rfl⟩
      have hqb : qn ≤ 1 := by rw [← hqn]; first | exact hql | simp
      have HQN := Lib.hid hqn
      have HOW : Hid (Y.ownsRow (n + 5) 48 4 v qn (qcs qs)) := Lib.hid (by rw [← hqn]; exact HXo.out.own)
      clear hqn
      go_wp2
      go_region_law (first
        | ((refine step_append_lies _ (by rfl) (.tmp 153) (.tmp 159) 46 (by rfl) (n + 5) 48 i0 _ 4 72 Tryd.underlying46 HI.out HZ0.out HZ1.out HZ2.out rfl (by decide) v qn (qcs qs) (by rfl) (ow2.alloc _) ⟨w2.heap.size, 0, none⟩ 1 1 (exc s0 ex ey s1 q en) (by rfl) (by rfl) (new_cells w2 (exc s0 ex ey s1 q en) 48) (exc_one _ _ _ _ _ _) (by decide) (by unfold maxLen; omega) (by omega) (by simp; omega) (w2.heap.size + 1) (by simp) ?_); intro g cap w3 hown hgrow hat hlt; have hq3 : w3.cell? ⟨n + 4, 4, none⟩ = some v := far_cell hb2 hgrow y3 hvb; have hq4 : w3.frozen? ⟨n + 4, 4, none⟩ = false := far_frozen hb2 hgrow hYn y4 hvb)
        | (go_simp; go_at_call 50; refine (HEX.out _).mono ?_; rintro e w2 ⟨q, rfl, hpx, hb2⟩; have hv1 : w2.cell? ⟨n + 4, 4, none⟩ = some v := (hb2.cell (p := ⟨n + 4, 4, none⟩) hYn).trans y3; have hz2 : n + 5 ≤ w2.heap.size := Nat.le_trans (by simp; omega) hb2.size; have hz3 : n + 4 < w2.heap.size := (by omega); have ow2 : w2.ownsRow (n + 5) 48 4 v qn (qcs qs) := own_below (w := Y.drew) HOW.out hb2))
      all_goals (go_wp2_with fail; go_meet)
      all_goals
        have hyw := ((HC6.out.drew.keep hb2).far hgrow (fun g hg => (HXo.out.own.lt g hg).1)).set 4 (.slice (some ⟨g, 0, none⟩) (qn + 1) cap) rfl
        have hxo := HXo.out.drew.app (ns := [((aExpr s.a s.n), q)]) (m := 1) hYs hb2 (by intro z hz; simp only [List.mem_cons, List.not_mem_nil, or_false] at hz; subst hz; exact hpx) rfl hgrow hat (cap := cap) (by rw [HQN.out, show qcs [((aExpr s.a s.n), q)] = exc s0 ex ey s1 q en by simp [qcs, HEQ.out]]; exact hown)
        rw [HQN.out] at hxo
        exact ⟨_, _, hyw, hxo.setY 4 _, by rw [List.map_append, HQ0.out]; rfl, by simp⟩
    case rest =>
      obtain ⟨v', qs', hYw, hXo, hqs, hnil⟩ := hcut
      obtain ⟨px, cx, rfl, hxv⟩ := hXo.read hnil
      have HYW := Lib.hid hYw
      have HXV := Lib.hid hxv
      have HQ := Lib.hid hqs
      have r0 : wc.cell? ⟨n + 4, 0, none⟩ = some (.int .i64 15) := hYw.yC 0
      have r1 : wc.cell? ⟨n + 4, 1, none⟩ = some (.string ⟨#[]⟩) := hYw.yC 1
      have r2 : wc.cell? ⟨n + 4, 2, none⟩ = some (.string ⟨([] : List UInt8).toArray⟩) := hYw.yC 2
      have r3 : wc.cell? ⟨n + 4, 3, none⟩ = some (.bool false) := hYw.yC 3
      have r4 : wc.cell? ⟨n + 4, 4, none⟩ = some (.slice px (qs'.map Prod.fst).length cx) := hYw.yC 4
      have r5 : wc.cell? ⟨n + 4, 5, none⟩ = some (.slice none 0 0) := hYw.yC 5
      have r6 : wc.cell? ⟨n + 4, 6, none⟩ = some (.slice none 0 0) := hYw.yC 6
      have r7 : wc.cell? ⟨n + 4, 7, none⟩ = some (.int .i64 0) := hYw.yC 7
      have f0 := hYw.rF 0
      have f1 := hYw.rF 1
      have f2 := hYw.rF 2
      have f3 := hYw.rF 3
      have f4 := hYw.rF 4
      have f5 := hYw.rF 5
      have f6 := hYw.rF 6
      have f7 := hYw.rF 7
      have t0 : wc.cell? ⟨n + 2, 0, none⟩ = some (.int .i64 0) := hYw.rC 0
      have t1 : wc.cell? ⟨n + 2, 1, none⟩ = some (.string ⟨#[]⟩) := hYw.rC 1
      have t2 : wc.cell? ⟨n + 2, 2, none⟩ = some (.string ⟨#[]⟩) := hYw.rC 2
      have t3 : wc.cell? ⟨n + 2, 3, none⟩ = some (.bool false) := hYw.rC 3
      have t4 : wc.cell? ⟨n + 2, 4, none⟩ = some (.slice none 0 0) := hYw.rC 4
      have t5 : wc.cell? ⟨n + 2, 5, none⟩ = some (.slice none 0 0) := hYw.rC 5
      have t6 : wc.cell? ⟨n + 2, 6, none⟩ = some (.slice none 0 0) := hYw.rC 6
      have t7 : wc.cell? ⟨n + 2, 7, none⟩ = some (.int .i64 0) := hYw.rC 7
      have hlx : (qs'.map Prod.fst).length = ([aExpr s.a s.n] : List Ex).length := by rw [hqs]
      rw [hlx] at r4
      clear hYw hxv hqs hnil hXo hlx
      go_wp2
      obtain ⟨z1, z2⟩ := fin8 HN.out HYW.out.bel HYW.out.size HXV.out _ _ _ _ _ _ _ _ _ rfl
      rw [HQ.out] at z1
      refine bodyPost_ret (v := .tuple #[.agg #[.int .i64 15, .string ⟨#[]⟩, .string ⟨([] : List UInt8).toArray⟩, .bool false, .slice px ([aExpr s.a s.n] : List Ex).length cx, .slice none 0 0, .slice none 0 0, .int .i64 0], .bool true]) (by simp [results, Tryd.results40, go_sem, t0, t1, t2, t3, t4, t5, t6, t7]) rfl ⟨px, cx, rfl, z1, z2⟩

set_option maxRecDepth 100000 in
set_option maxHeartbeats 6400000 in
theorem mk_17 (x : Sml) (p : Option Addr) (c : Nat) (s : S5) (hx : Smok x) (hs : S5ok s) (hm : (s.d : Int) % 19 = 17) (w : World) : Calls Tryd.prog 40 #[smv x p c, s5v s] w (MkS w 16 [] [] false [aExpr s.a s.n] true) := by
  have hst := store_cx
  obtain ⟨n, hn⟩ : ∃ n, w.heap.size = n := ⟨_, rfl⟩
  have HN := Lib.hid hn
  have HY0 := fun o => Lib.hid (Yw.start w n hn x p c s 16 o)
  have HSO := Lib.hid hs
  have HXO := Lib.hid hx
  obtain ⟨i0, hi, hz0, hz1, hz2⟩ := info_parts e_info
  have HI := Lib.hid hi
  have HZ0 := Lib.hid hz0
  have HZ1 := Lib.hid hz1
  have HZ2 := Lib.hid hz2
  unfold xbox s5box ybox at HY0
  have hdd := hs.d
  have hbb := hs.b
  have hcc := hs.c
  have haa := hs.a
  obtain ⟨hnn0, hnn1⟩ := hs.n
  have hxc := hx.ce
  have hxa := hx.ar
  have hxm := hx.mu
  have hxs := hx.se
  have hxt := hx.th
  clear hx hs hi hz0 hz1 hz2
  unfold smv s5v
  go_enter Tryd.func40, Tryd.ntmps40
  go_upto_block 0 with fail
  obtain ⟨W, hW⟩ : ∃ W, ((((w.alloc (.cells #[.int .u8 (x.ce : Int), .int .u8 (x.ar : Int), .int .u8 (x.mu : Int), .int .u8 (x.se : Int), .int .u8 (x.bu : Int), .int .i8 x.n, .slice p x.th.length c] 33)).alloc (.cells #[.int .u8 (s.d : Int), .int .u8 (s.a : Int), .int .u8 (s.b : Int), .int .u8 (s.c : Int), .int .i8 s.n] 85)).alloc (.cells #[.int .i64 0, .string ⟨#[]⟩, .string ⟨#[]⟩, .bool false, .slice none 0 0, .slice none 0 0, .slice none 0 0, .int .i64 0] 87)).alloc (.cells #[.int .i64 2, .int .i64 1, .int .i64 2, .int .i64 1, .int .i64 3, .int .i64 4, .int .i64 5, .int .i64 6, .int .i64 7, .int .i64 8, .int .i64 9, .int .i64 10, .int .i64 11, .int .i64 12, .int .i64 13, .int .i64 14, .int .i64 15, .int .i64 16, .int .i64 0] 26)).alloc (.cells #[.int .i64 16, .string ⟨#[]⟩, .string ⟨#[]⟩, .bool false, .slice none 0 0, .slice none 0 0, .slice none 0 0, .int .i64 0] 87) = W := ⟨_, rfl⟩
  have HY : Hid (Yw w W n x p c s 16 ⟨#[]⟩ ⟨#[]⟩ false (.slice none 0 0)) := Lib.hid (by rw [← hW]; exact (HY0 _).out)
  rw [hW]
  clear hW hn HY0
  simp only [Nat.add_assoc, Nat.reduceAdd]
  go_cut [8] (fun u8 wx => u8 = .bool true ∧ ∃ v qs, Yw w wx n x p c s 16 ⟨#[]⟩ ⟨([] : List UInt8).toArray⟩ false v ∧ Xo wx n qs v ∧ qs.map Prod.fst = [] ∧ (qs = [] → v = .slice none 0 0))
  case first =>
    have x2 := HY.out.sB
    go_wp2
    go_meet
    case rel => exact ⟨rfl, _, [], HY.out, Xo.nil _ _, rfl, fun _ => rfl⟩
  case rest =>
    obtain ⟨rfl, v, qs, hcut, hXo, hq0, hnil0⟩ := hcut
    have HXN := Lib.hid hXo
    have HQ0 := Lib.hid hq0
    have HNIL := Lib.hid hnil0
    have hql : qs.length ≤ 1 := by have := congrArg List.length hq0; rw [List.length_map] at this; simp only [List.length_nil, List.length_cons] at this; omega
    clear hXo hq0 hnil0
    have HC6 := Lib.hid hcut
    clear hcut
    go_upto_block 1 with fail
    obtain ⟨Y, rfl⟩ : ∃ Y, Y = wc := ⟨_, rfl⟩
    have HXo := HXN
    go_cut [160] (fun _ wx => ∃ v qs, Yw w wx n x p c s 16 ⟨#[]⟩ ⟨([] : List UInt8).toArray⟩ false v ∧ Xo wx n qs v ∧ qs.map Prod.fst = [aExpr s.a s.n] ∧ (qs = [] → v = .slice none 0 0))
    case first =>
      have y1 := HC6.out.sA
      have y2 := HC6.out.sN
      have y3 : Y.cell? ⟨n + 4, 4, none⟩ = some v := HC6.out.yC 4
      have y4 := HC6.out.yF 4
      have hYs := HC6.out.size
      have hYn : n + 4 < Y.heap.size := by omega
      have hYn1 : n + 1 < Y.heap.size := by omega
      have hvb : some (n + 4) ≠ (v : Value).ownBlock := by intro h; have := (HXo.out.own.lt _ h.symm).1; omega
      obtain ⟨s0, hs0⟩ : ∃ s0, opB (aExpr s.a s.n) = s0 := ⟨_, rfl⟩
      obtain ⟨s1, hs1⟩ : ∃ s1, nmB (aExpr s.a s.n) = s1 := ⟨_, rfl⟩
      obtain ⟨ex, hex⟩ : ∃ ex, nxB (aExpr s.a s.n) = ex := ⟨_, rfl⟩
      obtain ⟨ey, hey⟩ : ∃ ey, nyB (aExpr s.a s.n) = ey := ⟨_, rfl⟩
      obtain ⟨en, hen⟩ : ∃ en, npB (aExpr s.a s.n) = en := ⟨_, rfl⟩
      have HEX : Hid (∀ w, Calls Tryd.prog 50 #[.int .u8 (s.a : Int), .int .i8 s.n] w fun e w' => ∃ q, e = .returned (.agg #[.string s0, .complex .f64 ex ey, .string s1, .slice q en en]) ∧ Px w' (fun g => w.heap.size ≤ g ∧ g < w'.heap.size) (aExpr s.a s.n) q ∧ Below w.heap.size w w') :=
        Lib.hid (fun w => (expr_any s.a s.n haa hnn0 hnn1 w).mono fun e w' ⟨q, h1, h2⟩ => ⟨q, by rw [h1, ← hs0, ← hs1, ← hex, ← hey, ← hen]; rfl, h2⟩)
      have HEQ : Hid (∀ q, exq (aExpr s.a s.n) q = exc s0 ex ey s1 q en) := Lib.hid (fun q => by unfold exq; rw [hs0, hs1, hex, hey, hen])
      clear hs0 hs1 hex hey hen
      obtain ⟨qn, hqn⟩ : ∃ qn, (qs : List (Ex × Option Addr)).length = qn := ⟨_, rfl⟩
      have hqb : qn ≤ 1 := by rw [← hqn]; first | exact hql | simp
      have HQN := Lib.hid hqn
      have HOW : Hid (Y.ownsRow (n + 5) 48 4 v qn (qcs qs)) := Lib.hid (by rw [← hqn]; exact HXo.out.own)
      clear hqn
      go_wp2
      go_region_law (first
        | ((refine step_append_lies _ (by rfl) (.tmp 153) (.tmp 159) 46 (by rfl) (n + 5) 48 i0 _ 4 72 Tryd.underlying46 HI.out HZ0.out HZ1.out HZ2.out rfl (by decide) v qn (qcs qs) (by rfl) (ow2.alloc _) ⟨w2.heap.size, 0, none⟩ 1 1 (exc s0 ex ey s1 q en) (by rfl) (by rfl) (new_cells w2 (exc s0 ex ey s1 q en) 48) (exc_one _ _ _ _ _ _) (by decide) (by unfold maxLen; omega) (by omega) (by simp; omega) (w2.heap.size + 1) (by simp) ?_); intro g cap w3 hown hgrow hat hlt; have hq3 : w3.cell? ⟨n + 4, 4, none⟩ = some v := far_cell hb2 hgrow y3 hvb; have hq4 : w3.frozen? ⟨n + 4, 4, none⟩ = false := far_frozen hb2 hgrow hYn y4 hvb)
        | (go_simp; go_at_call 50; refine (HEX.out _).mono ?_; rintro e w2 ⟨q, rfl, hpx, hb2⟩; have hv1 : w2.cell? ⟨n + 4, 4, none⟩ = some v := (hb2.cell (p := ⟨n + 4, 4, none⟩) hYn).trans y3; have hz2 : n + 5 ≤ w2.heap.size := Nat.le_trans (by simp; omega) hb2.size; have hz3 : n + 4 < w2.heap.size := (by omega); have ow2 : w2.ownsRow (n + 5) 48 4 v qn (qcs qs) := own_below (w := Y.drew) HOW.out hb2))
      all_goals (go_wp2_with fail; go_meet)
      all_goals
        have hyw := ((HC6.out.drew.keep hb2).far hgrow (fun g hg => (HXo.out.own.lt g hg).1)).set 4 (.slice (some ⟨g, 0, none⟩) (qn + 1) cap) rfl
        have hxo := HXo.out.drew.app (ns := [((aExpr s.a s.n), q)]) (m := 1) hYs hb2 (by intro z hz; simp only [List.mem_cons, List.not_mem_nil, or_false] at hz; subst hz; exact hpx) rfl hgrow hat (cap := cap) (by rw [HQN.out, show qcs [((aExpr s.a s.n), q)] = exc s0 ex ey s1 q en by simp [qcs, HEQ.out]]; exact hown)
        rw [HQN.out] at hxo
        exact ⟨_, _, hyw, hxo.setY 4 _, by rw [List.map_append, HQ0.out]; rfl, by simp⟩
    case rest =>
      obtain ⟨v', qs', hYw, hXo, hqs, hnil⟩ := hcut
      obtain ⟨px, cx, rfl, hxv⟩ := hXo.read hnil
      have HYW := Lib.hid hYw
      have HXV := Lib.hid hxv
      have HQ := Lib.hid hqs
      have r0 : wc.cell? ⟨n + 4, 0, none⟩ = some (.int .i64 16) := hYw.yC 0
      have r1 : wc.cell? ⟨n + 4, 1, none⟩ = some (.string ⟨#[]⟩) := hYw.yC 1
      have r2 : wc.cell? ⟨n + 4, 2, none⟩ = some (.string ⟨([] : List UInt8).toArray⟩) := hYw.yC 2
      have r3 : wc.cell? ⟨n + 4, 3, none⟩ = some (.bool false) := hYw.yC 3
      have r4 : wc.cell? ⟨n + 4, 4, none⟩ = some (.slice px (qs'.map Prod.fst).length cx) := hYw.yC 4
      have r5 : wc.cell? ⟨n + 4, 5, none⟩ = some (.slice none 0 0) := hYw.yC 5
      have r6 : wc.cell? ⟨n + 4, 6, none⟩ = some (.slice none 0 0) := hYw.yC 6
      have r7 : wc.cell? ⟨n + 4, 7, none⟩ = some (.int .i64 0) := hYw.yC 7
      have f0 := hYw.rF 0
      have f1 := hYw.rF 1
      have f2 := hYw.rF 2
      have f3 := hYw.rF 3
      have f4 := hYw.rF 4
      have f5 := hYw.rF 5
      have f6 := hYw.rF 6
      have f7 := hYw.rF 7
      have t0 : wc.cell? ⟨n + 2, 0, none⟩ = some (.int .i64 0) := hYw.rC 0
      have t1 : wc.cell? ⟨n + 2, 1, none⟩ = some (.string ⟨#[]⟩) := hYw.rC 1
      have t2 : wc.cell? ⟨n + 2, 2, none⟩ = some (.string ⟨#[]⟩) := hYw.rC 2
      have t3 : wc.cell? ⟨n + 2, 3, none⟩ = some (.bool false) := hYw.rC 3
      have t4 : wc.cell? ⟨n + 2, 4, none⟩ = some (.slice none 0 0) := hYw.rC 4
      have t5 : wc.cell? ⟨n + 2, 5, none⟩ = some (.slice none 0 0) := hYw.rC 5
      have t6 : wc.cell? ⟨n + 2, 6, none⟩ = some (.slice none 0 0) := hYw.rC 6
      have t7 : wc.cell? ⟨n + 2, 7, none⟩ = some (.int .i64 0) := hYw.rC 7
      have hlx : (qs'.map Prod.fst).length = ([aExpr s.a s.n] : List Ex).length := by rw [hqs]
      rw [hlx] at r4
      clear hYw hxv hqs hnil hXo hlx
      go_wp2
      obtain ⟨z1, z2⟩ := fin8 HN.out HYW.out.bel HYW.out.size HXV.out _ _ _ _ _ _ _ _ _ rfl
      rw [HQ.out] at z1
      refine bodyPost_ret (v := .tuple #[.agg #[.int .i64 16, .string ⟨#[]⟩, .string ⟨([] : List UInt8).toArray⟩, .bool false, .slice px ([aExpr s.a s.n] : List Ex).length cx, .slice none 0 0, .slice none 0 0, .int .i64 0], .bool true]) (by simp [results, Tryd.results40, go_sem, t0, t1, t2, t3, t4, t5, t6, t7]) rfl ⟨px, cx, rfl, z1, z2⟩

set_option maxRecDepth 100000 in
set_option maxHeartbeats 6400000 in
theorem mk_18 (x : Sml) (p : Option Addr) (c : Nat) (s : S5) (hx : Smok x) (hs : S5ok s) (hm : (s.d : Int) % 19 = 18) (w : World) : Calls Tryd.prog 40 #[smv x p c, s5v s] w (MkS w 0 [aReg s.c] [] false [aExpr s.a s.n] true) := by
  have hst := store_cx
  obtain ⟨n, hn⟩ : ∃ n, w.heap.size = n := ⟨_, rfl⟩
  have HN := Lib.hid hn
  have HY0 := fun o => Lib.hid (Yw.start w n hn x p c s 0 o)
  have HSO := Lib.hid hs
  have HXO := Lib.hid hx
  obtain ⟨i0, hi, hz0, hz1, hz2⟩ := info_parts e_info
  have HI := Lib.hid hi
  have HZ0 := Lib.hid hz0
  have HZ1 := Lib.hid hz1
  have HZ2 := Lib.hid hz2
  unfold xbox s5box ybox at HY0
  have hdd := hs.d
  have hbb := hs.b
  have hcc := hs.c
  have haa := hs.a
  obtain ⟨hnn0, hnn1⟩ := hs.n
  have hxc := hx.ce
  have hxa := hx.ar
  have hxm := hx.mu
  have hxs := hx.se
  have hxt := hx.th
  clear hx hs hi hz0 hz1 hz2
  unfold smv s5v
  go_enter Tryd.func40, Tryd.ntmps40
  go_upto_block 0 with fail
  obtain ⟨W, hW⟩ : ∃ W, ((((w.alloc (.cells #[.int .u8 (x.ce : Int), .int .u8 (x.ar : Int), .int .u8 (x.mu : Int), .int .u8 (x.se : Int), .int .u8 (x.bu : Int), .int .i8 x.n, .slice p x.th.length c] 33)).alloc (.cells #[.int .u8 (s.d : Int), .int .u8 (s.a : Int), .int .u8 (s.b : Int), .int .u8 (s.c : Int), .int .i8 s.n] 85)).alloc (.cells #[.int .i64 0, .string ⟨#[]⟩, .string ⟨#[]⟩, .bool false, .slice none 0 0, .slice none 0 0, .slice none 0 0, .int .i64 0] 87)).alloc (.cells #[.int .i64 2, .int .i64 1, .int .i64 2, .int .i64 1, .int .i64 3, .int .i64 4, .int .i64 5, .int .i64 6, .int .i64 7, .int .i64 8, .int .i64 9, .int .i64 10, .int .i64 11, .int .i64 12, .int .i64 13, .int .i64 14, .int .i64 15, .int .i64 16, .int .i64 0] 26)).alloc (.cells #[.int .i64 0, .string ⟨#[]⟩, .string ⟨#[]⟩, .bool false, .slice none 0 0, .slice none 0 0, .slice none 0 0, .int .i64 0] 87) = W := ⟨_, rfl⟩
  have HY : Hid (Yw w W n x p c s 0 ⟨#[]⟩ ⟨#[]⟩ false (.slice none 0 0)) := Lib.hid (by rw [← hW]; exact (HY0 _).out)
  rw [hW]
  clear hW hn HY0
  simp only [Nat.add_assoc, Nat.reduceAdd]
  go_cut [8] (fun u8 wx => u8 = .bool true ∧ ∃ v qs, Yw w wx n x p c s 0 ⟨#[]⟩ ⟨([] : List UInt8).toArray⟩ false v ∧ Xo wx n qs v ∧ qs.map Prod.fst = [] ∧ (qs = [] → v = .slice none 0 0))
  case first =>
    have x2 := HY.out.sB
    go_wp2
    go_meet
    case rel => exact ⟨rfl, _, [], HY.out, Xo.nil _ _, rfl, fun _ => rfl⟩
  case rest =>
    obtain ⟨rfl, v, qs, hcut, hXo, hq0, hnil0⟩ := hcut
    have HXN := Lib.hid hXo
    have HQ0 := Lib.hid hq0
    have HNIL := Lib.hid hnil0
    have hql : qs.length ≤ 1 := by have := congrArg List.length hq0; rw [List.length_map] at this; simp only [List.length_nil, List.length_cons] at this; omega
    clear hXo hq0 hnil0
    have HC := Lib.hid hcut
    have z1 : wc.cell? ⟨n + 1, 3, none⟩ = some (.int .u8 (s.c : Int)) := hcut.sC
    clear hcut
    go_wp2_with fail
    refine (reg_any s.c hcc _).mono ?_
    rintro e w5 ⟨rfl, hb5⟩
    have HC5 := Lib.hid (HC.out.keep hb5)
    have HX5 := Lib.hid ((HXN.out.keep hb5).setY 1 (.string ⟨#[aReg s.c]⟩))
    have z2 : w5.cell? ⟨n + 4, 1, none⟩ = some (.string ⟨#[]⟩) := HC5.out.yC 1
    have z3 := HC5.out.yF 1
    clear hb5 z1
    go_upto_block 1 with fail
    have HC6 : Hid (Yw w (w5.setCell ⟨n + 4, 1, none⟩ (.string ⟨#[aReg s.c]⟩)) n x p c s 0 ⟨#[aReg s.c]⟩ ⟨([] : List UInt8).toArray⟩ false v) := Lib.hid (HC5.out.set 1 _ rfl)
    obtain ⟨Y, hY⟩ : ∃ Y, w5.setCell ⟨n + 4, 1, none⟩ (.string ⟨#[aReg s.c]⟩) = Y := ⟨_, rfl⟩
    rw [hY] at HC6 HX5 ⊢
    have HXo := HX5
    clear hY z2 z3 HC5
    go_cut [160] (fun _ wx => ∃ v qs, Yw w wx n x p c s 0 ⟨#[aReg s.c]⟩ ⟨([] : List UInt8).toArray⟩ false v ∧ Xo wx n qs v ∧ qs.map Prod.fst = [aExpr s.a s.n] ∧ (qs = [] → v = .slice none 0 0))
    case first =>
      have y1 := HC6.out.sA
      have y2 := HC6.out.sN
      have y3 : Y.cell? ⟨n + 4, 4, none⟩ = some v := HC6.out.yC 4
      have y4 := HC6.out.yF 4
      have hYs := HC6.out.size
      have hYn : n + 4 < Y.heap.size := by omega
      have hYn1 : n + 1 < Y.heap.size := by omega
      have hvb : some (n + 4) ≠ (v : Value).ownBlock := by intro h; have := (HXo.out.own.lt _ h.symm).1; omega
      obtain ⟨s0, hs0⟩ : ∃ s0, opB (aExpr s.a s.n) = s0 := ⟨_, rfl⟩
      obtain ⟨s1, hs1⟩ : ∃ s1, nmB (aExpr s.a s.n) = s1 := ⟨_, rfl⟩
      obtain ⟨ex, hex⟩ : ∃ ex, nxB (aExpr s.a s.n) = ex := ⟨_, rfl⟩
      obtain ⟨ey, hey⟩ : ∃ ey, nyB (aExpr s.a s.n) = ey := ⟨_, rfl⟩
      obtain ⟨en, hen⟩ : ∃ en, npB (aExpr s.a s.n) = en := ⟨_, rfl⟩
      have HEX : Hid (∀ w, Calls Tryd.prog 50 #[.int .u8 (s.a : Int), .int .i8 s.n] w fun e w' => ∃ q, e = .returned (.agg #[.string s0, .complex .f64 ex ey, .string s1, .slice q en en]) ∧ Px w' (fun g => w.heap.size ≤ g ∧ g < w'.heap.size) (aExpr s.a s.n) q ∧ Below w.heap.size w w') :=
        Lib.hid (fun w => (expr_any s.a s.n haa hnn0 hnn1 w).mono fun e w' ⟨q, h1, h2⟩ => ⟨q, by rw [h1, ← hs0, ← hs1, ← hex, ← hey, ← hen]; rfl, h2⟩)
      have HEQ : Hid (∀ q, exq (aExpr s.a s.n) q = exc s0 ex ey s1 q en) := Lib.hid (fun q => by unfold exq; rw [hs0, hs1, hex, hey, hen])
      clear hs0 hs1 hex hey hen
      obtain ⟨qn, hqn⟩ : ∃ qn, (qs : List (Ex × Option Addr)).length = qn := ⟨_, rfl⟩
      have hqb : qn ≤ 1 := by rw [← hqn]; first | exact hql | simp
      have HQN := Lib.hid hqn
      have HOW : Hid (Y.ownsRow (n + 5) 48 4 v qn (qcs qs)) := Lib.hid (by rw [← hqn]; exact HXo.out.own)
      clear hqn
      go_wp2
      go_region_law (first
        | ((refine step_append_lies _ (by rfl) (.tmp 153) (.tmp 159) 46 (by rfl) (n + 5) 48 i0 _ 4 72 Tryd.underlying46 HI.out HZ0.out HZ1.out HZ2.out rfl (by decide) v qn (qcs qs) (by rfl) (ow2.alloc _) ⟨w2.heap.size, 0, none⟩ 1 1 (exc s0 ex ey s1 q en) (by rfl) (by rfl) (new_cells w2 (exc s0 ex ey s1 q en) 48) (exc_one _ _ _ _ _ _) (by decide) (by unfold maxLen; omega) (by omega) (by simp; omega) (w2.heap.size + 1) (by simp) ?_); intro g cap w3 hown hgrow hat hlt; have hq3 : w3.cell? ⟨n + 4, 4, none⟩ = some v := far_cell hb2 hgrow y3 hvb; have hq4 : w3.frozen? ⟨n + 4, 4, none⟩ = false := far_frozen hb2 hgrow hYn y4 hvb)
        | (go_simp; go_at_call 50; refine (HEX.out _).mono ?_; rintro e w2 ⟨q, rfl, hpx, hb2⟩; have hv1 : w2.cell? ⟨n + 4, 4, none⟩ = some v := (hb2.cell (p := ⟨n + 4, 4, none⟩) hYn).trans y3; have hz2 : n + 5 ≤ w2.heap.size := Nat.le_trans (by simp; omega) hb2.size; have hz3 : n + 4 < w2.heap.size := (by omega); have ow2 : w2.ownsRow (n + 5) 48 4 v qn (qcs qs) := own_below (w := Y.drew) HOW.out hb2))
      all_goals (go_wp2_with fail; go_meet)
      all_goals
        have hyw := ((HC6.out.drew.keep hb2).far hgrow (fun g hg => (HXo.out.own.lt g hg).1)).set 4 (.slice (some ⟨g, 0, none⟩) (qn + 1) cap) rfl
        have hxo := HXo.out.drew.app (ns := [((aExpr s.a s.n), q)]) (m := 1) hYs hb2 (by intro z hz; simp only [List.mem_cons, List.not_mem_nil, or_false] at hz; subst hz; exact hpx) rfl hgrow hat (cap := cap) (by rw [HQN.out, show qcs [((aExpr s.a s.n), q)] = exc s0 ex ey s1 q en by simp [qcs, HEQ.out]]; exact hown)
        rw [HQN.out] at hxo
        exact ⟨_, _, hyw, hxo.setY 4 _, by rw [List.map_append, HQ0.out]; rfl, by simp⟩
    case rest =>
      obtain ⟨v', qs', hYw, hXo, hqs, hnil⟩ := hcut
      obtain ⟨px, cx, rfl, hxv⟩ := hXo.read hnil
      have HYW := Lib.hid hYw
      have HXV := Lib.hid hxv
      have HQ := Lib.hid hqs
      have r0 : wc.cell? ⟨n + 4, 0, none⟩ = some (.int .i64 0) := hYw.yC 0
      have r1 : wc.cell? ⟨n + 4, 1, none⟩ = some (.string ⟨#[aReg s.c]⟩) := hYw.yC 1
      have r2 : wc.cell? ⟨n + 4, 2, none⟩ = some (.string ⟨([] : List UInt8).toArray⟩) := hYw.yC 2
      have r3 : wc.cell? ⟨n + 4, 3, none⟩ = some (.bool false) := hYw.yC 3
      have r4 : wc.cell? ⟨n + 4, 4, none⟩ = some (.slice px (qs'.map Prod.fst).length cx) := hYw.yC 4
      have r5 : wc.cell? ⟨n + 4, 5, none⟩ = some (.slice none 0 0) := hYw.yC 5
      have r6 : wc.cell? ⟨n + 4, 6, none⟩ = some (.slice none 0 0) := hYw.yC 6
      have r7 : wc.cell? ⟨n + 4, 7, none⟩ = some (.int .i64 0) := hYw.yC 7
      have f0 := hYw.rF 0
      have f1 := hYw.rF 1
      have f2 := hYw.rF 2
      have f3 := hYw.rF 3
      have f4 := hYw.rF 4
      have f5 := hYw.rF 5
      have f6 := hYw.rF 6
      have f7 := hYw.rF 7
      have t0 : wc.cell? ⟨n + 2, 0, none⟩ = some (.int .i64 0) := hYw.rC 0
      have t1 : wc.cell? ⟨n + 2, 1, none⟩ = some (.string ⟨#[]⟩) := hYw.rC 1
      have t2 : wc.cell? ⟨n + 2, 2, none⟩ = some (.string ⟨#[]⟩) := hYw.rC 2
      have t3 : wc.cell? ⟨n + 2, 3, none⟩ = some (.bool false) := hYw.rC 3
      have t4 : wc.cell? ⟨n + 2, 4, none⟩ = some (.slice none 0 0) := hYw.rC 4
      have t5 : wc.cell? ⟨n + 2, 5, none⟩ = some (.slice none 0 0) := hYw.rC 5
      have t6 : wc.cell? ⟨n + 2, 6, none⟩ = some (.slice none 0 0) := hYw.rC 6
      have t7 : wc.cell? ⟨n + 2, 7, none⟩ = some (.int .i64 0) := hYw.rC 7
      have hlx : (qs'.map Prod.fst).length = ([aExpr s.a s.n] : List Ex).length := by rw [hqs]
      rw [hlx] at r4
      clear hYw hxv hqs hnil hXo hlx
      go_wp2
      obtain ⟨z1, z2⟩ := fin8 HN.out HYW.out.bel HYW.out.size HXV.out _ _ _ _ _ _ _ _ _ rfl
      rw [HQ.out] at z1
      refine bodyPost_ret (v := .tuple #[.agg #[.int .i64 0, .string ⟨#[aReg s.c]⟩, .string ⟨([] : List UInt8).toArray⟩, .bool false, .slice px ([aExpr s.a s.n] : List Ex).length cx, .slice none 0 0, .slice none 0 0, .int .i64 0], .bool true]) (by simp [results, Tryd.results40, go_sem, t0, t1, t2, t3, t4, t5, t6, t7]) rfl ⟨px, cx, rfl, z1, z2⟩
end Go.Proofs.YtmomdcnlhljhcaaDoor
