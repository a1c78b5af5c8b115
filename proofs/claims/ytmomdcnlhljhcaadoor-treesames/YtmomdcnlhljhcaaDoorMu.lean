/- The law's statements, one behind the other, and in one another. -/
import Derived.Test.YtmomdcnlhljhcaaDoorMv
import Derived.Deep.AppendLies
set_option linter.unusedSimpArgs false
set_option linter.unusedVariables false
namespace Go.Proofs.YtmomdcnlhljhcaaDoor
open Go.RowKit Ieee

def StsC (x : Sml) (p : Option Addr) (c B deep : Nat) : Prop := ∀ (f : Nat) (l : List S5) (most : Nat) (v : Value) (w : World), l.length ≤ f → (∀ s ∈ l, S5ok s) → l.length ≤ 20 → most ≤ 100 → Lsv w B l v → B ≤ w.heap.size →
  Calls Tryd.prog 27 #[smv x p c, v, .int .i64 (most : Int), .int .i64 (deep : Int)] w (StR w B (srun x f l most deep))
theorem srun_plain (x : Sml) (f : Nat) (s : S5) (l : List S5) (m deep : Nat) (h : ¬ 15 ≤ aKd s.d) (ho : aOk x s = true) : srun x (f + 1) (s :: l) (m + 1) deep = (.cons (aKd s.d) (aRg s) (aNm x s) (aIx x s) (aXs x s) .nil .nil (srun x f l m deep).1, (srun x f l m deep).2) := by
  rw [srun.eq_def]; simp only [if_neg h]; simp only [ho, if_true]
theorem srun_none (x : Sml) (f : Nat) (s : S5) (l : List S5) (m deep : Nat) (h : ¬ 15 ≤ aKd s.d) (ho : aOk x s = false) : srun x (f + 1) (s :: l) (m + 1) deep = srun x f l m deep := by
  rw [srun.eq_def]; simp only [if_neg h]; simp only [ho, Bool.false_eq_true, if_false]
theorem srun_zero (x : Sml) (f : Nat) (s : S5) (l : List S5) (m : Nat) (h : 15 ≤ aKd s.d) : srun x (f + 1) (s :: l) (m + 1) 0 = srun x f l m 0 := by
  rw [srun.eq_def]; simp only [if_pos h]
theorem srun_body (x : Sml) (f : Nat) (s : S5) (l : List S5) (m d : Nat) (h : 15 ≤ aKd s.d) (h2 : ¬ (aKd s.d = 15 ∧ s.c / 4 % 2 = 1)) : srun x (f + 1) (s :: l) (m + 1) (d + 1) = (.cons (aKd s.d) (aRg s) (aNm x s) (aIx x s) (aXs x s) (srun x f l (s.c % 4) d).1 .nil (srun x f (srun x f l (s.c % 4) d).2 m (d + 1)).1, (srun x f (srun x f l (s.c % 4) d).2 m (d + 1)).2) := by
  rw [srun.eq_def]; simp only [if_pos h]; simp only [if_neg h2]
theorem srun_else (x : Sml) (f : Nat) (s : S5) (l : List S5) (m d : Nat) (h : 15 ≤ aKd s.d) (h2 : aKd s.d = 15 ∧ s.c / 4 % 2 = 1) : srun x (f + 1) (s :: l) (m + 1) (d + 1) = (.cons (aKd s.d) (aRg s) (aNm x s) (aIx x s) (aXs x s) (srun x f l (s.c % 4) d).1 (srun x f (srun x f l (s.c % 4) d).2 (1 + s.c / 8 % 2) d).1 (srun x f (srun x f (srun x f l (s.c % 4) d).2 (1 + s.c / 8 % 2) d).2 m (d + 1)).1, (srun x f (srun x f (srun x f l (s.c % 4) d).2 (1 + s.c / 8 % 2) d).2 m (d + 1)).2) := by
  rw [srun.eq_def]; simp only [if_pos h]; simp only [if_pos h2]
theorem aOk_body (x : Sml) (s : S5) (h : 15 ≤ aKd s.d) : aOk x s = true := by
  unfold aOk; rw [if_neg (by omega), if_neg (by omega)]
theorem srun_stop (x : Sml) (f : Nat) (l : List S5) (m deep : Nat) (h : l = [] ∨ m = 0) : srun x f l m deep = (.nil, l) := by
  cases f with
  | zero => rfl
  | succ f =>
    cases l with
    | nil => rfl
    | cons s l =>
      rcases h with h | h
      · cases h
      · subst h; rfl
theorem Lp.done {x : Sml} {p : Option Addr} {c : Nat} {w : World} {n B : Nat} {R : Sts × List S5} {deep f : Nat} {l : List S5} {m : Nat} {qs : List Sr} {wr : World} {u1 u10 : Value} (h : Lp x p c w n B R deep f l m qs wr u1 u10) (hn : w.heap.size = n) (hz : l = [] ∨ m = 0) :
    StR w B R (.returned (.tuple #[u10, u1])) wr := by
  have hr := h.run
  rw [srun_stop x f l m deep hz, Sts.app_nil] at hr
  obtain ⟨px, cx, h1, h2⟩ := h.so.read h.nil
  refine ⟨px, cx, u1, by rw [h1, hr], ?_, by rw [hr]; exact h.lsv, by rw [hn]; exact h.bel⟩
  rw [hr]
  exact h2.on (fun _ _ _ => rfl) (fun g hg => ⟨by have := hg.1; omega, hg.2⟩)
set_option maxRecDepth 100000 in
set_option maxHeartbeats 6400000 in
theorem stmts_step (x : Sml) (p : Option Addr) (c B deep : Nat) (hx : Smok x) (hd3 : deep ≤ 3) (IH : ∀ d, deep = d + 1 → StsC x p c B d) : StsC x p c B deep := by
  intro f l most v w hf hok hlen hmost hv hB
  obtain ⟨n, hn⟩ : ∃ n, w.heap.size = n := ⟨_, rfl⟩
  obtain ⟨i0, hi, hz0, hz1, hz2⟩ := info_parts y_info
  have HI := Lib.hid hi
  have HZ0 := Lib.hid hz0
  have HZ1 := Lib.hid hz1
  have HZ2 := Lib.hid hz2
  have HX := Lib.hid hx
  have HB : B ≤ n := by omega
  have HN := Lib.hid hn
  have HIH := Lib.hid IH
  obtain ⟨W, hW⟩ : ∃ W, w.alloc (.cells #[.int .u8 (x.ce : Int), .int .u8 (x.ar : Int), .int .u8 (x.mu : Int), .int .u8 (x.se : Int), .int .u8 (x.bu : Int), .int .i8 x.n, .slice p x.th.length c] 33) = W := ⟨_, rfl⟩
  have HLP : Hid (Lp x p c w n B (srun x f l most deep) deep f l most [] W v (.slice none 0 0)) := Lib.hid (by
    rw [← hW]
    refine ⟨hf, hok, hmost, by simpa using hlen, rfl, hv.below ((below_alloc _ _).mono (by omega)), So.nil _ _, fun _ => rfl, (below_alloc w _).mono (by omega), ?_, by simp; omega⟩
    have := heap_alloc_new w (xbox x p c)
    rw [hn] at this
    exact this)
  unfold smv
  clear hf hok hlen hmost hv hi hz0 hz1 hz2 hx IH hB
  go_enter Tryd.func27, Tryd.ntmps27
  go_wp2
  clear hW hn
  go_loopw [1, 2, 10] (fun u1 u2 u10 wr => ∃ (f' : Nat) (l' : List S5) (m' : Nat) (qs : List Sr), u2 = .int .i64 (m' : Int) ∧ Lp x p c w n B (srun x f l most deep) deep f' l' m' qs wr u1 u10) (fun u1 _ _ _ => lenOf u1)
  case atStart => exact ⟨f, l, most, [], rfl, HLP.out⟩
  case round =>
    clear HLP
    obtain ⟨f', l', m', qs, rfl, hL⟩ := hrel
    have HL := Lib.hid hL
    have hm100 := hL.most
    cases l' with
    | nil =>
      obtain ⟨p1, c1, rfl, hc1⟩ := hL.lsv.nil
      clear hL
      go_wp2
      refine bodyPost_ret (v := .tuple #[u10, .slice p1 0 c1]) (by simp [results, Tryd.results27, go_sem]) rfl (HL.out.done HN.out (.inl rfl))
    | cons s l'' =>
      obtain ⟨g, o, cap, X, rfl, hcap, hcm, hgB, hc5, hX, hlv⟩ := hL.lsv.cons
      obtain ⟨q0, q1, q2, q3, q4⟩ := hc5
      have HLV := Lib.hid hlv
      have hso := hL.ok s List.mem_cons_self
      have HSO := Lib.hid hso
      have hws := hL.size
      have hgw : g < wr.heap.size := by omega
      have x0 : wr.cell? ⟨n, 0, none⟩ = some (.int .u8 (x.ce : Int)) := hL.xC 0
      have x1 : wr.cell? ⟨n, 1, none⟩ = some (.int .u8 (x.ar : Int)) := hL.xC 1
      have x2 : wr.cell? ⟨n, 2, none⟩ = some (.int .u8 (x.mu : Int)) := hL.xC 2
      have x3 : wr.cell? ⟨n, 3, none⟩ = some (.int .u8 (x.se : Int)) := hL.xC 3
      have x4 : wr.cell? ⟨n, 4, none⟩ = some (.int .u8 (x.bu : Int)) := hL.xC 4
      have x5 : wr.cell? ⟨n, 5, none⟩ = some (.int .i8 x.n) := hL.xC 5
      have x6 : wr.cell? ⟨n, 6, none⟩ = some (.slice p x.th.length c) := hL.xC 6
      obtain ⟨ln, hln⟩ : ∃ ln, l''.length = ln := ⟨_, rfl⟩
      have HLN := Lib.hid hln
      rw [hln] at hX hcap ⊢
      clear hL hlv hln
      have hnw : n < wr.heap.size := by omega
      cases m' with
      | zero =>
        go_wp2
        refine bodyPost_ret (v := .tuple #[u10, .slice (some ⟨g, o, none⟩) (ln + 1) cap]) (by simp [results, Tryd.results27, go_sem]) rfl (by have := HL.out.done HN.out (.inr rfl); rw [HLN.out] at this; exact this)
      | succ m =>
        have hmm : ((m + 1 : Nat) : Int) - 1 = (m : Int) := by omega
        have hcd := hso.c
        have HC := Lib.hid (fun w => stmt_any x p c s HX.out HSO.out w)
        unfold smv s5v MkA MkS stv at HC
        clear hso
        go_wp2_with (go_at_call 40; refine Hid.out ?_)
        refine Lib.hid ?_
        refine (HC.out _).mono ?_
        rintro e w2 ⟨px, cx, rfl, hxv, hb2⟩
        go_upto_region 6 with fail
        obtain ⟨f1, rfl⟩ : ∃ f1, f' = f1 + 1 := ⟨f' - 1, by have := HL.out.fuel; simp at this; omega⟩
        obtain ⟨y, hy⟩ : ∃ y, w2.heap.size = y := ⟨_, rfl⟩
        obtain ⟨Y, hY⟩ : ∃ Y, w2.alloc (.cells #[.int .i64 (aKd s.d : Int), .string ⟨(aRg s).toArray⟩, .string ⟨(aNm x s).toArray⟩, .bool (aIx x s), .slice px (aXs x s).length cx, .slice none 0 0, .slice none 0 0, .int .i64 0] 87) = Y := ⟨_, rfl⟩
        have HBZ : Hid (Bz wr Y y (⟨aKd s.d, aRg s, aNm x s, aIx x s, aXs x s, .nil, .nil, px, cx, none, 0, none, 0⟩ : Sr)) := Lib.hid (by rw [← hY, ← hy]; exact Bz.start hxv hb2)
        have HCB : Hid (Y.cell? ⟨wr.heap.size, 3, none⟩ = some (.int .u8 (s.c : Int))) := Lib.hid (by
          have h1 : w2.cell? ⟨wr.heap.size, 3, none⟩ = some (.int .u8 (s.c : Int)) := by
            rw [hb2.cell (p := ⟨wr.heap.size, 3, none⟩) (by simp)]
            rw [cell_of_row _ _ 3 _ 85 (0, 0) (heap_alloc_new wr _)]; rfl
          rw [← hY]
          exact al_cell h1 _)
        rw [hY]
        rw [hy]
        clear hY hy
        have HYX : Hid (Below wr.heap.size wr Y) := Lib.hid HBZ.out.bel
        have y0 : Y.cell? ⟨y, 0, none⟩ = some (.int .i64 (aKd s.d : Int)) := HBZ.out.c 0 rfl
        have y1 : Y.cell? ⟨y, 1, none⟩ = some (.string ⟨(aRg s).toArray⟩) := HBZ.out.c 1 rfl
        have y2 : Y.cell? ⟨y, 2, none⟩ = some (.string ⟨(aNm x s).toArray⟩) := HBZ.out.c 2 rfl
        have y3 : Y.cell? ⟨y, 3, none⟩ = some (.bool (aIx x s)) := HBZ.out.c 3 rfl
        have y4 : Y.cell? ⟨y, 4, none⟩ = some (.slice px (aXs x s).length cx) := HBZ.out.c 4 rfl
        have y5 : Y.cell? ⟨y, 5, none⟩ = some (.slice none 0 0) := HBZ.out.c 5 rfl
        have y6 : Y.cell? ⟨y, 6, none⟩ = some (.slice none 0 0) := HBZ.out.c 6 rfl
        have y7 : Y.cell? ⟨y, 7, none⟩ = some (.int .i64 0) := HBZ.out.c 7 rfl
        have hsub : ∀ t ∈ l'', t ∈ s :: l'' := fun t ht => List.mem_cons_of_mem _ ht
        have HSUB := Lib.hid hsub
        have HFL : Hid (l''.length ≤ f1) := Lib.hid (by have := HL.out.fuel; simp at this; omega)
        have HLY : Hid (Lsv Y B l'' (.slice X ln (cap - 1))) := Lib.hid (by have := HLV.out.below (HYX.out.mono (by omega)); rw [HLN.out] at this; exact this)
        have HFEW := Lib.hid HL.out.few
        have hown0 : Y.ownsRow (n + 1) 87 8 u10 qs.length (scs qs) := own_below HL.out.so.own HYX.out
        have hYn : n + 1 ≤ Y.heap.size := by have := HYX.out.size; omega
        obtain ⟨qn, hqn⟩ : ∃ qn, qs.length = qn := ⟨_, rfl⟩
        have HQN := Lib.hid hqn
        have hq20 : qn ≤ 20 := by have := HL.out.few; omega
        rw [hqn] at hown0
        clear hxv hb2 hsub hqn x0 x1 x2 x3 x4 x5 x6 q0 q1 q2 q3 q4 hX
        by_cases h15 : 15 ≤ aKd s.d
        · have hk : (15 : Int) ≤ (aKd s.d : Int) := by omega
          have hok := aOk_body x s h15
          rcases Nat.eq_zero_or_pos deep with hd0 | hd0
          · subst hd0
            go_wp2
            go_roundw
            case rel => exact ⟨f1, l'', m, qs, rfl, by rw [← HLN.out]; exact HL.out.skip HB HYX.out HFL.out HSUB.out (by omega) (by simp) (by rw [HLN.out]; exact HLY.out) (srun_zero x f1 s l'' m h15)⟩
            case measure => simp [lenOf]
          · obtain ⟨d, hde⟩ : ∃ d, deep = d + 1 := ⟨deep - 1, by omega⟩
            have hdd : (deep : Int) - 1 = (d : Int) := by omega
            have hd1 : (deep : Int) ≠ 0 := by omega
            have hd2 : ((deep : Int) == 0) = false := by simp; omega
            have HDE := Lib.hid hde
            clear hde
            obtain ⟨mb, hmb⟩ : ∃ mb, s.c % 4 = mb := ⟨_, rfl⟩
            have hmb1 : (s.c : Int) % 4 = (mb : Int) := by omega
            have hmb2 : (s.c : Int).tmod 4 = (mb : Int) := by rw [Int.tmod_eq_emod_of_nonneg (by omega)]; omega
            have HMB := Lib.hid hmb
            have hmb3 : mb < 4 := by omega
            have sc3 := HCB.out
            have HXB : Hid (∀ i, Y.cell? ⟨n, i, none⟩ = wr.cell? ⟨n, i, none⟩) := Lib.hid (fun i => HYX.out.cell (p := ⟨n, i, none⟩) hnw)
            have x0 : Y.cell? ⟨n, 0, none⟩ = some (.int .u8 (x.ce : Int)) := (HXB.out 0).trans (HL.out.xC 0)
            have x1 : Y.cell? ⟨n, 1, none⟩ = some (.int .u8 (x.ar : Int)) := (HXB.out 1).trans (HL.out.xC 1)
            have x2 : Y.cell? ⟨n, 2, none⟩ = some (.int .u8 (x.mu : Int)) := (HXB.out 2).trans (HL.out.xC 2)
            have x3 : Y.cell? ⟨n, 3, none⟩ = some (.int .u8 (x.se : Int)) := (HXB.out 3).trans (HL.out.xC 3)
            have x4 : Y.cell? ⟨n, 4, none⟩ = some (.int .u8 (x.bu : Int)) := (HXB.out 4).trans (HL.out.xC 4)
            have x5 : Y.cell? ⟨n, 5, none⟩ = some (.int .i8 x.n) := (HXB.out 5).trans (HL.out.xC 5)
            have x6 : Y.cell? ⟨n, 6, none⟩ = some (.slice p x.th.length c) := (HXB.out 6).trans (HL.out.xC 6)
            have HC1 := Lib.hid (HIH.out d HDE.out f1 l'' mb (.slice X ln (cap - 1)) Y HFL.out (fun t ht => HL.out.ok t (HSUB.out t ht)) (by have := HFEW.out; simp at this; omega) (by omega) HLY.out (by omega))
            unfold smv StR at HC1
            clear hmb
            go_wp2_with (go_at_call 27; refine Hid.out ?_)
            refine Lib.hid ?_
            refine HC1.out.mono ?_
            rintro e w4 ⟨po, co, vr, rfl, hsv, hlr, hb4⟩
            have HB4 := Lib.hid (HBZ.out.keep hb4)
            have v5 : w4.cell? ⟨y, 5, none⟩ = some (.slice none 0 0) := HB4.out.c 5 rfl
            have v5f := HB4.out.f 5
            have HBZ1 : Hid (Bz wr (w4.setCell ⟨y, 5, none⟩ (.slice po (srun x f1 l'' mb d).1.len co)) y (⟨aKd s.d, aRg s, aNm x s, aIx x s, aXs x s, (srun x f1 l'' mb d).1, .nil, px, cx, po, co, none, 0⟩ : Sr)) := Lib.hid (HBZ.out.body hb4 hsv)
            have hyB := HBZ.out.ge
            have HLR : Hid (Lsv (w4.setCell ⟨y, 5, none⟩ (.slice po (srun x f1 l'' mb d).1.len co)) B (srun x f1 l'' mb d).2 vr) := Lib.hid (hlr.below ((Below.refl B w4).setCell (by show B ≤ y; omega) _))
            have HSC : Hid ((w4.setCell ⟨y, 5, none⟩ (.slice po (srun x f1 l'' mb d).1.len co)).cell? ⟨wr.heap.size, 3, none⟩ = some (.int .u8 (s.c : Int))) := Lib.hid (by
              rw [World.cell?_of_block (a := ⟨wr.heap.size, 3, none⟩) (Below.heap_setCell _ _ _ _ (fun e => by simp only at e; omega)), hb4.cell (p := ⟨wr.heap.size, 3, none⟩) (by have := HBZ.out.lt; simp only; omega)]
              exact sc3)
            have HLE1 := Lib.hid (srun_left x f1 l'' mb d)
            have HMEM1 := Lib.hid (srun_sub x f1 l'' mb d)
            clear hsv hlr hb4 x0 x1 x2 x3 x4 x5 x6 sc3 y0 y1 y2 y3 y4 y5 y6 y7 hown0 hYn
            go_upto_region 9 with fail
            obtain ⟨Y1, hY1⟩ : ∃ Y1, w4.setCell ⟨y, 5, none⟩ (.slice po (srun x f1 l'' mb d).1.len co) = Y1 := ⟨_, rfl⟩
            rw [hY1] at HBZ1 HLR HSC ⊢
            clear hY1 v5 v5f HB4
            have hY1n : B ≤ Y1.heap.size := by have := HBZ1.out.bel.size; omega
            have sc3 := HSC.out
            have y0 : Y1.cell? ⟨y, 0, none⟩ = some (.int .i64 (aKd s.d : Int)) := HBZ1.out.c 0 rfl
            have y1 : Y1.cell? ⟨y, 1, none⟩ = some (.string ⟨(aRg s).toArray⟩) := HBZ1.out.c 1 rfl
            have y2 : Y1.cell? ⟨y, 2, none⟩ = some (.string ⟨(aNm x s).toArray⟩) := HBZ1.out.c 2 rfl
            have y3 : Y1.cell? ⟨y, 3, none⟩ = some (.bool (aIx x s)) := HBZ1.out.c 3 rfl
            have y4 : Y1.cell? ⟨y, 4, none⟩ = some (.slice px (aXs x s).length cx) := HBZ1.out.c 4 rfl
            have y5 : Y1.cell? ⟨y, 5, none⟩ = some (.slice po (srun x f1 l'' mb d).1.len co) := HBZ1.out.c 5 rfl
            have y6 : Y1.cell? ⟨y, 6, none⟩ = some (.slice none 0 0) := HBZ1.out.c 6 rfl
            have y7 : Y1.cell? ⟨y, 7, none⟩ = some (.int .i64 0) := HBZ1.out.c 7 rfl
            obtain ⟨e2, he2⟩ : ∃ e2, s.c / 4 % 2 = e2 := ⟨_, rfl⟩
            have hq2 : (IntKind.u8.wrap ((s.c : Int) / 4)).tmod 2 = (e2 : Int) := by rw [wr_u8 (by omega) (by omega), Int.tmod_eq_emod_of_nonneg (by omega)]; omega
            have hq2' : ((s.c : Int) / 4) % 2 = (e2 : Int) := by omega
            by_cases helse : aKd s.d = 15 ∧ s.c / 4 % 2 = 1
            · have hk15 : ((aKd s.d : Int) == 15) = true := by simp; omega
              obtain rfl : e2 = 1 := by omega
              have HELSE := Lib.hid helse
              clear helse
              obtain ⟨e8, he8⟩ : ∃ e8, s.c / 8 % 2 = e8 := ⟨_, rfl⟩
              have hq8 : (IntKind.u8.wrap ((s.c : Int) / 8)).tmod 2 = (e8 : Int) := by rw [wr_u8 (by omega) (by omega), Int.tmod_eq_emod_of_nonneg (by omega)]; omega
              have hq8' : ((s.c : Int) / 8) % 2 = (e8 : Int) := by omega
              obtain ⟨e9, he9⟩ : ∃ e9, 1 + e8 = e9 := ⟨_, rfl⟩
              have hq9 : (1 : Int) + (e8 : Int) = (e9 : Int) := by omega
              have HE9 := Lib.hid he9
              have HE8 := Lib.hid he8
              have he8b : e8 < 2 := by omega
              have he9b : e9 ≤ 2 := by omega
              clear he8 he9
              have HXB1 : Hid (∀ i, Y1.cell? ⟨n, i, none⟩ = wr.cell? ⟨n, i, none⟩) := Lib.hid (fun i => HBZ1.out.bel.cell (p := ⟨n, i, none⟩) hnw)
              have x0 : Y1.cell? ⟨n, 0, none⟩ = some (.int .u8 (x.ce : Int)) := (HXB1.out 0).trans (HL.out.xC 0)
              have x1 : Y1.cell? ⟨n, 1, none⟩ = some (.int .u8 (x.ar : Int)) := (HXB1.out 1).trans (HL.out.xC 1)
              have x2 : Y1.cell? ⟨n, 2, none⟩ = some (.int .u8 (x.mu : Int)) := (HXB1.out 2).trans (HL.out.xC 2)
              have x3 : Y1.cell? ⟨n, 3, none⟩ = some (.int .u8 (x.se : Int)) := (HXB1.out 3).trans (HL.out.xC 3)
              have x4 : Y1.cell? ⟨n, 4, none⟩ = some (.int .u8 (x.bu : Int)) := (HXB1.out 4).trans (HL.out.xC 4)
              have x5 : Y1.cell? ⟨n, 5, none⟩ = some (.int .i8 x.n) := (HXB1.out 5).trans (HL.out.xC 5)
              have x6 : Y1.cell? ⟨n, 6, none⟩ = some (.slice p x.th.length c) := (HXB1.out 6).trans (HL.out.xC 6)
              have HC2 := Lib.hid (HIH.out d HDE.out f1 (srun x f1 l'' mb d).2 e9 vr Y1 (by have := HLE1.out; have := HFL.out; omega) (fun t ht => HL.out.ok t (HSUB.out t (HMEM1.out t ht))) (by have := HFEW.out; have := HLE1.out; simp at *; omega) (by omega) HLR.out hY1n)
              unfold smv StR at HC2
              clear he2
              go_wp2_with (go_at_call 27; refine Hid.out ?_)
              refine Lib.hid ?_
              refine HC2.out.mono ?_
              rintro e w5 ⟨pe, ce, ve, rfl, hsv, hlr, hb5⟩
              have HB5 := Lib.hid (HBZ1.out.keep hb5)
              have v5 : w5.cell? ⟨y, 6, none⟩ = some (.slice none 0 0) := HB5.out.c 6 rfl
              have v5f := HB5.out.f 6
              have HBZ2 : Hid (Bz wr (w5.setCell ⟨y, 6, none⟩ (.slice pe (srun x f1 (srun x f1 l'' mb d).2 e9 d).1.len ce)) y (⟨aKd s.d, aRg s, aNm x s, aIx x s, aXs x s, (srun x f1 l'' mb d).1, (srun x f1 (srun x f1 l'' mb d).2 e9 d).1, px, cx, po, co, pe, ce⟩ : Sr)) := Lib.hid (HBZ1.out.els hb5 hsv)
              have HLR2 : Hid (Lsv (w5.setCell ⟨y, 6, none⟩ (.slice pe (srun x f1 (srun x f1 l'' mb d).2 e9 d).1.len ce)) B (srun x f1 (srun x f1 l'' mb d).2 e9 d).2 ve) := Lib.hid (hlr.below ((Below.refl B w5).setCell (by show B ≤ y; omega) _))
              have HLE2 := Lib.hid (srun_left x f1 (srun x f1 l'' mb d).2 e9 d)
              have HMEM2 := Lib.hid (srun_sub x f1 (srun x f1 l'' mb d).2 e9 d)
              clear hsv hlr hb5 x0 x1 x2 x3 x4 x5 x6 sc3 y0 y1 y2 y3 y4 y5 y6 y7
              go_upto_region 11 with fail
              obtain ⟨Y2, hY2⟩ : ∃ Y2, w5.setCell ⟨y, 6, none⟩ (.slice pe (srun x f1 (srun x f1 l'' mb d).2 e9 d).1.len ce) = Y2 := ⟨_, rfl⟩
              rw [hY2] at HBZ2 HLR2 ⊢
              clear hY2 v5 v5f HB5
              have y0 : Y2.cell? ⟨y, 0, none⟩ = some (.int .i64 (aKd s.d : Int)) := HBZ2.out.c 0 rfl
              have y1 : Y2.cell? ⟨y, 1, none⟩ = some (.string ⟨(aRg s).toArray⟩) := HBZ2.out.c 1 rfl
              have y2 : Y2.cell? ⟨y, 2, none⟩ = some (.string ⟨(aNm x s).toArray⟩) := HBZ2.out.c 2 rfl
              have y3 : Y2.cell? ⟨y, 3, none⟩ = some (.bool (aIx x s)) := HBZ2.out.c 3 rfl
              have y4 : Y2.cell? ⟨y, 4, none⟩ = some (.slice px (aXs x s).length cx) := HBZ2.out.c 4 rfl
              have y5 : Y2.cell? ⟨y, 5, none⟩ = some (.slice po (srun x f1 l'' mb d).1.len co) := HBZ2.out.c 5 rfl
              have y6 : Y2.cell? ⟨y, 6, none⟩ = some (.slice pe (srun x f1 (srun x f1 l'' mb d).2 e9 d).1.len ce) := HBZ2.out.c 6 rfl
              have y7 : Y2.cell? ⟨y, 7, none⟩ = some (.int .i64 0) := HBZ2.out.c 7 rfl
              have hownA : Y2.ownsRow (n + 1) 87 8 u10 qn (scs qs) := by have := own_below HL.out.so.own HBZ2.out.bel; rw [HQN.out] at this; exact this
              have hYnA : n + 1 ≤ Y2.heap.size := by have := HBZ2.out.bel.size; omega
              go_wp2_with (at_builtin; refine Hid.out ?_)
              refine Lib.hid ?_
              refine wpList_append_lies _ rfl (.tmp 78) (.tmp 80) 41 rfl (n + 1) 87 i0 _ 8 128 Tryd.underlying41 HI.out HZ0.out HZ1.out HZ2.out rfl (by decide) u10 qn (scs qs) rfl (hownA.alloc _) ⟨Y2.heap.size, 0, none⟩ 1 1 (⟨aKd s.d, aRg s, aNm x s, aIx x s, aXs x s, (srun x f1 l'' mb d).1, (srun x f1 (srun x f1 l'' mb d).2 e9 d).1, px, cx, po, co, pe, ce⟩ : Sr).cs rfl rfl (new_cells Y2 (⟨aKd s.d, aRg s, aNm x s, aIx x s, aXs x s, (srun x f1 l'' mb d).1, (srun x f1 (srun x f1 l'' mb d).2 e9 d).1, px, cx, po, co, pe, ce⟩ : Sr).cs 87) (zone (⟨aKd s.d, aRg s, aNm x s, aIx x s, aXs x s, (srun x f1 l'' mb d).1, (srun x f1 (srun x f1 l'' mb d).2 e9 d).1, px, cx, po, co, pe, ce⟩ : Sr)) (by decide) (by unfold maxLen; omega) (by omega) (by simp; omega) (Y2.heap.size + 1) (by simp) ?_
              intro g3 cap3 w3 hown3 hgrow3 hat3 hlt3
              go_wp2
              go_roundw
              case rel => exact ⟨f1, (srun x f1 (srun x f1 l'' mb d).2 e9 d).2, m, qs ++ [(⟨aKd s.d, aRg s, aNm x s, aIx x s, aXs x s, (srun x f1 l'' mb d).1, (srun x f1 (srun x f1 l'' mb d).2 e9 d).1, px, cx, po, co, pe, ce⟩ : Sr)], rfl, by
                have h := HL.out.next HB HBZ2.out (f' := f1) (l' := (srun x f1 (srun x f1 l'' mb d).2 e9 d).2) (m' := m) (v := ve) (by have := HLE1.out; have := HLE2.out; have := HFL.out; omega) (fun t ht => HSUB.out t (HMEM1.out t (HMEM2.out t ht))) (by omega) (by have := HLE1.out; have := HLE2.out; simp; omega) HLR2.out (by have h := srun_else x f1 s l'' m d h15 HELSE.out; rw [HMB.out, HE8.out, HE9.out] at h; rw [HDE.out]; exact h) hgrow3 hat3 (cap := cap3) (by rw [HQN.out]; exact hown3)
                rw [HQN.out] at h
                exact h⟩
              case measure => (obtain ⟨_, _, h, _⟩ := HLR2.out; rw [h]; have := HLE1.out; have := HLE2.out; have := HLN.out; simp [lenOf]; omega)
            · have hcnd : aKd s.d ≠ 15 ∨ e2 = 0 := by omega
              have HE2 := Lib.hid he2
              clear he2
              rcases hcnd with hcnd | hcnd
              · have hk15 : ((aKd s.d : Int) == 15) = false := by simp; omega
                have hk15' : (aKd s.d : Int) ≠ 15 := by omega
                have hownA : Y1.ownsRow (n + 1) 87 8 u10 qn (scs qs) := by have := own_below HL.out.so.own HBZ1.out.bel; rw [HQN.out] at this; exact this
                have hYnA : n + 1 ≤ Y1.heap.size := by have := HBZ1.out.bel.size; omega
                go_wp2_with (at_builtin; refine Hid.out ?_)
                refine Lib.hid ?_
                refine wpList_append_lies _ rfl (.tmp 78) (.tmp 80) 41 rfl (n + 1) 87 i0 _ 8 128 Tryd.underlying41 HI.out HZ0.out HZ1.out HZ2.out rfl (by decide) u10 qn (scs qs) rfl (hownA.alloc _) ⟨Y1.heap.size, 0, none⟩ 1 1 (⟨aKd s.d, aRg s, aNm x s, aIx x s, aXs x s, (srun x f1 l'' mb d).1, .nil, px, cx, po, co, none, 0⟩ : Sr).cs rfl rfl (new_cells Y1 (⟨aKd s.d, aRg s, aNm x s, aIx x s, aXs x s, (srun x f1 l'' mb d).1, .nil, px, cx, po, co, none, 0⟩ : Sr).cs 87) (zone (⟨aKd s.d, aRg s, aNm x s, aIx x s, aXs x s, (srun x f1 l'' mb d).1, .nil, px, cx, po, co, none, 0⟩ : Sr)) (by decide) (by unfold maxLen; omega) (by omega) (by simp; omega) (Y1.heap.size + 1) (by simp) ?_
                intro g3 cap3 w3 hown3 hgrow3 hat3 hlt3
                go_wp2
                go_roundw
                case rel => exact ⟨f1, (srun x f1 l'' mb d).2, m, qs ++ [(⟨aKd s.d, aRg s, aNm x s, aIx x s, aXs x s, (srun x f1 l'' mb d).1, .nil, px, cx, po, co, none, 0⟩ : Sr)], rfl, by
                  have h := HL.out.next HB HBZ1.out (f' := f1) (l' := (srun x f1 l'' mb d).2) (m' := m) (v := vr) (by have := HLE1.out; have := HFL.out; omega) (fun t ht => HSUB.out t (HMEM1.out t ht)) (by omega) (by have := HLE1.out; simp; omega) HLR.out (by have h := srun_body x f1 s l'' m d h15 helse; rw [HMB.out] at h; rw [HDE.out]; exact h) hgrow3 hat3 (cap := cap3) (by rw [HQN.out]; exact hown3)
                  rw [HQN.out] at h
                  exact h⟩
                case measure => (obtain ⟨_, _, h, _⟩ := HLR.out; rw [h]; have := HLE1.out; have := HLN.out; simp [lenOf]; omega)
              · subst hcnd
                have hkk : aKd s.d = 15 ∨ aKd s.d ≠ 15 := by omega
                rcases hkk with hkk | hkk
                · have hk15 : ((aKd s.d : Int) == 15) = true := by simp; omega
                  clear hkk
                  have hownA : Y1.ownsRow (n + 1) 87 8 u10 qn (scs qs) := by have := own_below HL.out.so.own HBZ1.out.bel; rw [HQN.out] at this; exact this
                  have hYnA : n + 1 ≤ Y1.heap.size := by have := HBZ1.out.bel.size; omega
                  go_wp2_with (at_builtin; refine Hid.out ?_)
                  refine Lib.hid ?_
                  refine wpList_append_lies _ rfl (.tmp 78) (.tmp 80) 41 rfl (n + 1) 87 i0 _ 8 128 Tryd.underlying41 HI.out HZ0.out HZ1.out HZ2.out rfl (by decide) u10 qn (scs qs) rfl (hownA.alloc _) ⟨Y1.heap.size, 0, none⟩ 1 1 (⟨aKd s.d, aRg s, aNm x s, aIx x s, aXs x s, (srun x f1 l'' mb d).1, .nil, px, cx, po, co, none, 0⟩ : Sr).cs rfl rfl (new_cells Y1 (⟨aKd s.d, aRg s, aNm x s, aIx x s, aXs x s, (srun x f1 l'' mb d).1, .nil, px, cx, po, co, none, 0⟩ : Sr).cs 87) (zone (⟨aKd s.d, aRg s, aNm x s, aIx x s, aXs x s, (srun x f1 l'' mb d).1, .nil, px, cx, po, co, none, 0⟩ : Sr)) (by decide) (by unfold maxLen; omega) (by omega) (by simp; omega) (Y1.heap.size + 1) (by simp) ?_
                  intro g3 cap3 w3 hown3 hgrow3 hat3 hlt3
                  go_wp2
                  go_roundw
                  case rel => exact ⟨f1, (srun x f1 l'' mb d).2, m, qs ++ [(⟨aKd s.d, aRg s, aNm x s, aIx x s, aXs x s, (srun x f1 l'' mb d).1, .nil, px, cx, po, co, none, 0⟩ : Sr)], rfl, by
                    have h := HL.out.next HB HBZ1.out (f' := f1) (l' := (srun x f1 l'' mb d).2) (m' := m) (v := vr) (by have := HLE1.out; have := HFL.out; omega) (fun t ht => HSUB.out t (HMEM1.out t ht)) (by omega) (by have := HLE1.out; simp; omega) HLR.out (by have h := srun_body x f1 s l'' m d h15 helse; rw [HMB.out] at h; rw [HDE.out]; exact h) hgrow3 hat3 (cap := cap3) (by rw [HQN.out]; exact hown3)
                    rw [HQN.out] at h
                    exact h⟩
                  case measure => (obtain ⟨_, _, h, _⟩ := HLR.out; rw [h]; have := HLE1.out; have := HLN.out; simp [lenOf]; omega)
                · have hk15 : ((aKd s.d : Int) == 15) = false := by simp; omega
                  have hk15' : (aKd s.d : Int) ≠ 15 := by omega
                  have hownA : Y1.ownsRow (n + 1) 87 8 u10 qn (scs qs) := by have := own_below HL.out.so.own HBZ1.out.bel; rw [HQN.out] at this; exact this
                  have hYnA : n + 1 ≤ Y1.heap.size := by have := HBZ1.out.bel.size; omega
                  go_wp2_with (at_builtin; refine Hid.out ?_)
                  refine Lib.hid ?_
                  refine wpList_append_lies _ rfl (.tmp 78) (.tmp 80) 41 rfl (n + 1) 87 i0 _ 8 128 Tryd.underlying41 HI.out HZ0.out HZ1.out HZ2.out rfl (by decide) u10 qn (scs qs) rfl (hownA.alloc _) ⟨Y1.heap.size, 0, none⟩ 1 1 (⟨aKd s.d, aRg s, aNm x s, aIx x s, aXs x s, (srun x f1 l'' mb d).1, .nil, px, cx, po, co, none, 0⟩ : Sr).cs rfl rfl (new_cells Y1 (⟨aKd s.d, aRg s, aNm x s, aIx x s, aXs x s, (srun x f1 l'' mb d).1, .nil, px, cx, po, co, none, 0⟩ : Sr).cs 87) (zone (⟨aKd s.d, aRg s, aNm x s, aIx x s, aXs x s, (srun x f1 l'' mb d).1, .nil, px, cx, po, co, none, 0⟩ : Sr)) (by decide) (by unfold maxLen; omega) (by omega) (by simp; omega) (Y1.heap.size + 1) (by simp) ?_
                  intro g3 cap3 w3 hown3 hgrow3 hat3 hlt3
                  go_wp2
                  go_roundw
                  case rel => exact ⟨f1, (srun x f1 l'' mb d).2, m, qs ++ [(⟨aKd s.d, aRg s, aNm x s, aIx x s, aXs x s, (srun x f1 l'' mb d).1, .nil, px, cx, po, co, none, 0⟩ : Sr)], rfl, by
                    have h := HL.out.next HB HBZ1.out (f' := f1) (l' := (srun x f1 l'' mb d).2) (m' := m) (v := vr) (by have := HLE1.out; have := HFL.out; omega) (fun t ht => HSUB.out t (HMEM1.out t ht)) (by omega) (by have := HLE1.out; simp; omega) HLR.out (by have h := srun_body x f1 s l'' m d h15 helse; rw [HMB.out] at h; rw [HDE.out]; exact h) hgrow3 hat3 (cap := cap3) (by rw [HQN.out]; exact hown3)
                    rw [HQN.out] at h
                    exact h⟩
                  case measure => (obtain ⟨_, _, h, _⟩ := HLR.out; rw [h]; have := HLE1.out; have := HLN.out; simp [lenOf]; omega)
        · have hk : ¬ (15 : Int) ≤ (aKd s.d : Int) := by omega
          have hk' : (aKd s.d : Int) < 15 := by omega
          cases hok : aOk x s with
          | false =>
            go_wp2
            go_roundw
            case rel => exact ⟨f1, l'', m, qs, rfl, by rw [← HLN.out]; exact HL.out.skip HB HYX.out HFL.out HSUB.out (by omega) (by simp) (by rw [HLN.out]; exact HLY.out) (srun_none x f1 s l'' m deep h15 hok)⟩
            case measure => simp [lenOf]
          | true =>
            go_wp2_with (at_builtin; refine Hid.out ?_)
            refine Lib.hid ?_
            refine wpList_append_lies _ rfl (.tmp 78) (.tmp 80) 41 rfl (n + 1) 87 i0 _ 8 128 Tryd.underlying41 HI.out HZ0.out HZ1.out HZ2.out rfl (by decide) u10 qn (scs qs) rfl (hown0.alloc _) ⟨Y.heap.size, 0, none⟩ 1 1 (⟨aKd s.d, aRg s, aNm x s, aIx x s, aXs x s, .nil, .nil, px, cx, none, 0, none, 0⟩ : Sr).cs rfl rfl (new_cells Y (⟨aKd s.d, aRg s, aNm x s, aIx x s, aXs x s, .nil, .nil, px, cx, none, 0, none, 0⟩ : Sr).cs 87) (zone (⟨aKd s.d, aRg s, aNm x s, aIx x s, aXs x s, .nil, .nil, px, cx, none, 0, none, 0⟩ : Sr)) (by decide) (by unfold maxLen; omega) (by omega) (by simp; omega) (Y.heap.size + 1) (by simp) ?_
            intro g3 cap3 w3 hown3 hgrow3 hat3 hlt3
            go_wp2
            go_roundw
            case rel => exact ⟨f1, l'', m, qs ++ [(⟨aKd s.d, aRg s, aNm x s, aIx x s, aXs x s, .nil, .nil, px, cx, none, 0, none, 0⟩ : Sr)], rfl, by
              have h := HL.out.next HB HBZ.out (f' := f1) (l' := l'') (m' := m) (v := .slice X ln (cap - 1)) HFL.out HSUB.out (by omega) (by simp) HLY.out (srun_plain x f1 s l'' m deep h15 hok) hgrow3 hat3 (cap := cap3) (by rw [HQN.out]; exact hown3)
              rw [HQN.out] at h
              exact h⟩
            case measure => simp [lenOf]
theorem stmts_any (x : Sml) (p : Option Addr) (c B : Nat) (hx : Smok x) : ∀ deep, deep ≤ 3 → StsC x p c B deep := by
  intro deep
  induction deep with
  | zero => intro _; exact stmts_step x p c B 0 hx (by omega) (fun d h => by omega)
  | succ d ih => intro h; exact stmts_step x p c B (d + 1) hx h (fun d' h' => by
    have hdd : d = d' := by omega
    subst hdd
    exact ih (by omega))
end Go.Proofs.YtmomdcnlhljhcaaDoor
