/- A program: declarations in a row of one's own. -/
import Derived.Test.YtgiioflkclkioaaGreatDoorDe
set_option linter.unusedSimpArgs false
set_option linter.unusedVariables false
namespace Go.Proofs.YtgiioflkclkioaaGreatDoor
open Go.RowKit Ieee

theorem d_info : (Tryz.prog.info? 63).map (fun i => (i.zero, i.size, i.bytes)) = some (some (.agg #[.int .i64 0, .string ⟨#[]⟩, .complex .f64 0 0, .slice none 0 0, .int .i64 0]), 5, 72) := by kernel_rfl
structure Dz where
  d : Dp
  p : Option Addr
  c : Nat
def dzq (z : Dz) : List Value := [.int .i64 (z.d.so : Int), .string ⟨z.d.nm.toArray⟩, .complex .f64 (fl false z.d.re) (fl false z.d.im), .slice z.p z.d.body.len z.c, .int .i64 (z.d.ps : Int)]
theorem dzq_one (z : Dz) : ∀ u ∈ dzq z, u.oneCell' = true := by
  intro u hu
  simp only [dzq, List.mem_cons, List.not_mem_nil, or_false] at hu
  rcases hu with rfl | rfl | rfl | rfl | rfl <;> rfl
def dcs (zs : List Dz) : List Value := zs.flatMap dzq
theorem dcs_app (a b : List Dz) : dcs (a ++ b) = dcs a ++ dcs b := by simp [dcs]
structure Dq (wx : World) (B : Nat) (zs : List Dz) (v : Value) : Prop where
  own : wx.ownsRow B 63 5 v zs.length (dcs zs)
  px : ∀ z ∈ zs, PtV wx (fun g => B ≤ g ∧ g < wx.heap.size ∧ v.ownBlock ≠ some g) z.d.body z.p z.c
  nil : zs = [] → v = .slice none 0 0
theorem Dq.start (wx : World) (B : Nat) : Dq wx B [] (.slice none 0 0) := ⟨World.ownsRow_nil _ _ _ _, by simp, fun _ => rfl⟩
theorem Dq.kx {X : Nat → Prop} {w w2 : World} {B : Nat} {zs : List Dz} {v : Value} (h : Dq w B zs v) (hb : Kx X w w2) (hX : ∀ i, B ≤ i → ¬ X i) : Dq w2 B zs v :=
  ⟨own_kx h.own hb hX, fun z hz => (h.px z hz).on (Same.kx hb fun g hg => ⟨hg.2.1, hX g hg.1⟩) (fun g hg => ⟨hg.1, Nat.lt_of_lt_of_le hg.2.1 hb.size, hg.2.2⟩), h.nil⟩
/-- A declaration more. -/
theorem Dq.app {wx w2 w3 : World} {B b g : Nat} {cap : Nat} {zs : List Dz} {v : Value} {z : Dz} {o : Obj} (h : Dq wx B zs v) (hbB : b < B) (hB : B ≤ wx.heap.size) (hk : Kx (· = b) wx w2) (hp : PtV w2 (Nw wx.heap.size w2) z.d.body z.p z.c)
    (hg : (w2.alloc o).grownBy w3 v.ownBlock) (hat : v.ownBlock = some g ∨ g = w2.heap.size + 1) (ho : w3.ownsRow B 63 5 (.slice (some ⟨g, 0, none⟩) (zs.length + 1) cap) (zs.length + 1) (dcs zs ++ dzq z)) :
    Dq w3 B (zs ++ [z]) (.slice (some ⟨g, 0, none⟩) (zs.length + 1) cap) ∧ Kx (fun i => B ≤ i) w2 w3 := by
  have hvlt : ∀ j, v.ownBlock = some j → B ≤ j ∧ j < wx.heap.size := fun j hj => h.own.lt j hj
  have hz2 := hk.size
  have hz3 := hg.size
  simp at hz3
  have h32 : ∀ k, k < w2.heap.size → v.ownBlock ≠ some k → w3.heap[k]? = w2.heap[k]? := fun k h1 h2 => by
    rw [hg.block k (by simp; omega) (fun e => h2 e.symm), Below.heap_alloc _ _ _ h1]
  refine ⟨⟨by rw [List.length_append, dcs_app]; simpa [dcs] using ho, ?_, by simp⟩, ⟨hg.os, hg.tape, hg.output, by omega, fun k hk hx => h32 k hk (fun e => hx (hvlt k e).1)⟩⟩
  intro y hy
  rcases List.mem_append.1 hy with hy | hy
  · refine (h.px y hy).on (fun i q hi => ?_) (fun i hi => ⟨hi.1, by have := hi.2.1; omega, ?_⟩)
    · have e2 := h32 i (by have := hi.2.1; omega) hi.2.2
      have e3 := hk.block i hi.2.1 (by have := hi.1; omega)
      exact World.cell?_of_block (a := ⟨i, q, none⟩) (e2.trans e3)
    · simp only [Value.ownBlock]
      intro e
      injection e with e
      rcases hat with hat | hat
      · exact hi.2.2 (by rw [hat, e])
      · have := hi.2.1; omega
  · simp only [List.mem_cons, List.not_mem_nil, or_false] at hy
    subst hy
    refine hp.on (fun i q hi => ?_) (fun i hi => ⟨by have := hi.1; omega, by have := hi.2; omega, ?_⟩)
    · have hne : v.ownBlock ≠ some i := fun e => by have := (hvlt i e).2; have := hi.1; omega
      exact World.cell?_of_block (a := ⟨i, q, none⟩) (h32 i hi.2 hne)
    · simp only [Value.ownBlock]
      intro e
      injection e with e
      rcases hat with hat | hat
      · have := (hvlt g hat).2; have := hi.1; omega
      · have := hi.2; omega
theorem dcs_at (zs : List Dz) : ∀ (i j : Nat) (y : Dz), zs[i]? = some y → j < 5 → (dcs zs)[i * 5 + j]? = (dzq y)[j]? := by
  induction zs with
  | nil => intro i j y h; simp at h
  | cons u us ih =>
    intro i j y h hj
    have e : dcs (u :: us) = dzq u ++ dcs us := rfl
    have hl : (dzq u).length = 5 := rfl
    rw [e]
    cases i with
    | zero =>
      simp only [List.getElem?_cons_zero, Option.some.injEq] at h
      subst h
      rw [List.getElem?_append_left (by omega)]
      simp
    | succ i =>
      rw [List.getElem?_cons_succ] at h
      rw [List.getElem?_append_right (by omega), show (i + 1) * 5 + j - (dzq u).length = i * 5 + j by omega]
      exact ih i j y h hj
/-- As programs are read. -/
theorem Dq.read {wx : World} {B : Nat} {zs : List Dz} {v : Value} (h : Dq wx B zs v) : ∃ p c, v = .slice p (zs.map Dz.d).length c ∧ DpsV wx (Nw B wx) (zs.map Dz.d) p c := by
  rcases h.own.2 with ⟨rfl, h0⟩ | ⟨g, cap, cur, rfl, h1, h2, h3, h4, h5, h6⟩
  · have : zs = [] := List.length_eq_zero_iff.1 h0
    subst this
    exact ⟨none, 0, rfl, .inl ⟨rfl, rfl, rfl⟩⟩
  · refine ⟨some ⟨g, 0, none⟩, cap, by simp, ?_⟩
    cases zs with
    | nil => have := h.nil rfl; cases this
    | cons z zs =>
      refine .inr ⟨g, rfl, ⟨h1, (h.own.lt g rfl).2⟩, by simp, by simpa using h3, h4, ?_⟩
      intro i e he
      rw [List.getElem?_map] at he
      cases hz : (z :: zs)[i]? with
      | none => rw [hz] at he; cases he
      | some y =>
        rw [hz] at he
        injection he with he
        subst he
        have hi : i < (z :: zs).length := (List.getElem?_eq_some_iff.1 hz).1
        have key : ∀ j, j < 5 → wx.cell? ⟨g, i * 5 + j, none⟩ = (dzq y)[j]? := fun j hj => by
          rw [h.own.cellAt (i * 5 + j) (by omega)]
          exact dcs_at (z :: zs) i j y hz hj
        exact ⟨y.p, y.c, ⟨key 0 (by omega), key 1 (by omega), key 2 (by omega), key 3 (by omega), key 4 (by omega)⟩, (h.px y (List.mem_of_getElem? hz)).on (fun g o _ => rfl) (fun b hb => ⟨hb.1, hb.2.1⟩)⟩
/-- What program does. -/
def PG (b g : Nat) (w : World) (R : Except Er (List Dp)) (e : Ending) (w' : World) : Prop :=
  match R with
  | .ok l => ∃ p c, e = .returned (.agg #[.slice p l.length c]) ∧ DpsV w' (Nw w.heap.size w') l p c ∧ Kx (· = b) w w'
  | .error (p, c) => e = pan p c ∧ Kx (· = b) w w'
/-- How far program is: n the answer's variable, m the program's. -/
structure Pr_ (R : Except Er (List Dp)) (w wr : World) (b g n m : Nat) (zs : List Dz) (v : Value) (ts : List Tk) (k : Nat) : Prop where
  rd : Rdr wr b g ts 0
  ok : Okt ts
  kx : Kx (· = b) w wr
  nb : wr.heap[n]? = some (.cells #[.slice none 0 0] 29 (0, 0))
  mb : wr.heap[m]? = some (.cells #[v] 29 (0, 0))
  dq : Dq wr (m + 1) zs v
  res : R = match progP k ts with
    | .error er => .error er
    | .ok l => .ok (zs.map Dz.d ++ l)
  fuel : ts.length ≤ k
  few : zs.length + ts.length ≤ 19999

set_option maxRecDepth 100000 in
set_option maxHeartbeats 6400000 in
theorem program_any (b g : Nat) (ts : List Tk) (w : World) (hrd : Rdr w b g ts 0) (hok : Okt ts) (hl : ts.length ≤ 19999) :
    Calls Tryz.prog 37 #[.pointer (some ⟨b, 0, none⟩)] w (PG b g w (progP ts.length ts)) := by
  have hst := store_cx
  have hfK := fldK
  have hbw : b < w.heap.size := hrd.lt
  have hgw : g < w.heap.size := hrd.1
  have hlo : 13 ≤ b := by obtain ⟨_, _, _, R⟩ := hrd; exact R.lo
  have hlow : 13 ≤ w.heap.size := hrd.lkk.sz
  obtain ⟨R, hR⟩ : ∃ R, progP ts.length ts = R := ⟨_, rfl⟩
  rw [hR]
  obtain ⟨n, hn⟩ : ∃ n, w.heap.size = n := ⟨_, rfl⟩
  have HWN := Lib.hid hn
  obtain ⟨m, hm⟩ : ∃ m, n + 1 = m := ⟨_, rfl⟩
  have HNM := Lib.hid hm
  obtain ⟨w0, hw0⟩ : ∃ w0, (w.alloc (.cells #[.slice none 0 0] 29)).alloc (.cells #[.slice none 0 0] 29) = w0 := ⟨_, rfl⟩
  have HP0 : Hid (Pr_ R w w0 b g n m [] (.slice none 0 0) ts ts.length) := Lib.hid (by
    subst hm hn
    rw [← hw0]
    refine ⟨(hrd.on (below_alloc _ _)).on (below_alloc _ _), hok, ((Kx.refl _ _).alloc _).alloc _, ?_, alloc_at (by simp) _, Dq.start _ _, ?_, Nat.le_refl _, by simpa using hl⟩
    · rw [Below.heap_alloc _ _ _ (by simp)]; exact heap_alloc_new _ _
    · rw [← hR]
      cases progP ts.length ts <;> rfl)
  rw [hn] at hbw hgw hlow
  obtain ⟨i0, hi, hz0, hz1, hz2⟩ := info_parts d_info
  have HI := Lib.hid hi
  have HZ0 := Lib.hid hz0
  have HZ1 := Lib.hid hz1
  have HZ2 := Lib.hid hz2
  clear hi hz0 hz1 hz2 hrd hok hR
  go_enter Tryz.func37, Tryz.ntmps37
  go_wp2_with fail
  clear hw0 hn hm
  have hnm : n < m := by have := HNM.out; omega
  go_loopw [] (fun wr => ∃ zs v ts' k, Pr_ R w wr b g n m zs v ts' k) (fun wr => slen (wr.cell? ⟨b, 0, none⟩))
  case atStart => exact ⟨_, _, _, _, HP0.out⟩
  case round =>
    obtain ⟨zs, v, ts', k, hP⟩ := hrel
    have HP := Lib.hid hP
    obtain ⟨u, r1, hu⟩ := hP.ok.ne
    subst hu
    have hfu := hP.fuel
    have hfw := hP.few
    simp only [List.length_cons] at hfu hfw
    obtain ⟨k', hk'⟩ : ∃ k', k = k' + 1 := ⟨k - 1, by omega⟩
    have hres := hP.res
    rw [hk'] at hres
    have HN := Lib.hid (next_any b g u r1 0 wr hP.rd)
    unfold tv at HN
    clear hP
    by_cases hk0 : u.kind = 0
    · have k0 : ((u.kind : Int) != 0) = false := by simp; omega
      have hRe : R = .ok (zs.map Dz.d) := by
        rw [hres, progP, if_pos hk0]; simp
      have HRE := Lib.hid hRe
      generalize (⟨u.text.toArray⟩ : ByteArray) = T at *
      obtain ⟨p, c, hv, hp⟩ := HP.out.dq.read
      subst hv
      have HDV := Lib.hid hp
      generalize hpl : (zs.map Dz.d).length = pl at *
      have HPL := Lib.hid hpl
      clear hres hRe hk0 hp hpl
      go_wp2_with fail
      refine HN.out.mono ?_
      rintro en w2 ⟨rfl, hb2⟩
      have HB2 := Lib.hid hb2
      have HM2 : Hid (w2.heap[m]? = some (.cells #[.slice p pl c] 29 (0, 0))) := Lib.hid ((hb2.block m (lt_of_row HP.out.mb)).trans HP.out.mb)
      have HN2 : Hid (w2.heap[n]? = some (.cells #[.slice none 0 0] 29 (0, 0))) := Lib.hid ((hb2.block n (lt_of_row HP.out.nb)).trans HP.out.nb)
      have m0 : w2.cell? ⟨m, 0, none⟩ = some (.slice p pl c) := row_cell HM2.out
      have n0 : w2.cell? ⟨n, 0, none⟩ = some (.slice none 0 0) := row_cell HN2.out
      have f0 : w2.frozen? ⟨n, 0, none⟩ = false := row_frozen HN2.out
      clear hb2
      have HFIN : Hid (∀ W en, W = w2.setCell ⟨n, 0, none⟩ (.slice p pl c) → en = .returned (.agg #[.slice p pl c]) → PG b g w R en W) := Lib.hid (by
        rintro W en rfl rfl
        rw [HRE.out]
        have k2 : Kx (fun i => i = n) w2 (w2.setCell ⟨n, 0, none⟩ (.slice p pl c)) := Kx.setCell (X := fun i => i = n) (p := ⟨n, 0, none⟩) (Kx.refl _ _) (.inl rfl) _
        refine ⟨p, c, by rw [HPL.out], ?_, (HP.out.kx.bel HB2.out).setCell (p := ⟨n, 0, none⟩) (.inr (by have := HWN.out; show w.heap.size ≤ n; omega)) _⟩
        have hd : DpsV w2 (Nw (m + 1) w2) (zs.map Dz.d) p c := by
          rcases HDV.out with h | ⟨q, h1, h2, h3, h4, h5, h6⟩
          · exact .inl h
          · exact .inr ⟨q, h1, ⟨h2.1, Nat.lt_of_lt_of_le h2.2 HB2.out.size⟩, h3, h4, h5, h6.on (Same.below HB2.out fun i hi => hi.2) (fun i hi => ⟨hi.1, Nat.lt_of_lt_of_le hi.2 HB2.out.size⟩) h2⟩
        rcases hd with h | ⟨q, h1, h2, h3, h4, h5, h6⟩
        · exact .inl h
        · have hw := HWN.out
          exact .inr ⟨q, h1, ⟨by have := h2.1; omega, by simpa using h2.2⟩, h3, h4, h5, h6.on (Same.kx k2 fun i hi => ⟨hi.2, by have := hi.1; omega⟩) (fun i hi => ⟨by have := hi.1; omega, by have := hi.2; simpa using this⟩) h2⟩)
      go_wp2
      exact bodyPost_ret (v := .agg #[.slice p pl c]) (by simp [results, Tryz.results37, go_sem, n0]) rfl (HFIN.out _ _ rfl rfl)
    · have k0 : ((u.kind : Int) != 0) = true := by simp; omega
      have hRe0 : R = match (match declP (u :: r1) with
          | .error er => (.error er : Except Er (List Dp))
          | .ok (d, r2) => match progP k' r2 with
            | .error er => .error er
            | .ok l => .ok (d :: l)) with
          | .error er => .error er
          | .ok l => .ok (zs.map Dz.d ++ l) := by
        rw [hres, progP, if_neg hk0]
        rfl
      have HRE0 := Lib.hid hRe0
      generalize (⟨u.text.toArray⟩ : ByteArray) = T at *
      obtain ⟨pv, cv, hv⟩ : ∃ pv cv, v = .slice pv zs.length cv := by
        rcases HP.out.dq.own.2 with ⟨h1, h0⟩ | ⟨g', cap, cur, h1, _⟩
        · exact ⟨none, 0, by rw [h0]; exact h1⟩
        · exact ⟨_, _, h1⟩
      subst hv
      obtain ⟨zn, hzn⟩ : ∃ zn, zs.length = zn := ⟨_, rfl⟩
      rw [hzn] at HP
      have HZN := Lib.hid hzn
      have hzb : zn ≤ 19999 := by rw [← hzn]; omega
      clear hres hRe0 hk0 hzn
      go_wp2_with fail
      refine HN.out.mono ?_
      rintro en w2 ⟨rfl, hb2⟩
      have HB2 := Lib.hid hb2
      have HM2 : Hid (w2.heap[m]? = some (.cells #[.slice pv zn cv] 29 (0, 0))) := Lib.hid ((hb2.block m (lt_of_row HP.out.mb)).trans HP.out.mb)
      have HNB2 : Hid (w2.heap[n]? = some (.cells #[.slice none 0 0] 29 (0, 0))) := Lib.hid ((hb2.block n (lt_of_row HP.out.nb)).trans HP.out.nb)
      have HRD2 := Lib.hid (HP.out.rd.on hb2)
      have HDQ2 : Hid (Dq w2 (m + 1) zs (.slice pv zn cv)) := Lib.hid (HP.out.dq.kx (Kx.of (X := fun _ => False) hb2) (fun _ _ f => f))
      have HKX2 := Lib.hid (HP.out.kx.bel hb2)
      have m0 : w2.cell? ⟨m, 0, none⟩ = some (.slice pv zn cv) := row_cell HM2.out
      have hm2 : m < w2.heap.size := lt_of_row HM2.out
      have hn2 : n < w2.heap.size := lt_of_row HNB2.out
      clear hb2
      have HDE := Lib.hid (decl_any b g (u :: r1) w2.drew (rdr_drew HRD2.out) HP.out.ok (by simp only [List.length_cons]; omega))
      go_wp2
      refine wp_region_lapse (by kernel_rfl) (fun w' => w'.cell? ⟨m, 0, none⟩ = some (.slice pv zn cv)) 7 ?_
      have hS0 : w2.drew.cell? ⟨m, 0, none⟩ = some (.slice pv zn cv) := m0
      refine wpAnyF_take (i := 0) (v := ?v0p) rfl (by kernel_rfl) (by kernel_rfl) (by kernel_rfl) (by kernel_rfl) (fun _ _ _ h => h) (Or.inl ⟨by rfl, ?h0p⟩) hS0 ?_
      case h0p => (intro w hSw; (try dsimp only at hSw); go_simp; try with_reducible rfl)
      simp only [Act.put, List.setIfInBounds_toArray, List.set_cons_zero, List.set_cons_succ]
      refine wpAnyF_take (i := 1) (v := ?v1p) rfl (by kernel_rfl) (by kernel_rfl) (by kernel_rfl) (by kernel_rfl) (fun _ _ _ h => h) (Or.inl ⟨by rfl, ?h1p⟩) hS0 ?_
      case h1p => (intro w hSw; (try dsimp only at hSw); go_simp; try with_reducible rfl)
      simp only [Act.put, List.setIfInBounds_toArray, List.set_cons_zero, List.set_cons_succ]
      refine wpAnyF_take (i := 2) (v := ?v2p) rfl (by kernel_rfl) (by kernel_rfl) (by kernel_rfl) (by kernel_rfl) (fun _ _ _ h => h) (Or.inl ⟨by rfl, ?h2p⟩) hS0 ?_
      case h2p => (intro w hSw; (try dsimp only at hSw); go_simp; try with_reducible rfl)
      simp only [Act.put, List.setIfInBounds_toArray, List.set_cons_zero, List.set_cons_succ]
      clear hS0
      refine wpAnyF_one (i := 3) (by kernel_rfl) rfl (fun K hK => ?_)
      go_simp
      go_at_call 69
      refine HDE.out.mono ?_
      cases hde : declP (u :: r1) with
      | error er =>
        obtain ⟨pp, cc⟩ := er
        have hRe : R = .error (pp, cc) := by rw [HRE0.out, hde]
        subst hRe
        unfold PD pan
        rintro e1 w4 ⟨rfl, hk4⟩
        have HK4 := Lib.hid hk4
        clear hk4
        go_simp
        exact ⟨rfl, rfl, (HKX2.out.tr (kx_drew _ _)).tr HK4.out⟩
      | ok q =>
        obtain ⟨x, r2⟩ := q
        have hee := declP_eats _ _ _ HP.out.ok hde
        have HEE := Lib.hid hee
        have hel := hee.2
        simp only [List.length_cons] at hel
        have HRE : Hid (R = match progP k' r2 with
            | .error er => .error er
            | .ok l => .ok (zs.map Dz.d ++ x :: l)) := Lib.hid (by
          rw [HRE0.out, hde]
          simp only
          cases progP k' r2 <;> rfl)
        clear hde hee
        unfold PD
        rintro e1 w4 ⟨p, c, rfl, hp4, hr4, hk4'⟩
        have hk4 : Kx (· = b) w2 w4 := (kx_drew _ _).tr hk4'
        have HK4 := Lib.hid hk4
        have HP4 : Hid (PtV w4 (Nw w2.heap.size w4) x.body p c) := Lib.hid hp4
        have HR4 := Lib.hid hr4
        have hz4 : w2.heap.size ≤ w4.heap.size := hk4.size
        have s4 : w4.cell? ⟨m, 0, none⟩ = some (.slice pv zn cv) := (hk4.cell (p := ⟨m, 0, none⟩) hm2 (show ¬ m = b by omega)).trans m0
        have HM4 : Hid (w4.heap[m]? = some (.cells #[.slice pv zn cv] 29 (0, 0))) := Lib.hid ((hk4.block m hm2 (by omega)).trans HM2.out)
        have HNB4 : Hid (w4.heap[n]? = some (.cells #[.slice none 0 0] 29 (0, 0))) := Lib.hid ((hk4.block n hn2 (by omega)).trans HNB2.out)
        have HOW : Hid (w4.ownsRow (m + 1) 63 5 (.slice pv zn cv) zn (dcs zs)) := Lib.hid (by
          have h := own_kx HDQ2.out.own hk4 (fun i hi e => by omega)
          rw [HZN.out] at h
          exact h)
        clear hp4 hr4 hk4 hk4'
        unfold dpv
        have HNC := Lib.hid (new_cells w4 (dzq ⟨x, p, c⟩) 63)
        have HONE := Lib.hid (dzq_one ⟨x, p, c⟩)
        have HAPP : Hid (∀ g' cap w5 o, w5.ownsRow (m + 1) 63 5 (.slice (some ⟨g', 0, none⟩) (zn + 1) cap) (zn + 1) (dcs zs ++ dzq ⟨x, p, c⟩) → (w4.alloc o).grownBy w5 (Value.slice pv zn cv).ownBlock → ((Value.slice pv zn cv).ownBlock = some g' ∨ g' = w4.heap.size + 1) →
            w5.cell? ⟨m, 0, none⟩ = some (.slice pv zn cv) ∧ w5.frozen? ⟨m, 0, none⟩ = false ∧ ∀ W, W = w5.setCell ⟨m, 0, none⟩ (.slice (some ⟨g', 0, none⟩) (zn + 1) cap) → Pr_ R w W b g n m (zs ++ [⟨x, p, c⟩]) (.slice (some ⟨g', 0, none⟩) (zn + 1) cap) r2 k') := Lib.hid (fun g' cap w5 o ho hg hat => by
          have hzn := HZN.out
          subst hzn
          obtain ⟨q1, q2⟩ := HDQ2.out.app (b := b) (by omega) (by omega) HK4.out HP4.out hg hat ho
          have hrow : w5.heap[m]? = some (.cells #[.slice pv zs.length cv] 29 (0, 0)) := (q2.block m (by omega) (by omega)).trans HM4.out
          refine ⟨row_cell hrow, row_frozen hrow, ?_⟩
          rintro W rfl
          have k2 : Kx (fun i => i = m) w5 (w5.setCell ⟨m, 0, none⟩ (.slice (some ⟨g', 0, none⟩) (zs.length + 1) cap)) := Kx.setCell (X := fun i => i = m) (p := ⟨m, 0, none⟩) (Kx.refl _ _) (.inl rfl) _
          have hr5 : Rdr w5 b g r2 0 := HR4.out.kx q2 (by omega) (by omega) (fun i hi => by omega)
          have hw := HWN.out
          refine ⟨hr5.kx k2 (by omega) (by omega) (fun i hi => by omega), HEE.out.1, ((HKX2.out.tr HK4.out).trans q2 (fun i hi e => by omega)).trans k2 (fun i hi e => by omega), ?_, heap_setCell_same _ m 0 _ 29 _ hrow, q1.kx k2 (fun i hi e => by omega), ?_, by omega, by simp; omega⟩
          · rw [k2.block n (Nat.lt_of_lt_of_le (by omega) q2.size) (by omega), q2.block n (by omega) (by omega)]; exact HNB4.out
          · rw [HRE.out]
            cases progP k' r2 with
            | error er => rfl
            | ok l => simp)
        unfold dzq at HNC HONE HAPP
        simp only at HNC HONE HAPP
        generalize (⟨x.nm.toArray⟩ : ByteArray) = NM at *
        generalize fl false x.re = X at *
        generalize fl false x.im = Y at *
        generalize x.body.len = bn at *
        go_simp
        refine hK.out _ _ (fun _ => s4) ?_
        clear hK K
        try simp only [Act.put, List.setIfInBounds_toArray, List.set_cons_zero, List.set_cons_succ]
        refine wpAnyF_one (i := 4) (by kernel_rfl) rfl (fun K hK => ?_)
        go_simp
        refine hK.out _ _ (fun _ => al_cell s4 _) ?_
        clear hK K
        try simp only [Act.put, List.setIfInBounds_toArray, List.set_cons_zero, List.set_cons_succ]
        refine wpAnyF_one (i := 5) (by kernel_rfl) rfl (fun K hK => ?_)
        refine step_append_lies _ (by rfl) (.tmp 9) (.tmp 12) 27 (by rfl) (m + 1) 63 i0 _ 5 72 Tryz.underlying27 HI.out HZ0.out HZ1.out HZ2.out rfl (by decide) (.slice pv zn cv) zn (dcs zs) (by rfl) (HOW.out.alloc _) ⟨w4.heap.size, 0, none⟩ 1 1 [.int .i64 (x.so : Int), .string NM, .complex .f64 X Y, .slice p bn c, .int .i64 (x.ps : Int)] (by rfl) (by rfl) HNC.out HONE.out (by omega) (by unfold maxLen; omega) (by omega) (by simp; omega) _ (by simp; rfl) ?_
        intro g' cap w5 hown hgrow hat hlt
        obtain ⟨s5, f5, hfin⟩ := HAPP.out g' cap w5 _ hown hgrow hat
        have HFIN := Lib.hid hfin
        clear hown hgrow hat hfin
        have HDEC : Hid (∀ W, Pr_ R w W b g n m (zs ++ [⟨x, p, c⟩]) (.slice (some ⟨g', 0, none⟩) (zn + 1) cap) r2 k' → slen (W.cell? ⟨b, 0, none⟩) < slen (wr.cell? ⟨b, 0, none⟩)) := Lib.hid (fun W h => by rw [h.rd.slen, HP.out.rd.slen]; simp only [List.length_cons]; omega)
        refine hK.out _ _ (fun _ => s5) ?_
        clear hK K
        try simp only [Act.put, List.setIfInBounds_toArray, List.set_cons_zero, List.set_cons_succ]
        refine wpAnyF_one (i := 6) (by kernel_rfl) rfl (fun K hK => ?_)
        go_simp
        refine hK.out _ _ (fun _ => s5) ?_
        clear hK K
        try simp only [Act.put, List.setIfInBounds_toArray, List.set_cons_zero, List.set_cons_succ]
        refine wpAnyF_one (i := 7) (by kernel_rfl) rfl (fun K hK => ?_)
        go_simp
        refine hK.out _ _ (fun hne => absurd rfl hne) ?_
        clear hK K
        try simp only [Act.put, List.setIfInBounds_toArray, List.set_cons_zero, List.set_cons_succ]
        refine wpAnyF_done (by kernel_rfl) ?_ _
        go_wp2_with fail
        go_roundw
        case rel => exact ⟨_, _, _, _, HFIN.out _ rfl⟩
        case measure => exact HDEC.out _ (HFIN.out _ rfl)
end Go.Proofs.YtgiioflkclkioaaGreatDoor
