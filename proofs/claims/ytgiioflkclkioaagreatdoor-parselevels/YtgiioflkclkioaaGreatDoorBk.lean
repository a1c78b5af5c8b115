/- Blocks: statements in a row of one's own; so all statements. -/
import Derived.Test.YtgiioflkclkioaaGreatDoorSm
set_option linter.unusedSimpArgs false
set_option linter.unusedVariables false
namespace Go.Proofs.YtgiioflkclkioaaGreatDoor
open Go.RowKit Ieee

theorem s_info : (Tryz.prog.info? 126).map (fun i => (i.zero, i.size, i.bytes)) = some (some (.agg #[.int .i64 0, .string ⟨#[]⟩, .string ⟨#[]⟩, .bool false, .slice none 0 0, .slice none 0 0, .slice none 0 0, .int .i64 0]), 8, 128) := by kernel_rfl
/-- A statement, and where its parts lie. -/
structure Sz where
  s : St
  px : Option Addr
  cx : Nat
  pb : Option Addr
  cb : Nat
  pe : Option Addr
  ce : Nat
def szq (z : Sz) : List Value := [.int .i64 (z.s.k : Int), .string ⟨z.s.rg.toArray⟩, .string ⟨z.s.nm.toArray⟩, .bool z.s.ix, .slice z.px z.s.xs.length z.cx, .slice z.pb z.s.body.len z.cb, .slice z.pe z.s.els.len z.ce, .int .i64 (z.s.ps : Int)]
theorem szq_one (z : Sz) : ∀ u ∈ szq z, u.oneCell' = true := by
  intro u hu
  simp only [szq, List.mem_cons, List.not_mem_nil, or_false] at hu
  rcases hu with rfl | rfl | rfl | rfl | rfl | rfl | rfl | rfl <;> rfl
def scs (ss : List Sz) : List Value := ss.flatMap szq
theorem scs_app (a b : List Sz) : scs (a ++ b) = scs a ++ scs b := by simp [scs]
def ptOf : List Sz → Pt
  | [] => .nil
  | z :: l => z.s.pt (ptOf l)
theorem ptOf_len (l : List Sz) : (ptOf l).len = l.length := by
  induction l with
  | nil => rfl
  | cons z l ih => simp [ptOf, St.pt, Pt.len, ih]
theorem ptOf_app (l : List Sz) (z : Sz) (m : Pt) : (ptOf (l ++ [z])).app m = (ptOf l).app (z.s.pt m) := by
  induction l with
  | nil => rfl
  | cons y l ih => simp only [List.cons_append, ptOf, St.pt, Pt.app]; rw [ih]; rfl
/-- What hangs on a statement lies in blocks of S. -/
def SzP (w : World) (S : Nat → Prop) (z : Sz) : Prop := XsV w S z.s.xs z.px z.cx ∧ PtV w S z.s.body z.pb z.cb ∧ PtV w S z.s.els z.pe z.ce
theorem SzP.on {S S' : Nat → Prop} {w w' : World} (hs : Same S w w') (hS : ∀ g, S g → S' g) {z : Sz} (h : SzP w S z) : SzP w' S' z := ⟨h.1.on hs hS, h.2.1.on hs hS, h.2.2.on hs hS⟩
structure Sq (wx : World) (B : Nat) (ss : List Sz) (v : Value) : Prop where
  own : wx.ownsRow B 126 8 v ss.length (scs ss)
  px : ∀ z ∈ ss, SzP wx (fun g => B ≤ g ∧ g < wx.heap.size ∧ v.ownBlock ≠ some g) z
  nil : ss = [] → v = .slice none 0 0
theorem Sq.start (wx : World) (B : Nat) : Sq wx B [] (.slice none 0 0) := ⟨World.ownsRow_nil _ _ _ _, by simp, fun _ => rfl⟩
theorem Sq.kx {X : Nat → Prop} {w w2 : World} {B : Nat} {ss : List Sz} {v : Value} (h : Sq w B ss v) (hb : Kx X w w2) (hX : ∀ i, B ≤ i → ¬ X i) : Sq w2 B ss v :=
  ⟨own_kx h.own hb hX, fun z hz => (h.px z hz).on (Same.kx hb fun g hg => ⟨hg.2.1, hX g hg.1⟩) (fun g hg => ⟨hg.1, Nat.lt_of_lt_of_le hg.2.1 hb.size, hg.2.2⟩), h.nil⟩
/-- A statement more. -/
theorem Sq.app {wx w2 w3 : World} {B b : Nat} {ss : List Sz} {v v' : Value} {z : Sz} {o : Obj} (h : Sq wx B ss v) (hbB : b < B) (hB : B ≤ wx.heap.size) (hk : Kx (· = b) wx w2) (hp : SzP w2 (Nw wx.heap.size w2) z)
    (hg : (w2.alloc o).grownBy w3 v.ownBlock) (hat : v'.ownBlock = v.ownBlock ∨ v'.ownBlock = some (w2.alloc o).heap.size) (ho : w3.ownsRow B 126 8 v' (ss.length + 1) (scs ss ++ szq z)) :
    Sq w3 B (ss ++ [z]) v' ∧ Kx (fun i => B ≤ i) w2 w3 := by
  have hvlt : ∀ j, v.ownBlock = some j → B ≤ j ∧ j < wx.heap.size := fun j hj => h.own.lt j hj
  have hz2 := hk.size
  have hz3 := hg.size
  simp at hz3 hat
  have h32 : ∀ k, k < w2.heap.size → v.ownBlock ≠ some k → w3.heap[k]? = w2.heap[k]? := fun k h1 h2 => by
    rw [hg.block k (by simp; omega) (fun e => h2 e.symm), Below.heap_alloc _ _ _ h1]
  refine ⟨⟨by rw [List.length_append, scs_app]; simpa [scs] using ho, ?_, by simp⟩, ⟨hg.os, hg.tape, hg.output, by omega, fun k hk hx => h32 k hk (fun e => hx (hvlt k e).1)⟩⟩
  intro y hy
  rcases List.mem_append.1 hy with hy | hy
  · refine (h.px y hy).on (fun i q hi => ?_) (fun i hi => ⟨hi.1, by have := hi.2.1; omega, ?_⟩)
    · have e2 := h32 i (by have := hi.2.1; omega) hi.2.2
      have e3 := hk.block i hi.2.1 (by have := hi.1; omega)
      exact World.cell?_of_block (a := ⟨i, q, none⟩) (e2.trans e3)
    · rcases hat with hat | hat
      · rw [hat]; exact hi.2.2
      · rw [hat]; intro e; injection e with e; have := hi.2.1; omega
  · simp only [List.mem_cons, List.not_mem_nil, or_false] at hy
    subst hy
    refine hp.on (fun i q hi => ?_) (fun i hi => ⟨by have := hi.1; omega, by have := hi.2; omega, ?_⟩)
    · have hne : v.ownBlock ≠ some i := fun e => by have := (hvlt i e).2; have := hi.1; omega
      exact World.cell?_of_block (a := ⟨i, q, none⟩) (h32 i hi.2 hne)
    · rcases hat with hat | hat
      · rw [hat]; intro e; have := (hvlt i e).2; have := hi.1; omega
      · rw [hat]; intro e; injection e with e; have := hi.2; omega
theorem scs_at (ss : List Sz) : ∀ (i j : Nat) (y : Sz), ss[i]? = some y → j < 8 → (scs ss)[i * 8 + j]? = (szq y)[j]? := by
  induction ss with
  | nil => intro i j y h; simp at h
  | cons u us ih =>
    intro i j y h hj
    have e : scs (u :: us) = szq u ++ scs us := rfl
    have hl : (szq u).length = 8 := rfl
    rw [e]
    cases i with
    | zero =>
      simp only [List.getElem?_cons_zero, Option.some.injEq] at h
      subst h
      rw [List.getElem?_append_left (by omega)]
      simp
    | succ i =>
      rw [List.getElem?_cons_succ] at h
      rw [List.getElem?_append_right (by omega), show (i + 1) * 8 + j - (szq u).length = i * 8 + j by omega]
      exact ih i j y h hj
theorem pt_lies {w : World} {S : Nat → Prop} {g : Nat} : ∀ (ss : List Sz) (o : Nat), (∀ i y, ss[i]? = some y → (∀ j, j < 8 → w.cell? ⟨g, o + i * 8 + j, none⟩ = (szq y)[j]?) ∧ SzP w S y) → PtAt w S (ptOf ss) g o := by
  intro ss
  induction ss with
  | nil => intro o _; trivial
  | cons z ss ih =>
    intro o h
    obtain ⟨h1, h2⟩ := h 0 z rfl
    have key : ∀ j, j < 8 → w.cell? ⟨g, o + j, none⟩ = (szq z)[j]? := fun j hj => by have := h1 j hj; simpa using this
    refine ⟨⟨z.px, z.cx, z.pb, z.cb, z.pe, z.ce, ⟨key 0 (by omega), key 1 (by omega), key 2 (by omega), key 3 (by omega), key 4 (by omega), key 5 (by omega), key 6 (by omega), key 7 (by omega)⟩, h2.1, h2.2.1, h2.2.2⟩, ?_⟩
    refine ih (o + 8) (fun i y hy => ?_)
    obtain ⟨q1, q2⟩ := h (i + 1) y (by simpa using hy)
    refine ⟨fun j hj => ?_, q2⟩
    have := q1 j hj
    rw [show o + 8 + i * 8 + j = o + (i + 1) * 8 + j by omega]
    exact this
/-- As blocks are read. -/
theorem Sq.read {wx : World} {B : Nat} {ss : List Sz} {v : Value} (h : Sq wx B ss v) : ∃ p c, v = .slice p (ptOf ss).len c ∧ PtV wx (Nw B wx) (ptOf ss) p c := by
  rcases h.own.2 with ⟨rfl, h0⟩ | ⟨g, cap, cur, rfl, h1, h2, h3, h4, h5, h6⟩
  · have : ss = [] := List.length_eq_zero_iff.1 h0
    subst this
    exact ⟨none, 0, rfl, .inl ⟨rfl, rfl, rfl⟩⟩
  · refine ⟨some ⟨g, 0, none⟩, cap, by rw [ptOf_len], ?_⟩
    cases ss with
    | nil => have := h.nil rfl; cases this
    | cons z ss =>
      refine .inr ⟨g, rfl, ⟨h1, (h.own.lt g rfl).2⟩, by rw [ptOf_len]; simp, by rw [ptOf_len]; exact h3, h4, ?_⟩
      refine pt_lies _ 0 (fun i y hy => ⟨fun j hj => ?_, ?_⟩)
      · have hi : i < (z :: ss).length := (List.getElem?_eq_some_iff.1 hy).1
        rw [Nat.zero_add, h.own.cellAt (i * 8 + j) (by omega)]
        exact scs_at (z :: ss) i j y hy hj
      · exact (h.px y (List.mem_of_getElem? hy)).on (fun g o _ => rfl) (fun b hb => ⟨hb.1, hb.2.1⟩)
theorem Rdr.deep {w : World} {b g d d' : Nat} {ts : List Tk} (h : Rdr w b g ts d) : Rdr (w.setCell ⟨b, 1, none⟩ (.int .i64 (d' : Int))) b g ts d' := by
  obtain ⟨hg, o, cap, R⟩ := h
  have k2 : Kx (fun j => j = b) w (w.setCell ⟨b, 1, none⟩ (.int .i64 (d' : Int))) := Kx.setCell (X := fun j => j = b) (p := ⟨b, 1, none⟩) (Kx.refl _ _) (.inl rfl) _
  refine ⟨by simpa using hg, o, cap, ?_, R.gb, R.le, R.mx, R.toks.on (fun o => k2.cell (p := ⟨g, o, none⟩) hg R.gb), R.lk.kx k2 (fun i hi e => by have := R.lo; omega), R.lo⟩
  exact heap_setCell_same _ b 1 _ 77 _ R.blk
theorem Rdr.row {w : World} {b g d : Nat} {ts : List Tk} (h : Rdr w b g ts d) : w.cell? ⟨b, 1, none⟩ = some (.int .i64 (d : Int)) ∧ w.frozen? ⟨b, 1, none⟩ = false := by
  obtain ⟨hg, o, cap, R⟩ := h
  exact ⟨row_cell R.blk, row_frozen R.blk⟩
/-- How far a block is. -/
structure Bl (F d : Nat) (R : Rd Pt) (w wr : World) (b g : Nat) (ss : List Sz) (v : Value) (ts : List Tk) (k : Nat) : Prop where
  rd : Rdr wr b g ts (d + 1)
  ok : Okt ts
  kx : Kx (· = b) w wr
  sq : Sq wr w.heap.size ss v
  res : R = match stsP k (d + 1) ts with
    | .error er => .error er
    | .ok (l, r2) => .ok ((ptOf ss).app l, r2)
  fuel : ts.length ≤ k
  le : k ≤ F
  few : ss.length + ts.length ≤ 20000

set_option maxRecDepth 100000 in
set_option maxHeartbeats 6400000 in
theorem block_step (F : Nat) (hF : F ≤ 19999) (ih : ∀ f, f < F → ∀ d, d ≤ 12 → BlkC f d (blkP d (stsP f (d + 1)))) (d : Nat) (hd : d ≤ 12) : BlkC F d (blkP d (stsP F (d + 1))) := by
  intro b g ts w hrd hok hf
  have hfT := fldT
  have hst := store_cx
  have hbw : b < w.heap.size := hrd.lt
  have hgw : g < w.heap.size := hrd.1
  have hlo : 13 ≤ b := by obtain ⟨_, _, _, R⟩ := hrd; exact R.lo
  have HOK := Lib.hid hok
  have HIH := Lib.hid ih
  obtain ⟨t, r, hts⟩ := hok.ne
  subst hts
  have HN := Lib.hid (next_any b g t r d w hrd)
  unfold tv at HN
  have HRD := Lib.hid hrd
  obtain ⟨R, hR⟩ : ∃ R, blkP d (stsP F (d + 1)) (t :: r) = R := ⟨_, rfl⟩
  rw [hR]
  have HR := Lib.hid hR
  have c1 := hrd.row.1
  clear hrd hok hR ih
  by_cases ht : t.text = [123]
  · have q1 := txt_eq ht
    rw [ba_list [123]] at q1
    by_cases h12 : d = 12
    · have hRe : R = .error (t.pos, 10) := by rw [← HR.out, blkP, if_pos ht, if_pos h12]
      have HF := Lib.hid (fun (w' : World) (hb' : Below w.heap.size w w') => fail_any b g t r d 10 w' (HRD.out.on hb'))
      have h12' : ((d : Int) == 12) = true := by simp; omega
      subst hRe
      simp only [Int.cast_ofNat_Int] at HF
      unfold pan at HF
      clear ht h12
      generalize (⟨t.text.toArray⟩ : ByteArray) = T at *
      go_enter Tryz.func109, Tryz.ntmps109
      go_wp2_with fail
      refine HN.out.mono ?_
      rintro en w1 ⟨rfl, hb1⟩
      have HB1 := Lib.hid hb1
      have c1' : w1.cell? ⟨b, 1, none⟩ = some (.int .i64 (d : Int)) := (HRD.out.on hb1).row.1
      clear hb1
      go_wp2_with fail
      refine (HF.out _ HB1.out).mono ?_
      rintro en w2 ⟨rfl, hb2⟩
      have HB2 := Lib.hid (below_tr HB1.out hb2)
      clear hb2
      go_wp2
      exact ⟨rfl, rfl, Kx.of HB2.out⟩
    · have hRe : R = stsP F (d + 1) r := by rw [← HR.out, blkP, if_pos ht, if_neg h12]
      have htl := HOK.out.tl (by rw [ht]; simp)
      have HTL := Lib.hid htl
      have HMU := Lib.hid (fun (w' : World) (hb' : Below w.heap.size w w') => must_yes b g t r d [123] w' (HRD.out.on hb') htl.2.2 ht)
      have h12' : ((d : Int) == 12) = false := by simp; omega
      have HRE := Lib.hid hRe
      obtain ⟨i0, hi, hz0, hz1, hz2⟩ := info_parts s_info
      have HI := Lib.hid hi
      have HZ0 := Lib.hid hz0
      have HZ1 := Lib.hid hz1
      have HZ2 := Lib.hid hz2
      clear hi hz0 hz1 hz2
      simp only [List.length_cons] at hf
      clear ht htl hRe c1
      generalize (⟨t.text.toArray⟩ : ByteArray) = T at *
      go_enter Tryz.func109, Tryz.ntmps109
      go_wp2_with fail
      refine HN.out.mono ?_
      rintro en w1 ⟨rfl, hb1⟩
      have HB1 := Lib.hid hb1
      have c1' : w1.cell? ⟨b, 1, none⟩ = some (.int .i64 (d : Int)) := (HRD.out.on hb1).row.1
      clear hb1
      go_wp2_with fail
      refine (HMU.out _ HB1.out).mono ?_
      rintro en w2 ⟨rfl, hrd2, hk2⟩
      have HRD2 := Lib.hid hrd2
      have HK2 : Hid (Kx (· = b) w w2) := Lib.hid ((Kx.of HB1.out).tr hk2)
      have c2 : w2.cell? ⟨b, 1, none⟩ = some (.int .i64 (d : Int)) := hrd2.row.1
      have f2 : w2.frozen? ⟨b, 1, none⟩ = false := hrd2.row.2
      clear hrd2 hk2 c1'
      have HBL : Hid (Bl F d R w (w2.setCell ⟨b, 1, none⟩ (.int .i64 ((d + 1 : Nat) : Int))) b g [] (.slice none 0 0) r F) := Lib.hid (by
        refine ⟨HRD2.out.deep, HTL.out.1, HK2.out.setCell (p := ⟨b, 1, none⟩) (.inl rfl) _, Sq.start _ _, ?_, by omega, Nat.le_refl _, by simp; omega⟩
        rw [HRE.out]
        cases stsP F (d + 1) r with
        | error er => rfl
        | ok q => obtain ⟨l, r2⟩ := q; rfl)
      obtain ⟨D, hD⟩ : ∃ D : Nat, d + 1 = D := ⟨_, rfl⟩
      have hD' : (d : Int) + 1 = (D : Int) := by omega
      rw [hD] at HBL
      go_wp2_with fail
      clear c2 f2
      have hDm : (D : Int) - 1 = (d : Int) := by omega
      have HDD := Lib.hid hD
      clear hD hD'
      go_loopw [3] (fun v wr => ∃ ss ts' k, Bl F d R w wr b g ss v ts' k) (fun _ wr => slen (wr.cell? ⟨b, 0, none⟩))
      case atStart => exact ⟨[], r, F, HBL.out⟩
      case round =>
        obtain ⟨ss, ts', k, hB⟩ := hrel
        have HB := Lib.hid hB
        obtain ⟨u, r1, hu⟩ := hB.ok.ne
        subst hu
        have hfu := hB.fuel
        have hle := hB.le
        have hfw := hB.few
        simp only [List.length_cons] at hfu hfw
        obtain ⟨k', hk'⟩ : ∃ k', k = k' + 1 := ⟨k - 1, by omega⟩
        have hres := hB.res
        rw [hk'] at hres
        clear hB
        by_cases hut : u.text = [125]
        · have hRe : R = .ok (ptOf ss, r1) := by
            rw [hres, stsP, if_pos hut]; simp only [Pt.app_nil]
          have HRE2 := Lib.hid hRe
          have htl := HB.out.ok.tl (by rw [hut]; simp)
          have HTL2 := Lib.hid htl
          have HTI := Lib.hid (takeIf_yes b g u r1 (d + 1) [125] wr HB.out.rd htl.2.2 hut)
          rw [HDD.out] at HTI
          clear hres hRe htl hut
          go_wp2_with fail
          refine HTI.out.mono ?_
          rintro en w3 ⟨rfl, hrd3, hk3⟩
          have HRD3 := Lib.hid hrd3
          have HK3 := Lib.hid hk3
          have c3 : w3.cell? ⟨b, 1, none⟩ = some (.int .i64 (D : Int)) := hrd3.row.1
          have f3 : w3.frozen? ⟨b, 1, none⟩ = false := hrd3.row.2
          clear hrd3 hk3
          obtain ⟨p, c, hv, hp⟩ := HB.out.sq.read
          subst hv
          have HP := Lib.hid hp
          clear hp
          generalize hpl : (ptOf ss).len = pl at *
          have HPL := Lib.hid hpl
          clear hpl
          go_wp2
          go_ret
          rw [HRE2.out]
          refine ⟨p, c, by rw [HPL.out]; rfl, ?_, HRD3.out.deep, ((HB.out.kx.tr HK3.out).setCell (p := ⟨b, 1, none⟩) (.inl rfl) _)⟩
          exact HP.out.nw (HK3.out.setCell (p := ⟨b, 1, none⟩) (.inl rfl) _) (fun i hi _ e => by omega) (Nat.le_refl _)
        · have HTI := Lib.hid (takeIf_no b g u r1 (d + 1) [125] wr HB.out.rd hut)
          have hRe0 : R = match (match stP (blkP (d + 1) (stsP k' (d + 1 + 1))) (u :: r1) with
              | .error er => (.error er : Rd Pt)
              | .ok (s, r2) => match stsP k' (d + 1) r2 with
                | .error er => .error er
                | .ok (l, r3) => .ok (s.pt l, r3)) with
              | .error er => .error er
              | .ok (l, r2) => .ok ((ptOf ss).app l, r2) := by
            rw [hres, stsP, if_neg hut]
            rfl
          have HRE2 := Lib.hid hRe0
          have HST := Lib.hid (fun w' (hb : Below wr.heap.size wr w') => stmt_any k' (d + 1) (blkP (d + 1) (stsP k' (d + 1 + 1))) (blkP_eats (stsP_eats _ _)) (HIH.out k' (by omega) (d + 1) (by omega)) b g (u :: r1) w' (HB.out.rd.on hb) HB.out.ok (by simp only [List.length_cons]; omega) (by simp only [List.length_cons]; omega))
          clear hres hRe0 hut
          have HEATS := Lib.hid (stP_eats (blkP_eats (stsP_eats k' (d + 1 + 1)) (d := d + 1)))
          cases hst' : stP (blkP (d + 1) (stsP k' (d + 1 + 1))) (u :: r1) with
          | error er =>
            obtain ⟨pp, cc⟩ := er
            have hRe : R = .error (pp, cc) := by rw [HRE2.out, hst']
            rw [hst'] at HST
            subst hRe
            unfold PS at HST
            simp only at HST
            unfold pan at HST
            clear hst'
            go_wp2_with fail
            refine HTI.out.mono ?_
            rintro en w3 ⟨rfl, hb3⟩
            have HB3 := Lib.hid hb3
            clear hb3
            go_wp2_with fail
            refine (HST.out _ HB3.out).mono ?_
            rintro en w4 ⟨rfl, hk4⟩
            have HK4 := Lib.hid hk4
            clear hk4
            go_wp2
            exact ⟨rfl, rfl, (HB.out.kx.bel HB3.out).tr HK4.out⟩
          | ok sr =>
            obtain ⟨s, r2⟩ := sr
            have hse := HEATS.out _ _ _ HB.out.ok hst'
            have HSE := Lib.hid hse
            have hsl := hse.2
            simp only [List.length_cons] at hsl
            have hRe : R = match stsP k' (d + 1) r2 with
                | .error er => .error er
                | .ok (l, r3) => .ok ((ptOf ss).app (s.pt l), r3) := by
              rw [HRE2.out, hst']
              simp only
              cases stsP k' (d + 1) r2 with
              | error er => rfl
              | ok q => rfl
            have HRE3 := Lib.hid hRe
            rw [hst'] at HST
            unfold PS at HST
            simp only at HST
            clear hst' hRe hse
            go_wp2_with fail
            refine HTI.out.mono ?_
            rintro en w3 ⟨rfl, hb3⟩
            have HB3 := Lib.hid hb3
            clear hb3
            go_wp2_with fail
            refine (HST.out _ HB3.out).mono ?_
            rintro en w4 ⟨px, cx, pb, cb, pe, ce, rfl, hx4, hp4, he4, hr4, hk4⟩
            have HK4 : Hid (Kx (· = b) wr w4) := Lib.hid ((Kx.of HB3.out).tr hk4)
            have HR4 := Lib.hid hr4
            have hz3 : wr.heap.size ≤ w3.heap.size := HB3.out.size
            have HSZ : Hid (SzP w4 (Nw wr.heap.size w4) ⟨s, px, cx, pb, cb, pe, ce⟩) := Lib.hid (SzP.on (fun _ _ _ => rfl) (fun i hi => ⟨by have := hi.1; omega, hi.2⟩) ⟨hx4, hp4, he4⟩)
            have hz4 : w.heap.size ≤ wr.heap.size := HB.out.kx.size
            have hz5 : wr.heap.size ≤ w4.heap.size := HK4.out.size
            have ow4 := (HB.out.sq.kx HK4.out (fun i hi e => by omega)).own
            have HOW := Lib.hid ow4
            have hsb : ss.length ≤ 20000 := by omega
            clear hx4 hp4 he4 hr4 hk4 ow4
            unfold stv
            have HNC := Lib.hid (new_cells w4 (szq ⟨s, px, cx, pb, cb, pe, ce⟩) 126)
            have HONE := Lib.hid (szq_one ⟨s, px, cx, pb, cb, pe, ce⟩)
            have HAPP : Hid (∀ v' w5 o, w5.ownsRow w.heap.size 126 8 v' (ss.length + 1) (scs ss ++ szq ⟨s, px, cx, pb, cb, pe, ce⟩) → (w4.alloc o).grownBy w5 u3.ownBlock → (v'.ownBlock = u3.ownBlock ∨ v'.ownBlock = some (w4.alloc o).heap.size) → Bl F d R w w5 b g (ss ++ [⟨s, px, cx, pb, cb, pe, ce⟩]) v' r2 k') := Lib.hid (fun v' w5 o ho hg hat => by
              obtain ⟨q1, q2⟩ := HB.out.sq.app (b := b) hbw hz4 HK4.out HSZ.out hg hat ho
              have q3 : 13 ≤ w4.heap.size := HR4.out.lkk.sz
              refine ⟨HR4.out.kx q2 (by omega) (by omega) (fun i hi => by omega), HSE.out.1, (HB.out.kx.tr HK4.out).trans q2 (fun i hi e => by omega), q1, ?_, by omega, by omega, by simp; omega⟩
              rw [HRE3.out]
              cases stsP k' (d + 1) r2 with
              | error er => rfl
              | ok q =>
                obtain ⟨l, r3⟩ := q
                simp only
                rw [ptOf_app])
            unfold szq at HNC HONE HAPP
            simp only at HNC HONE HAPP
            generalize (⟨s.rg.toArray⟩ : ByteArray) = RG at *
            generalize (⟨s.nm.toArray⟩ : ByteArray) = NM at *
            generalize s.xs.length = xn at *
            generalize s.body.len = bn at *
            generalize s.els.len = en' at *
            go_wp2_with (at_builtin; refine Hid.out ?_)
            refine Lib.hid ?_
            refine wpList_append_own_at _ rfl (.tmp 29) (.tmp 32) 61 rfl w.heap.size 126 i0 _ 8 128 Tryz.underlying61 HI.out HZ0.out HZ1.out HZ2.out rfl (by decide) u3 ss.length (scs ss) rfl (HOW.out.alloc _) ⟨w4.heap.size, 0, Option.none⟩ 1 1 [.int .i64 (s.k : Int), .string RG, .string NM, .bool s.ix, .slice px xn cx, .slice pb bn cb, .slice pe en' ce, .int .i64 (s.ps : Int)] rfl rfl
              HNC.out HONE.out (by unfold maxLen; omega) (by omega) (by simp; omega) ?_
            intro v' w5 hown' hgr _ hat
            have HBL5 := Lib.hid (HAPP.out v' w5 _ hown' hgr hat)
            clear hown' hgr hat
            have HDEC : Hid (slen (w5.cell? ⟨b, 0, none⟩) < slen (wr.cell? ⟨b, 0, none⟩)) := Lib.hid (by rw [HBL5.out.rd.slen, HB.out.rd.slen]; simp only [List.length_cons]; omega)
            go_wp2_with fail
            go_roundw
            case rel => exact ⟨_, _, _, HBL5.out⟩
            case measure => exact HDEC.out
  · have q1 := txt_ne ht
    rw [ba_list [123]] at q1
    have hRe : R = .error (t.pos, 1) := by rw [← HR.out, blkP, if_neg ht]
    have HMU := Lib.hid (fun (w' : World) (hb' : Below w.heap.size w w') => must_no b g t r d [123] w' (HRD.out.on hb') ht)
    subst hRe
    unfold pan at HMU
    clear ht c1
    generalize (⟨t.text.toArray⟩ : ByteArray) = T at *
    go_enter Tryz.func109, Tryz.ntmps109
    go_wp2_with fail
    refine HN.out.mono ?_
    rintro en w1 ⟨rfl, hb1⟩
    have HB1 := Lib.hid hb1
    clear hb1
    go_wp2_with fail
    refine (HMU.out _ HB1.out).mono ?_
    rintro en w2 ⟨rfl, hb2⟩
    have HB2 := Lib.hid (below_tr HB1.out hb2)
    clear hb2
    go_wp2
    exact ⟨rfl, rfl, Kx.of HB2.out⟩
theorem block_any : ∀ F, F ≤ 19999 → ∀ d, d ≤ 12 → BlkC F d (blkP d (stsP F (d + 1))) := by
  intro F
  induction F using Nat.strongRecOn with
  | ind F ih => intro hF d hd; exact block_step F hF (fun f hf d hd => ih f hf (by omega) d hd) d hd
end Go.Proofs.YtgiioflkclkioaaGreatDoor
