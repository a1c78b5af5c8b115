/- A declaration. -/
import Derived.Test.YtgiioflkclkioaaGreatDoorNu
set_option linter.unusedSimpArgs false
set_option linter.unusedVariables false
namespace Go.Proofs.YtgiioflkclkioaaGreatDoor
open Go.RowKit Ieee

/-- A declaration's cells. -/
def dbox (so : Nat) (nm : ByteArray) (x y : Nat) (pb : Value) (a : Nat) : Array Value := #[.int .i64 (so : Int), .string nm, .complex .f64 x y, pb, .int .i64 (a : Int)]
def dpv (d : Dp) (p : Option Addr) (c : Nat) : Value := .agg #[.int .i64 (d.so : Int), .string ⟨d.nm.toArray⟩, .complex .f64 (fl false d.re) (fl false d.im), .slice p d.body.len c, .int .i64 (d.ps : Int)]
/-- What decl does. -/
def PD (b g : Nat) (w : World) (R : Rd Dp) (e : Ending) (w' : World) : Prop :=
  match R with
  | .ok (x, ts) => ∃ p c, e = .returned (dpv x p c) ∧ PtV w' (Nw w.heap.size w') x.body p c ∧ Rdr w' b g ts 0 ∧ Kx (· = b) w w'
  | .error (p, c) => e = pan p c ∧ Kx (· = b) w w'
/-- How far decl is: n the answer's variable, m the declaration's. -/
structure Ds (w wx : World) (b g n m so : Nat) (nm : ByteArray) (x y : Nat) (pb : Value) (a : Nat) (ts : List Tk) : Prop where
  rd : Rdr wx b g ts 0
  ok : Okt ts
  kx : Kx (· = b) w wx
  nb : wx.heap[n]? = some (.cells (dbox 0 ⟨#[]⟩ 0 0 (.slice none 0 0) 0) 63 (0, 0))
  mb : wx.heap[m]? = some (.cells (dbox so nm x y pb a) 63 (0, 0))
theorem Ds.kb {w wx wy : World} {b g n m so : Nat} {nm : ByteArray} {x y : Nat} {pb : Value} {a : Nat} {ts us : List Tk} (h : Ds w wx b g n m so nm x y pb a ts) (hk : Kx (· = b) wx wy) (hr : Rdr wy b g us 0) (ho : Okt us) (hn : n ≠ b) (hm : m ≠ b) : Ds w wy b g n m so nm x y pb a us :=
  ⟨hr, ho, h.kx.tr hk, (hk.block n (lt_of_row h.nb) hn).trans h.nb, (hk.block m (lt_of_row h.mb) hm).trans h.mb⟩
theorem Ds.set {w wx : World} {b g n m so so' : Nat} {nm nm' : ByteArray} {x y x' y' : Nat} {pb pb' : Value} {a : Nat} {ts : List Tk} (h : Ds w wx b g n m so nm x y pb a ts) (hmb : m ≠ b) (hmg : m ≠ g) (hnm : n ≠ m) (hw : w.heap.size ≤ m) (hm13 : 13 ≤ m) (i : Nat) (u : Value)
    (hi : (dbox so nm x y pb a).setIfInBounds i u = dbox so' nm' x' y' pb' a) : Ds w (wx.setCell ⟨m, i, none⟩ u) b g n m so' nm' x' y' pb' a ts := by
  have k2 : Kx (fun j => j = m) wx (wx.setCell ⟨m, i, none⟩ u) := Kx.setCell (X := fun j => j = m) (p := ⟨m, i, none⟩) (Kx.refl _ _) (.inl rfl) _
  refine ⟨h.rd.kx k2 (by omega) (by omega) (fun j hj => by omega), h.ok, h.kx.trans k2 (fun j hj e => by omega), ?_, ?_⟩
  · rw [k2.block n (lt_of_row h.nb) hnm]; exact h.nb
  · rw [← hi]
    exact heap_setCell_same _ m i _ 63 u h.mb
/-- Five cells stored. -/
def set5 (w : World) (n : Nat) (a0 a1 a2 a3 a4 : Value) : World :=
  ((((w.setCell ⟨n, 0, none⟩ a0).setCell ⟨n, 1, none⟩ a1).setCell ⟨n, 2, none⟩ a2).setCell ⟨n, 3, none⟩ a3).setCell ⟨n, 4, none⟩ a4
theorem kx_set5 {X : Nat → Prop} {a w : World} (h : Kx X a w) {n : Nat} (hp : X n ∨ a.heap.size ≤ n) (a0 a1 a2 a3 a4 : Value) : Kx X a (set5 w n a0 a1 a2 a3 a4) :=
  ((((h.setCell (p := ⟨n, 0, none⟩) hp _).setCell (p := ⟨n, 1, none⟩) hp _).setCell (p := ⟨n, 2, none⟩) hp _).setCell (p := ⟨n, 3, none⟩) hp _).setCell (p := ⟨n, 4, none⟩) hp _
theorem pd_fin {b g n m B : Nat} {w wx W : World} {x : Dp} {p : Option Addr} {c : Nat} {ts : List Tk} {en : Ending} (h : Ds w wx b g n m x.so ⟨x.nm.toArray⟩ (fl false x.re) (fl false x.im) (.slice p x.body.len c) x.ps ts)
    (hn : w.heap.size ≤ n) (hb : b ≠ n) (hg : g ≠ n) (h13 : 13 ≤ w.heap.size) (hB : n < B) (hp : PtV wx (Nw B wx) x.body p c)
    (hW : W = set5 wx n (.int .i64 (x.so : Int)) (.string ⟨x.nm.toArray⟩) (.complex .f64 (fl false x.re) (fl false x.im)) (.slice p x.body.len c) (.int .i64 (x.ps : Int)))
    (hen : en = .returned (dpv x p c)) : PD b g w (.ok (x, ts)) en W := by
  subst hW hen
  have k2 : Kx (fun i => i = n) wx (set5 wx n (.int .i64 (x.so : Int)) (.string ⟨x.nm.toArray⟩) (.complex .f64 (fl false x.re) (fl false x.im)) (.slice p x.body.len c) (.int .i64 (x.ps : Int))) := kx_set5 (X := fun i => i = n) (Kx.refl _ _) (.inl rfl) _ _ _ _ _
  exact ⟨p, c, rfl, hp.nw k2 (fun i hi _ e => by omega) (by omega), h.rd.kx k2 hb hg (fun i hi => by omega), kx_set5 h.kx (.inr hn) _ _ _ _ _⟩
/-- Behind the sort; behind the name; behind the number. -/
def de3P (so : Nat) (nm : List UInt8) (x y : Int) (a : Nat) (r2 : List Tk) : Rd Dp :=
  match must [59] r2 with
  | .error er => .error er
  | .ok r3 => .ok (⟨so, nm, x, y, .nil, a⟩, r3)
def de2P (so : Nat) (nm : List UInt8) (a : Nat) (r1 : List Tk) : Rd Dp :=
  if so = 5 then
    match blkP 0 (stsP r1.length 1) r1 with
    | .error er => .error er
    | .ok (b, r2) => .ok (⟨so, nm, 0, 0, b, a⟩, r2)
  else
    match (if so = 2 then .ok ((0, 0), r1) else numP r1) with
    | .error er => .error er
    | .ok ((x, y), r2) => de3P so nm x y a r2
theorem declP_eq (t : Tk) (r : List Tk) : declP (t :: r) = match sortOf t.text with
    | none => .error (t.pos, 5)
    | some so => match (if so = 4 then .ok ([], r) else nameP r) with
      | .error er => .error er
      | .ok (nm, r1) => de2P so nm t.pos r1 := rfl

set_option maxRecDepth 100000 in
set_option maxHeartbeats 6400000 in
theorem decl_any (b g : Nat) (ts : List Tk) (w : World) (hrd : Rdr w b g ts 0) (hok : Okt ts) (hl : ts.length ≤ 19999) :
    Calls Tryz.prog 69 #[.pointer (some ⟨b, 0, none⟩)] w (PD b g w (declP ts)) := by
  have hst := store_cx
  have hfP := fldP
  have hfT := fldT
  have hbw : b < w.heap.size := hrd.lt
  have hgw : g < w.heap.size := hrd.1
  have hlo : 13 ≤ b := by obtain ⟨_, _, _, R⟩ := hrd; exact R.lo
  have hlow : 13 ≤ w.heap.size := hrd.lkk.sz
  have HOK := Lib.hid hok
  obtain ⟨t, r, hts⟩ := hok.ne
  subst hts
  have HN := Lib.hid (fun w' (hb : Below w.heap.size w w') => next_any b g t r 0 w' (hrd.on hb))
  have HSO := Lib.hid (fun w' (hb : Below w.heap.size w w') => sortOf_any t.text w' (hrd.lkk.on hb))
  unfold tv at HN
  have HRD := Lib.hid hrd
  obtain ⟨R, hR⟩ : ∃ R, declP (t :: r) = R := ⟨_, rfl⟩
  rw [hR]
  have HR := Lib.hid hR
  obtain ⟨n, hn⟩ : ∃ n, w.heap.size = n := ⟨_, rfl⟩
  have HWN := Lib.hid hn
  rw [hn] at hbw hgw hlow
  obtain ⟨w0, hw0⟩ : ∃ w0, w.alloc (.cells #[.int .i64 0, .string ⟨#[]⟩, .complex .f64 0 0, .slice none 0 0, .int .i64 0] 63) = w0 := ⟨_, rfl⟩
  have HB0 : Hid (Below w.heap.size w w0) := Lib.hid (by rw [← hw0]; exact below_alloc _ _)
  have HNB0 : Hid (w0.heap[n]? = some (.cells (dbox 0 ⟨#[]⟩ 0 0 (.slice none 0 0) 0) 63 (0, 0))) := Lib.hid (by rw [← hw0]; exact alloc_at hn _)
  have hn0 : n < w0.heap.size := lt_of_row HNB0.out
  clear hrd hok hR
  obtain ⟨TT, hTT⟩ : ∃ TT : ByteArray, (⟨t.text.toArray⟩ : ByteArray) = TT := ⟨_, rfl⟩
  rw [hTT] at HN HSO
  clear hTT
  cases hs : sortOf t.text with
  | none =>
    have hRe : R = .error (t.pos, 5) := by rw [← HR.out, declP_eq, hs]
    have HF := Lib.hid (fun (w' : World) (hb' : Below w.heap.size w w') => fail_any b g t r 0 5 w' (HRD.out.on hb'))
    simp only [Int.cast_ofNat_Int] at HF
    rw [hs] at HSO
    unfold KoR at HSO
    simp only at HSO
    subst hRe
    unfold pan at HF
    clear hs
    go_enter Tryz.func69, Tryz.ntmps69
    go_wp2_with fail
    clear hw0 hn
    refine (HN.out _ HB0.out).mono ?_
    rintro en w1 ⟨rfl, hb1⟩
    have HB1 := Lib.hid (below_tr HB0.out hb1)
    clear hb1
    go_wp2_with fail
    refine (HSO.out _ HB1.out).mono ?_
    rintro en w1' ⟨rfl, rfl⟩
    go_wp2_with fail
    refine (HF.out _ HB1.out).mono ?_
    rintro en w2 ⟨rfl, hb2⟩
    have HB2 := Lib.hid (below_tr HB1.out hb2)
    clear hb2
    go_wp2
    exact ⟨rfl, rfl, Kx.of HB2.out⟩
  | some so =>
    have hso := sortOf_some hs
    have htl := HOK.out.tl (sortOf_ne hs)
    have HTL := Lib.hid htl
    have hRe : R = match (if so = 4 then .ok ([], r) else nameP r) with
      | .error er => .error er
      | .ok (nm, r1) => de2P so nm t.pos r1 := by rw [← HR.out, declP_eq, hs]
    have HRE := Lib.hid hRe
    have HT := Lib.hid (fun (w' : World) (hb' : Below w.heap.size w w') => take_any b g t r 0 w' (HRD.out.on hb') htl.2.2)
    rw [hs] at HSO
    unfold KoR at HSO
    simp only at HSO
    unfold tv at HT
    have hso6 := hso.1
    clear hs hso htl hRe
    simp only [List.length_cons] at hl
    go_enter Tryz.func69, Tryz.ntmps69
    go_wp2_with fail
    clear hw0 hn
    refine (HN.out _ HB0.out).mono ?_
    rintro en w1 ⟨rfl, hb1⟩
    have HB1 := Lib.hid hb1
    clear hb1
    go_wp2_with fail
    refine (HSO.out _ (below_tr HB0.out HB1.out)).mono ?_
    rintro en w1' ⟨rfl, rfl⟩
    go_wp2_with fail
    refine (HT.out _ (below_tr HB0.out HB1.out)).mono ?_
    rintro en w2 ⟨rfl, hrd2, hk2⟩
    obtain ⟨m, hm⟩ : ∃ m, w2.heap.size = m := ⟨_, rfl⟩
    have hz1 : w0.heap.size ≤ w1.heap.size := HB1.out.size
    have hz2 : w1.heap.size ≤ w2.heap.size := hk2.size
    have hnm : n < m := by omega
    obtain ⟨w3, hw3⟩ : ∃ w3, w2.alloc (.cells #[.int .i64 (so : Int), .string ⟨#[]⟩, .complex .f64 0 0, .slice none 0 0, .int .i64 (t.pos : Int)] 63) = w3 := ⟨_, rfl⟩
    have HD3 : Hid (Ds w w3 b g n m so ⟨#[]⟩ 0 0 (.slice none 0 0) t.pos r) := Lib.hid (by
      have k02 : Kx (· = b) w0 w2 := (Kx.of HB1.out).tr hk2
      refine ⟨by rw [← hw3]; exact hrd2.on (below_alloc _ _), HTL.out.1, by rw [← hw3]; exact ((Kx.of HB0.out).tr k02).alloc _, ?_, by rw [← hw3]; exact alloc_at hm _⟩
      rw [← hw3, Below.heap_alloc _ _ _ (by omega), k02.block n hn0 (by omega)]
      exact HNB0.out)
    clear hrd2 hk2
    have e1 : w3.cell? ⟨m, 1, none⟩ = some (.string ⟨#[]⟩) := row_cell HD3.out.mb
    have q1 : w3.frozen? ⟨m, 1, none⟩ = false := row_frozen HD3.out.mb
    go_upto_if 23 with (fail)
    clear hw3 hm
    go_cut [] (fun wx => ∃ nm r1, Ds w wx b g n m so ⟨(nm : List UInt8).toArray⟩ 0 0 (.slice none 0 0) t.pos r1 ∧ R = de2P so nm t.pos r1 ∧ r1.length ≤ r.length)
    case first =>
      by_cases h4 : so = 4
      · have k1 : ((so : Int) != 4) = false := by simp; omega
        have hRe : R = de2P so [] t.pos r := by rw [HRE.out, if_pos h4]
        have HRE2 := Lib.hid hRe
        clear hRe h4
        go_wp2_with fail
        go_meet
        exact ⟨[], r, HD3.out, HRE2.out, Nat.le_refl _⟩
      · have k1 : ((so : Int) != 4) = true := by simp; omega
        obtain ⟨u, r1, hu⟩ := HTL.out.1.ne
        subst hu
        cases hnn : isNm u with
        | false =>
          have hRe : R = .error (u.pos, 1) := by rw [HRE.out, if_neg h4, nameP, hnn]; rfl
          have HMN := Lib.hid (mustName_no b g u r1 0 w3 HD3.out.rd hnn)
          subst hRe
          unfold pan at HMN
          clear h4 hnn
          go_wp2_with fail
          refine HMN.out.mono ?_
          rintro en w4 ⟨rfl, hb4⟩
          have HB4 := Lib.hid hb4
          clear hb4
          go_wp2
          exact ⟨rfl, rfl, HD3.out.kx.bel HB4.out⟩
        | true =>
          have hRe : R = de2P so u.text t.pos r1 := by rw [HRE.out, if_neg h4, nameP, hnn]; rfl
          have HRE2 := Lib.hid hRe
          have htl := HTL.out.1.tl (isNm_ne HTL.out.1 hnn)
          have HTL2 := Lib.hid htl
          have HMN := Lib.hid (mustName_yes b g u r1 0 w3 HD3.out.rd htl.2.2 hnn)
          obtain ⟨UU, hUU⟩ : ∃ UU : ByteArray, (⟨u.text.toArray⟩ : ByteArray) = UU := ⟨_, rfl⟩
          rw [hUU] at HMN
          have HUU := Lib.hid hUU
          clear h4 hnn hRe htl hUU e1 q1
          go_wp2_with fail
          refine HMN.out.mono ?_
          rintro en w4 ⟨rfl, hrd4, hk4⟩
          have HD4 := Lib.hid (HD3.out.kb hk4 hrd4 HTL2.out.1 (by omega) (by omega))
          have e1 : w4.cell? ⟨m, 1, none⟩ = some (.string ⟨#[]⟩) := row_cell HD4.out.mb
          have q1 : w4.frozen? ⟨m, 1, none⟩ = false := row_frozen HD4.out.mb
          clear hrd4 hk4
          go_wp2_with fail
          go_meet
          exact ⟨u.text, r1, by rw [HUU.out]; exact HD4.out.set (by omega) (by omega) (by omega) (by have := HWN.out; omega) (by omega) 1 (.string UU) rfl, HRE2.out, by simp⟩
    case rest =>
      obtain ⟨nm, r1, hD, hRe, hr1⟩ := hcut
      have HD := Lib.hid hD
      have HRE2 := Lib.hid hRe
      clear hD hRe HD3 HRE e1 q1
      obtain ⟨NM, hNM⟩ : ∃ NM : ByteArray, (⟨nm.toArray⟩ : ByteArray) = NM := ⟨_, rfl⟩
      rw [hNM] at HD
      have HNM := Lib.hid hNM
      have HF0 := Lib.hid fl0
      clear hNM
      have hmc : m < wc.heap.size := lt_of_row HD.out.mb
      by_cases h5 : so = 5
      · have k5 : ((so : Int) == 5) = true := by simp; omega
        have hRe0 : R = match blkP 0 (stsP r1.length 1) r1 with
            | .error er => .error er
            | .ok (b, r2) => .ok (⟨so, nm, 0, 0, b, t.pos⟩, r2) := by rw [HRE2.out, de2P, if_pos h5]
        have HRE3 := Lib.hid hRe0
        have HBC := Lib.hid (block_any r1.length (by omega) 0 (by omega) b g r1 wc HD.out.rd HD.out.ok (Nat.le_refl _))
        clear hRe0 h5
        simp only [Nat.zero_add] at HBC
        cases hbr : blkP 0 (stsP r1.length 1) r1 with
        | error er =>
          obtain ⟨pp, cc⟩ := er
          have hRe : R = .error (pp, cc) := by rw [HRE3.out, hbr]
          rw [hbr] at HBC
          subst hRe
          unfold PB at HBC
          simp only at HBC
          unfold pan at HBC
          clear hbr
          go_wp2_with fail
          refine HBC.out.mono ?_
          rintro en w5 ⟨rfl, hk5⟩
          have HK5 := Lib.hid hk5
          clear hk5
          go_wp2
          exact ⟨rfl, rfl, HD.out.kx.tr HK5.out⟩
        | ok br =>
          obtain ⟨bd, r2⟩ := br
          have hRe : R = .ok (⟨so, nm, 0, 0, bd, t.pos⟩, r2) := by rw [HRE3.out, hbr]
          have HOK2 := Lib.hid (blkP_eats (stsP_eats _ _) _ _ _ HD.out.ok hbr).1
          rw [hbr] at HBC
          unfold PB at HBC
          simp only at HBC
          subst hRe
          clear hbr
          obtain ⟨bn, hbn⟩ : ∃ bn, bd.len = bn := ⟨_, rfl⟩
          rw [hbn] at HBC
          have HBN := Lib.hid hbn
          clear hbn
          go_wp2_with fail
          refine HBC.out.mono ?_
          rintro en w5 ⟨pb, cb, rfl, hp5, hr5, hk5⟩
          have HD5 := Lib.hid (HD.out.kb hk5 hr5 HOK2.out (by omega) (by omega))
          have HP5 := Lib.hid hp5
          have e3 : w5.cell? ⟨m, 3, none⟩ = some (.slice none 0 0) := row_cell HD5.out.mb
          have q3 : w5.frozen? ⟨m, 3, none⟩ = false := row_frozen HD5.out.mb
          obtain ⟨w6, hw6⟩ : ∃ w6, w5.setCell ⟨m, 3, none⟩ (.slice pb bn cb) = w6 := ⟨_, rfl⟩
          have H6 : Hid (Ds w w6 b g n m so NM 0 0 (.slice pb bn cb) t.pos r2 ∧ PtV w6 (Nw wc.heap.size w6) bd pb cb) := Lib.hid (by
            rw [← hw6]
            have k2 : Kx (fun j => j = m) w5 (w5.setCell ⟨m, 3, none⟩ (.slice pb bn cb)) := Kx.setCell (X := fun j => j = m) (p := ⟨m, 3, none⟩) (Kx.refl _ _) (.inl rfl) _
            exact ⟨HD5.out.set (by omega) (by omega) (by omega) (by have := HWN.out; omega) (by omega) 3 _ rfl, HP5.out.nw k2 (fun i hi _ e => by omega) (Nat.le_refl _)⟩)
          clear hp5 hr5 hk5
          go_upto_region 10 with (fail)
          clear hw6 e3 q3
          have n0 : w6.cell? ⟨n, 0, none⟩ = some (.int .i64 0) := row_cell H6.out.1.nb
          have f0 : w6.frozen? ⟨n, 0, none⟩ = false := row_frozen H6.out.1.nb
          have n1 : w6.cell? ⟨n, 1, none⟩ = some (.string ⟨#[]⟩) := row_cell H6.out.1.nb
          have f1 : w6.frozen? ⟨n, 1, none⟩ = false := row_frozen H6.out.1.nb
          have n2 : w6.cell? ⟨n, 2, none⟩ = some (.complex .f64 0 0) := row_cell H6.out.1.nb
          have f2 : w6.frozen? ⟨n, 2, none⟩ = false := row_frozen H6.out.1.nb
          have n3 : w6.cell? ⟨n, 3, none⟩ = some (.slice none 0 0) := row_cell H6.out.1.nb
          have f3 : w6.frozen? ⟨n, 3, none⟩ = false := row_frozen H6.out.1.nb
          have n4 : w6.cell? ⟨n, 4, none⟩ = some (.int .i64 0) := row_cell H6.out.1.nb
          have f4 : w6.frozen? ⟨n, 4, none⟩ = false := row_frozen H6.out.1.nb
          have m0 : w6.cell? ⟨m, 0, none⟩ = some (.int .i64 (so : Int)) := row_cell H6.out.1.mb
          have m1 : w6.cell? ⟨m, 1, none⟩ = some (.string NM) := row_cell H6.out.1.mb
          have m2 : w6.cell? ⟨m, 2, none⟩ = some (.complex .f64 0 0) := row_cell H6.out.1.mb
          have m3 : w6.cell? ⟨m, 3, none⟩ = some (.slice pb bn cb) := row_cell H6.out.1.mb
          have m4 : w6.cell? ⟨m, 4, none⟩ = some (.int .i64 (t.pos : Int)) := row_cell H6.out.1.mb
          have HFIN := Lib.hid (fun W en hW he => pd_fin (w := w) (wx := w6) (W := W) (en := en) (n := n) (m := m) (b := b) (g := g) (B := wc.heap.size) (x := ⟨so, nm, 0, 0, bd, t.pos⟩) (p := pb) (c := cb) (ts := r2)
            (by simp only [HNM.out, Pt.len, HF0.out, HBN.out]; exact H6.out.1) (by have := HWN.out; omega) (by omega) (by omega) (by have := HWN.out; omega) (by omega) H6.out.2 hW he)
          unfold set5 dpv at HFIN
          simp only [HNM.out, Pt.len, HF0.out, HBN.out] at HFIN
          go_wp2
          exact bodyPost_ret (v := .agg #[.int .i64 (so : Int), .string NM, .complex .f64 0 0, .slice pb bn cb, .int .i64 (t.pos : Int)]) (by simp [results, Tryz.results69, go_sem, n0, n1, n2, n3, n4]) rfl (HFIN.out _ _ rfl rfl)
      · have k5 : ((so : Int) == 5) = false := by simp; omega
        have hRe0 : R = match (if so = 2 then .ok ((0, 0), r1) else numP r1) with
            | .error er => .error er
            | .ok ((x, y), r2) => de3P so nm x y t.pos r2 := by rw [HRE2.out, de2P, if_neg h5]
        have HRE3 := Lib.hid hRe0
        clear hRe0
        by_cases h2 : so = 2
        · have k0 : ((so : Int) == 0) = false := by simp; omega
          have k1 : ((so : Int) == 1) = false := by simp; omega
          have k3 : ((so : Int) == 3) = false := by simp; omega
          have k4 : ((so : Int) == 4) = false := by simp; omega
          have hRe0 : R = de3P so nm 0 0 t.pos r1 := by rw [HRE3.out, if_pos h2]
          have HRE4 := Lib.hid hRe0
          clear hRe0 h2 h5
          obtain ⟨u, r2, hu⟩ := HD.out.ok.ne
          subst hu
          by_cases hut : u.text = [59]
          · have hRe : R = .ok (⟨so, nm, 0, 0, .nil, t.pos⟩, r2) := by rw [HRE4.out, de3P, must, if_pos hut]
            have htl := HD.out.ok.tl (by rw [hut]; simp)
            have HTL2 := Lib.hid htl
            have HMU := Lib.hid (must_yes b g u r2 0 [59] wc HD.out.rd htl.2.2 hut)
            subst hRe
            clear htl hut
            go_wp2_with fail
            refine HMU.out.mono ?_
            rintro en w5 ⟨rfl, hrd5, hk5⟩
            have HD5 := Lib.hid (HD.out.kb hk5 hrd5 HTL2.out.1 (by omega) (by omega))
            clear hrd5 hk5
            have n0 : w5.cell? ⟨n, 0, none⟩ = some (.int .i64 0) := row_cell HD5.out.nb
            have f0 : w5.frozen? ⟨n, 0, none⟩ = false := row_frozen HD5.out.nb
            have n1 : w5.cell? ⟨n, 1, none⟩ = some (.string ⟨#[]⟩) := row_cell HD5.out.nb
            have f1 : w5.frozen? ⟨n, 1, none⟩ = false := row_frozen HD5.out.nb
            have n2 : w5.cell? ⟨n, 2, none⟩ = some (.complex .f64 0 0) := row_cell HD5.out.nb
            have f2 : w5.frozen? ⟨n, 2, none⟩ = false := row_frozen HD5.out.nb
            have n3 : w5.cell? ⟨n, 3, none⟩ = some (.slice none 0 0) := row_cell HD5.out.nb
            have f3 : w5.frozen? ⟨n, 3, none⟩ = false := row_frozen HD5.out.nb
            have n4 : w5.cell? ⟨n, 4, none⟩ = some (.int .i64 0) := row_cell HD5.out.nb
            have f4 : w5.frozen? ⟨n, 4, none⟩ = false := row_frozen HD5.out.nb
            have m0 : w5.cell? ⟨m, 0, none⟩ = some (.int .i64 (so : Int)) := row_cell HD5.out.mb
            have m1 : w5.cell? ⟨m, 1, none⟩ = some (.string NM) := row_cell HD5.out.mb
            have m2 : w5.cell? ⟨m, 2, none⟩ = some (.complex .f64 0 0) := row_cell HD5.out.mb
            have m3 : w5.cell? ⟨m, 3, none⟩ = some (.slice none 0 0) := row_cell HD5.out.mb
            have m4 : w5.cell? ⟨m, 4, none⟩ = some (.int .i64 (t.pos : Int)) := row_cell HD5.out.mb
            have HFIN := Lib.hid (fun W en hW he => pd_fin (w := w) (wx := w5) (W := W) (en := en) (n := n) (m := m) (b := b) (g := g) (B := wc.heap.size) (x := ⟨so, nm, 0, 0, .nil, t.pos⟩) (p := none) (c := 0) (ts := r2)
              (by simp only [HNM.out, Pt.len, HF0.out]; exact HD5.out) (by have := HWN.out; omega) (by omega) (by omega) (by have := HWN.out; omega) (by omega) (PtV.none _ _) hW he)
            unfold set5 dpv at HFIN
            simp only [HNM.out, Pt.len, HF0.out] at HFIN
            go_wp2
            exact bodyPost_ret (v := .agg #[.int .i64 (so : Int), .string NM, .complex .f64 0 0, .slice none 0 0, .int .i64 (t.pos : Int)]) (by simp [results, Tryz.results69, go_sem, n0, n1, n2, n3, n4]) rfl (HFIN.out _ _ rfl rfl)
          · have hRe : R = .error (u.pos, 1) := by rw [HRE4.out, de3P, must, if_neg hut]
            have HMU := Lib.hid (must_no b g u r2 0 [59] wc HD.out.rd hut)
            subst hRe
            unfold pan at HMU
            clear hut
            go_wp2_with fail
            refine HMU.out.mono ?_
            rintro en w5 ⟨rfl, hb5⟩
            have HB5 := Lib.hid hb5
            clear hb5
            go_wp2
            exact ⟨rfl, rfl, HD.out.kx.bel HB5.out⟩
        · have hRe0 : R = match numP r1 with
              | .error er => .error er
              | .ok ((x, y), r2) => de3P so nm x y t.pos r2 := by rw [HRE3.out, if_neg h2]
          have HRE4 := Lib.hid hRe0
          have HNU := Lib.hid (num_any b g r1 0 wc HD.out.rd HD.out.ok)
          clear hRe0
          have hcs : (((so : Int) == 0) = true) ∨ (((so : Int) == 0) = false ∧ ((so : Int) == 1) = true) ∨ (((so : Int) == 0) = false ∧ ((so : Int) == 1) = false ∧ ((so : Int) == 3) = true) ∨ (((so : Int) == 0) = false ∧ ((so : Int) == 1) = false ∧ ((so : Int) == 3) = false ∧ ((so : Int) == 4) = true) := by
            rcases (by omega : so = 0 ∨ so = 1 ∨ so = 3 ∨ so = 4) with rfl | rfl | rfl | rfl
            · exact .inl rfl
            · exact .inr (.inl ⟨rfl, rfl⟩)
            · exact .inr (.inr (.inl ⟨rfl, rfl, rfl⟩))
            · exact .inr (.inr (.inr ⟨rfl, rfl, rfl, rfl⟩))
          clear h2 h5
          cases hnu : numP r1 with
          | error er =>
            obtain ⟨pp, cc⟩ := er
            have hRe : R = .error (pp, cc) := by rw [HRE4.out, hnu]
            rw [hnu] at HNU
            subst hRe
            unfold NuR at HNU
            simp only at HNU
            unfold pan at HNU
            clear hnu
            rcases hcs with k0 | ⟨k0, k1⟩ | ⟨k0, k1, k3⟩ | ⟨k0, k1, k3, k4⟩
            all_goals
              go_wp2_with fail
              refine HNU.out.mono ?_
              rintro en w5 ⟨rfl, hk5⟩
              have HK5 := Lib.hid hk5
              clear hk5
              go_wp2
              exact ⟨rfl, rfl, HD.out.kx.tr HK5.out⟩
          | ok q =>
            obtain ⟨⟨x, y⟩, r2'⟩ := q
            have HE2 := Lib.hid (numP_eats _ _ _ HD.out.ok hnu)
            have HRE5 : Hid (R = de3P so nm x y t.pos r2') := Lib.hid (by rw [HRE4.out, hnu])
            rw [hnu] at HNU
            unfold NuR at HNU
            simp only at HNU
            clear hnu
            obtain ⟨X, hX⟩ : ∃ X, fl false x = X := ⟨_, rfl⟩
            obtain ⟨Y, hY⟩ : ∃ Y, fl false y = Y := ⟨_, rfl⟩
            rw [hX, hY] at HNU
            have HX := Lib.hid hX
            have HY := Lib.hid hY
            clear hX hY
            obtain ⟨u, r2, hu⟩ := HE2.out.1.ne
            subst hu
            have HSET : Hid (∀ w5, Rdr w5 b g (u :: r2) 0 → Kx (· = b) wc w5 → (w5.cell? ⟨m, 2, none⟩ = some (.complex .f64 0 0) ∧ w5.frozen? ⟨m, 2, none⟩ = false) ∧ ∀ w6, w5.setCell ⟨m, 2, none⟩ (.complex .f64 X Y) = w6 → Ds w w6 b g n m so NM X Y (.slice none 0 0) t.pos (u :: r2)) := Lib.hid (fun w5 hr hk => by
              have h5 := HD.out.kb hk hr HE2.out.1 (by omega) (by omega)
              refine ⟨⟨row_cell h5.mb, row_frozen h5.mb⟩, ?_⟩
              rintro w6 rfl
              exact h5.set (by omega) (by omega) (by omega) (by have := HWN.out; omega) (by omega) 2 _ rfl)
            by_cases hut : u.text = [59]
            · have hRe : R = .ok (⟨so, nm, x, y, .nil, t.pos⟩, r2) := by rw [HRE5.out, de3P, must, if_pos hut]
              have htl := HE2.out.1.tl (by rw [hut]; simp)
              have HTL2 := Lib.hid htl
              have HMU := Lib.hid (fun w' h => must_yes b g u r2 0 [59] w' h htl.2.2 hut)
              subst hRe
              clear htl hut
              rcases hcs with k0 | ⟨k0, k1⟩ | ⟨k0, k1, k3⟩ | ⟨k0, k1, k3, k4⟩
              all_goals
                go_wp2_with fail
                refine HNU.out.mono ?_
                rintro en w4 ⟨rfl, hr4, hk4⟩
                obtain ⟨⟨e2, q2⟩, hset⟩ := HSET.out w4 hr4 hk4
                obtain ⟨w4', hw4'⟩ : ∃ w4', w4.setCell ⟨m, 2, none⟩ (.complex .f64 X Y) = w4' := ⟨_, rfl⟩
                have HD4 := Lib.hid (hset w4' hw4')
                clear hset hr4 hk4
                go_wp2_with fail
                clear hw4' e2 q2
                refine (HMU.out _ HD4.out.rd).mono ?_
                rintro en w5 ⟨rfl, hrd5, hk5⟩
                have HD5 := Lib.hid (HD4.out.kb hk5 hrd5 HTL2.out.1 (by omega) (by omega))
                clear hrd5 hk5
                have n0 : w5.cell? ⟨n, 0, none⟩ = some (.int .i64 0) := row_cell HD5.out.nb
                have f0 : w5.frozen? ⟨n, 0, none⟩ = false := row_frozen HD5.out.nb
                have n1 : w5.cell? ⟨n, 1, none⟩ = some (.string ⟨#[]⟩) := row_cell HD5.out.nb
                have f1 : w5.frozen? ⟨n, 1, none⟩ = false := row_frozen HD5.out.nb
                have n2 : w5.cell? ⟨n, 2, none⟩ = some (.complex .f64 0 0) := row_cell HD5.out.nb
                have f2 : w5.frozen? ⟨n, 2, none⟩ = false := row_frozen HD5.out.nb
                have n3 : w5.cell? ⟨n, 3, none⟩ = some (.slice none 0 0) := row_cell HD5.out.nb
                have f3 : w5.frozen? ⟨n, 3, none⟩ = false := row_frozen HD5.out.nb
                have n4 : w5.cell? ⟨n, 4, none⟩ = some (.int .i64 0) := row_cell HD5.out.nb
                have f4 : w5.frozen? ⟨n, 4, none⟩ = false := row_frozen HD5.out.nb
                have m0 : w5.cell? ⟨m, 0, none⟩ = some (.int .i64 (so : Int)) := row_cell HD5.out.mb
                have m1 : w5.cell? ⟨m, 1, none⟩ = some (.string NM) := row_cell HD5.out.mb
                have m2 : w5.cell? ⟨m, 2, none⟩ = some (.complex .f64 X Y) := row_cell HD5.out.mb
                have m3 : w5.cell? ⟨m, 3, none⟩ = some (.slice none 0 0) := row_cell HD5.out.mb
                have m4 : w5.cell? ⟨m, 4, none⟩ = some (.int .i64 (t.pos : Int)) := row_cell HD5.out.mb
                have HFIN := Lib.hid (fun W en hW he => pd_fin (w := w) (wx := w5) (W := W) (en := en) (n := n) (m := m) (b := b) (g := g) (B := wc.heap.size) (x := ⟨so, nm, x, y, .nil, t.pos⟩) (p := none) (c := 0) (ts := r2)
                  (by simp only [HNM.out, Pt.len, HX.out, HY.out]; exact HD5.out) (by have := HWN.out; omega) (by omega) (by omega) (by have := HWN.out; omega) (by omega) (PtV.none _ _) hW he)
                unfold set5 dpv at HFIN
                simp only [HNM.out, Pt.len, HX.out, HY.out] at HFIN
                go_wp2
                exact bodyPost_ret (v := .agg #[.int .i64 (so : Int), .string NM, .complex .f64 X Y, .slice none 0 0, .int .i64 (t.pos : Int)]) (by simp [results, Tryz.results69, go_sem, n0, n1, n2, n3, n4]) rfl (HFIN.out _ _ rfl rfl)
            · have hRe : R = .error (u.pos, 1) := by rw [HRE5.out, de3P, must, if_neg hut]
              have HMU := Lib.hid (fun w' h => must_no b g u r2 0 [59] w' h hut)
              subst hRe
              unfold pan at HMU
              clear hut
              rcases hcs with k0 | ⟨k0, k1⟩ | ⟨k0, k1, k3⟩ | ⟨k0, k1, k3, k4⟩
              all_goals
                go_wp2_with fail
                refine HNU.out.mono ?_
                rintro en w4 ⟨rfl, hr4, hk4⟩
                obtain ⟨⟨e2, q2⟩, hset⟩ := HSET.out w4 hr4 hk4
                obtain ⟨w4', hw4'⟩ : ∃ w4', w4.setCell ⟨m, 2, none⟩ (.complex .f64 X Y) = w4' := ⟨_, rfl⟩
                have HD4 := Lib.hid (hset w4' hw4')
                clear hset hr4 hk4
                go_wp2_with fail
                clear hw4' e2 q2
                refine (HMU.out _ HD4.out.rd).mono ?_
                rintro en w5 ⟨rfl, hb5⟩
                have HB5 := Lib.hid hb5
                clear hb5
                go_wp2
                exact ⟨rfl, rfl, HD4.out.kx.bel HB5.out⟩
end Go.Proofs.YtgiioflkclkioaaGreatDoor
