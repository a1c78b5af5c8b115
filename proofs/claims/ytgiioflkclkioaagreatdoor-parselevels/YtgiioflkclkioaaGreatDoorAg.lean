/- A statement's name, index and expressions. -/
import Derived.Test.YtgiioflkclkioaaGreatDoorAg0
import Derived.Deep.DeepCutAuto
import Derived.Deep.CutBlock
set_option linter.unusedSimpArgs false
set_option linter.unusedVariables false
namespace Go.Proofs.YtgiioflkclkioaaGreatDoor
open Go.RowKit Ieee

/-- A statement's cells. -/
def sbox (k : Nat) (rg nm : ByteArray) (ix : Bool) (v pb pe : Value) (a : Nat) : Array Value := #[.int .i64 (k : Int), .string rg, .string nm, .bool ix, v, pb, pe, .int .i64 (a : Int)]
/-- How far args is. -/
structure As (w wx : World) (b g c d k : Nat) (rg nm : ByteArray) (ix : Bool) (a : Nat) (qs : List (Ex × Option Addr)) (v : Value) (ts : List Tk) : Prop where
  rd : Rdr wx b g ts d
  ok : Okt ts
  kx : Kx (fun i => i = b ∨ i = c) w wx
  cb : wx.heap[c]? = some (.cells (sbox k rg nm ix v (.slice none 0 0) (.slice none 0 0) a) 126 (0, 0))
  xq : Xq wx w.heap.size qs v
/-- What args does. -/
def AgR (b g c : Nat) (w : World) (d k : Nat) (rg : ByteArray) (a : Nat) : Rd (List UInt8 × Bool × List Ex) → Ending → World → Prop
  | .ok ((nm, ix, xs), ts), e, w' => e = .returned (.tuple #[]) ∧ ∃ qs v, qs.map Prod.fst = xs ∧ As w w' b g c d k rg ⟨nm.toArray⟩ ix a qs v ts
  | .error (p, c'), e, w' => e = pan p c' ∧ Kx (fun i => i = b ∨ i = c) w w'
/-- The rest behind the name. -/
def args2P (k : Nat) (nm : List UInt8) (r : List Tk) : Rd (List UInt8 × Bool × List Ex) :=
  match indexP k r with
  | .error er => .error er
  | .ok (i, r1) =>
    match takesP (named k) (takes k) r1 with
    | .error er => .error er
    | .ok (l, r2) => .ok ((nm, i.isSome, i.toList ++ l), r2)
def args3P (k : Nat) (nm : List UInt8) (i : Option Ex) (r1 : List Tk) : Rd (List UInt8 × Bool × List Ex) :=
  match takesP (named k) (takes k) r1 with
  | .error er => .error er
  | .ok (l, r2) => .ok ((nm, i.isSome, i.toList ++ l), r2)
/-- Behind the bracket. -/
def args2iP (k : Nat) (nm : List UInt8) (r : List Tk) : Rd (List UInt8 × Bool × List Ex) :=
  match wholeP r with
  | .error er => .error er
  | .ok (e, r') =>
    match must [93] r' with
    | .error er => .error er
    | .ok r'' => args3P k nm (some e) r''
/-- The rest of the expressions, j of them being read. -/
def takeRest (k : Nat) (nm : List UInt8) (i : Option Ex) (l0 : List Ex) (j : Nat) (ts : List Tk) : Rd (List UInt8 × Bool × List Ex) :=
  match takesP (decide (0 < j) || named k) (takes k - j) ts with
  | .error er => .error er
  | .ok (l, r2) => .ok ((nm, i.isSome, i.toList ++ l0 ++ l), r2)
theorem argsP_eq (k : Nat) (ts : List Tk) : argsP k ts = match (if named k = true then nameP ts else .ok ([], ts)) with
    | .error er => .error er
    | .ok (nm, r) => args2P k nm r := rfl
theorem args2_no {k : Nat} {nm : List UInt8} {t : Tk} {r : List Tk} (h : (celled k && decide (t.text = [91])) = false) : args2P k nm (t :: r) = args3P k nm none (t :: r) := by
  unfold args2P
  rw [indexP, h]
  rfl
theorem args2_yes {k : Nat} {nm : List UInt8} {t : Tk} {r : List Tk} (h : (celled k && decide (t.text = [91])) = true) : args2P k nm (t :: r) = args2iP k nm r := by
  unfold args2P args2iP
  rw [indexP, h]
  simp only [if_true]
  cases wholeP r with
  | error er => rfl
  | ok q =>
    obtain ⟨e, r'⟩ := q
    simp only
    cases must [93] r' with
    | error er => rfl
    | ok r'' => rfl
theorem args3_rest (k : Nat) (nm : List UInt8) (i : Option Ex) (r : List Tk) : args3P k nm i r = takeRest k nm i [] 0 r := by
  unfold args3P takeRest
  simp
/-- Behind the comma. -/
def takeRest2 (k : Nat) (nm : List UInt8) (i : Option Ex) (l0 : List Ex) (j : Nat) (ts : List Tk) : Rd (List UInt8 × Bool × List Ex) :=
  match wholeP ts with
  | .error er => .error er
  | .ok (e, r) =>
    match takesP true (takes k - (j + 1)) r with
    | .error er => .error er
    | .ok (l, r2) => .ok ((nm, i.isSome, i.toList ++ l0 ++ e :: l), r2)
theorem takeRest2_ok {k : Nat} {nm : List UInt8} {i : Option Ex} {l0 : List Ex} {j : Nat} {ts r : List Tk} {x : Ex} (h : wholeP ts = .ok (x, r)) (hj : j < takes k) : takeRest2 k nm i l0 j ts = takeRest k nm i (l0 ++ [x]) (j + 1) r := by
  unfold takeRest2 takeRest
  rw [h]
  simp
theorem takeRest_no {k : Nat} {nm : List UInt8} {i : Option Ex} {l0 : List Ex} {j : Nat} {ts : List Tk} (hj : j < takes k) (hc : (decide (0 < j) || named k) = false) : takeRest k nm i l0 j ts = takeRest2 k nm i l0 j ts := by
  unfold takeRest takeRest2
  obtain ⟨m, hm⟩ : ∃ m, takes k - j = m + 1 := ⟨takes k - j - 1, by omega⟩
  rw [hm, hc, takesP, show takes k - (j + 1) = m by omega]
  simp only [Bool.false_eq_true, if_false]
  cases wholeP ts with
  | error er => rfl
  | ok q =>
    obtain ⟨e, r⟩ := q
    simp only
    cases takesP true m r with
    | error er => rfl
    | ok q => rfl
theorem takeRest_yes {k : Nat} {nm : List UInt8} {i : Option Ex} {l0 : List Ex} {j : Nat} {ts : List Tk} (hj : j < takes k) (hc : (decide (0 < j) || named k) = true) : takeRest k nm i l0 j ts = match must [44] ts with | .error er => .error er | .ok r => takeRest2 k nm i l0 j r := by
  unfold takeRest takeRest2
  obtain ⟨m, hm⟩ : ∃ m, takes k - j = m + 1 := ⟨takes k - j - 1, by omega⟩
  rw [hm, hc, takesP, show takes k - (j + 1) = m by omega]
  simp only [if_true]
  cases must [44] ts with
  | error er => rfl
  | ok ts1 =>
    simp only
    cases wholeP ts1 with
    | error er => rfl
    | ok q =>
      obtain ⟨e, r⟩ := q
      simp only
      cases takesP true m r with
      | error er => rfl
      | ok q => rfl
theorem takeRest_end {k : Nat} {nm : List UInt8} {i : Option Ex} {l0 : List Ex} {ts : List Tk} : takeRest k nm i l0 (takes k) ts = .ok ((nm, i.isSome, i.toList ++ l0), ts) := by
  unfold takeRest
  rw [Nat.sub_self, takesP]
  simp
theorem takes_le (k : Nat) : takes k ≤ 2 := by unfold takes; split; omega; split <;> omega
theorem As.len {w wx : World} {b g c d k : Nat} {rg nm : ByteArray} {ix : Bool} {a : Nat} {qs : List (Ex × Option Addr)} {v : Value} {ts : List Tk} (h : As w wx b g c d k rg nm ix a qs v ts) : ∃ pv cv, v = .slice pv qs.length cv := by
  rcases h.xq.own.2 with ⟨rfl, h0⟩ | ⟨g', cap, cur, rfl, _⟩
  · exact ⟨none, 0, by rw [h0]⟩
  · exact ⟨_, _, rfl⟩
/-- Only the reader has changed. -/
theorem As.kb {w wx wy : World} {b g c d k : Nat} {rg nm : ByteArray} {ix : Bool} {a : Nat} {qs : List (Ex × Option Addr)} {v : Value} {ts us : List Tk} (h : As w wx b g c d k rg nm ix a qs v ts) (hk : Kx (· = b) wx wy) (hr : Rdr wy b g us d) (ho : Okt us) (hb : b < w.heap.size) (hcb : c ≠ b) : As w wy b g c d k rg nm ix a qs v us :=
  ⟨hr, ho, h.kx.trans hk (fun i _ e => .inl e), (hk.block c (lt_of_row h.cb) (by omega)).trans h.cb, h.xq.kx hk (fun i hi e => by omega)⟩
theorem As.bel {w wx wy : World} {b g c d k : Nat} {rg nm : ByteArray} {ix : Bool} {a : Nat} {qs : List (Ex × Option Addr)} {v : Value} {ts : List Tk} (h : As w wx b g c d k rg nm ix a qs v ts) (hk : Below wx.heap.size wx wy) (hb : b < w.heap.size) (hcb : c ≠ b) : As w wy b g c d k rg nm ix a qs v ts :=
  h.kb (Kx.of hk) (h.rd.on hk) h.ok hb hcb
/-- A cell of the statement set. -/
theorem As.set {w wx : World} {b g c d k : Nat} {rg nm nm' : ByteArray} {ix ix' : Bool} {a : Nat} {qs : List (Ex × Option Addr)} {v : Value} {ts : List Tk} (h : As w wx b g c d k rg nm ix a qs v ts) (hcb : c ≠ b) (hcg : c ≠ g) (hc : c < w.heap.size) (hc13 : 13 ≤ c) (i : Nat) (u : Value)
    (hi : (sbox k rg nm ix v (.slice none 0 0) (.slice none 0 0) a).setIfInBounds i u = sbox k rg nm' ix' v (.slice none 0 0) (.slice none 0 0) a) : As w (wx.setCell ⟨c, i, none⟩ u) b g c d k rg nm' ix' a qs v ts := by
  have k2 : Kx (fun j => j = c) wx (wx.setCell ⟨c, i, none⟩ u) := Kx.setCell (X := fun j => j = c) (p := ⟨c, i, none⟩) (Kx.refl _ _) (.inl rfl) _
  refine ⟨h.rd.kx k2 (by omega) (by omega) (fun j hj => by omega), h.ok, h.kx.trans k2 (fun j _ e => .inr e), ?_, h.xq.kx k2 (fun j hj e => by omega)⟩
  rw [← hi]
  exact heap_setCell_same _ c i _ 126 u h.cb
/-- An expression more. -/
theorem As.app {w wx w2 w3 : World} {b g c d k g' cap : Nat} {rg nm : ByteArray} {ix : Bool} {a : Nat} {qs : List (Ex × Option Addr)} {v : Value} {ts r : List Tk} {x : Ex} {p : Option Addr} (h : As w wx b g c d k rg nm ix a qs v ts) (hbB : b < w.heap.size) (hgB : g < w.heap.size) (hcB : c < w.heap.size) (hcb : c ≠ b) (hcg : c ≠ g) (hk : Kx (· = b) wx w2)
    (hp : Px w2 (Nw wx.heap.size w2) x p) (hr : Rdr w2 b g r d) (ho : Okt r) (hc13 : 13 ≤ c) (hg : w2.grownBy w3 v.ownBlock) (hat : v.ownBlock = some g' ∨ g' = w2.heap.size)
    (hw : w3.ownsRow w.heap.size 159 4 (.slice (some ⟨g', 0, none⟩) (qs.length + 1) cap) (qs.length + 1) (qcs qs ++ zexq)) (W : World)
    (hW : W = ((((w3.setCell ⟨g', qs.length * 4, none⟩ (.string (opB x))).setCell ⟨g', qs.length * 4 + 1, none⟩ (.complex .f64 (nxB x) (nyB x))).setCell ⟨g', qs.length * 4 + 2, none⟩ (.string (nmB x))).setCell ⟨g', qs.length * 4 + 3, none⟩ (.slice p (npB x) (npB x))).setCell ⟨c, 4, none⟩ (.slice (some ⟨g', 0, none⟩) (qs.length + 1) cap) ∨
      W = ((((w3.setCell ⟨c, 4, none⟩ (.slice (some ⟨g', 0, none⟩) (qs.length + 1) cap)).setCell ⟨g', qs.length * 4, none⟩ (.string (opB x))).setCell ⟨g', qs.length * 4 + 1, none⟩ (.complex .f64 (nxB x) (nyB x))).setCell ⟨g', qs.length * 4 + 2, none⟩ (.string (nmB x))).setCell ⟨g', qs.length * 4 + 3, none⟩ (.slice p (npB x) (npB x))) :
    As w W b g c d k rg nm ix a (qs ++ [(x, p)]) (.slice (some ⟨g', 0, none⟩) (qs.length + 1) cap) r := by
  have hBx : w.heap.size ≤ wx.heap.size := h.kx.size
  obtain ⟨h1, h2, h3, h4, h5, h6, h7⟩ := h.xq.app (b := b) (c := c) (g := g') (z := 0) hbB hcB hBx hk hp hg hat hw _ W hW
  have k3 : Kx (fun i => i = c ∨ w.heap.size ≤ i) w2 W := by
    refine ⟨h2.os.trans hk.os.symm, h2.tape.trans hk.tape.symm, h2.output.trans hk.output.symm, by rw [h3]; exact hg.size, fun i _ hi => ?_⟩
    exact h5 i (by omega) (by omega)
  refine ⟨hr.kx k3 (by omega) (by omega) (fun i hi => by have := h.rd.lkk.sz; have := hr.lkk.sz; omega), ho, ?_, ?_, h1⟩
  · refine ⟨h2.os.trans h.kx.os, h2.tape.trans h.kx.tape, h2.output.trans h.kx.output, Nat.le_trans hBx h2.size, fun i hi hx => ?_⟩
    rw [h4 i hi (fun e => hx (.inl e)) (fun e => hx (.inr e))]
    exact h.kx.block i hi hx
  · rw [h6]
    have e : w3.heap[c]? = some (.cells (sbox k rg nm ix v (.slice none 0 0) (.slice none 0 0) a) 126 (0, 0)) := by rw [h7, hk.block c (by omega) (by omega)]; exact h.cb
    exact heap_setCell_same _ c 4 _ 126 _ e

set_option maxRecDepth 100000 in
set_option maxHeartbeats 3200000 in
theorem args_any (b g c : Nat) (ts : List Tk) (d k : Nat) (rg : ByteArray) (a : Nat) (w : World) (hrd : Rdr w b g ts d) (hok : Okt ts) (hl : ts.length ≤ 20000) (hk : k < 17) (hcb : c ≠ b) (hcg : c ≠ g) (hc13 : 13 ≤ c)
    (hc : w.heap[c]? = some (.cells (sbox k rg ⟨#[]⟩ false (.slice none 0 0) (.slice none 0 0) (.slice none 0 0) a) 126 (0, 0))) :
    Calls Tryz.prog 171 #[.pointer (some ⟨b, 0, none⟩), .pointer (some ⟨c, 0, none⟩)] w (AgR b g c w d k rg a (argsP k ts)) := by
  have hst := store_cx
  have hbw : b < w.heap.size := hrd.lt
  have hgw : g < w.heap.size := hrd.1
  have hlo : 13 ≤ b := by obtain ⟨_, _, _, R⟩ := hrd; exact R.lo
  have hcw : c < w.heap.size := lt_of_row hc
  have HA0 : Hid (As w w b g c d k rg ⟨#[]⟩ false a [] (.slice none 0 0) ts) := Lib.hid ⟨hrd, hok, Kx.refl _ _, hc, Xq.start _ _⟩
  have HNM := Lib.hid (named_any k hk)
  have HCE := Lib.hid (celled_any k hk)
  have HTK := Lib.hid (takes_any k hk)
  obtain ⟨R, hR⟩ : ∃ R, argsP k ts = R := ⟨_, rfl⟩
  rw [hR]
  have HR := Lib.hid hR
  have c0 : w.cell? ⟨c, 0, none⟩ = some (.int .i64 (k : Int)) := row_cell hc
  have c2 : w.cell? ⟨c, 2, none⟩ = some (.string ⟨#[]⟩) := row_cell hc
  have f2 : w.frozen? ⟨c, 2, none⟩ = false := row_frozen hc
  obtain ⟨bn, hbn⟩ : ∃ bn, named k = bn := ⟨_, rfl⟩
  have HBN := Lib.hid hbn
  rw [hbn] at HNM
  clear hrd hok hc hR hbn
  go_enter Tryz.func171, Tryz.ntmps171
  go_wp2_with fail
  refine (HNM.out _).mono ?_
  rintro en w1 ⟨rfl, rfl⟩
  go_upto_if 11 with (fail)
  go_cut [] (fun wx => ∃ nm r, As w wx b g c d k rg ⟨(nm : List UInt8).toArray⟩ false a [] (.slice none 0 0) r ∧ R = args2P k nm r ∧ r.length ≤ 20000)
  case first =>
    have HAR : Hid (argsP k ts = match (if bn = true then nameP ts else .ok ([], ts)) with
        | .error er => .error er
        | .ok (nm, r) => args2P k nm r) := Lib.hid (by rw [argsP_eq, HBN.out])
    cases bn with
    | false =>
      have hRe : R = args2P k [] ts := by rw [← HR.out, HAR.out]; rfl
      go_wp2_with fail
      go_meet
      exact ⟨[], ts, HA0.out, hRe, hl⟩
    | true =>
      obtain ⟨t, r, hts⟩ := HA0.out.ok.ne
      subst hts
      cases hnm : isNm t with
      | true =>
        have hRe : R = args2P k t.text r := by rw [← HR.out, HAR.out]; simp only [if_true, nameP, hnm]
        have htl := HA0.out.ok.tl (isNm_ne HA0.out.ok hnm)
        have HMN := Lib.hid (mustName_yes b g t r d w HA0.out.rd htl.2.2 hnm)
        have HTL := Lib.hid htl
        have HRE := Lib.hid hRe
        have hl' : r.length ≤ 20000 := by simp only [List.length_cons] at hl; omega
        clear hnm htl hRe
        obtain ⟨TT, hTT⟩ : ∃ TT : ByteArray, (⟨t.text.toArray⟩ : ByteArray) = TT := ⟨_, rfl⟩
        rw [hTT] at HMN
        have HTT := Lib.hid hTT
        clear hTT
        go_wp2_with fail
        refine HMN.out.mono ?_
        rintro en w2 ⟨rfl, hrd2, hk2⟩
        have HA2 : Hid (As w w2 b g c d k rg ⟨#[]⟩ false a [] (.slice none 0 0) r) := Lib.hid (HA0.out.kb hk2 hrd2 HTL.out.1 hbw hcb)
        have e2 : w2.cell? ⟨c, 2, none⟩ = some (.string ⟨#[]⟩) := row_cell HA2.out.cb
        have g2 : w2.frozen? ⟨c, 2, none⟩ = false := row_frozen HA2.out.cb
        clear hrd2 hk2
        go_wp2_with fail
        go_meet
        exact ⟨t.text, r, by rw [HTT.out]; exact HA2.out.set hcb hcg hcw hc13 2 (.string TT) rfl, HRE.out, hl'⟩
      | false =>
        have hRe : R = .error (t.pos, 1) := by rw [← HR.out, HAR.out]; simp only [if_true, nameP, hnm, Bool.false_eq_true, if_false]
        have HMN := Lib.hid (mustName_no b g t r d w HA0.out.rd hnm)
        subst hRe
        unfold pan at HMN
        unfold AgR pan
        clear hnm
        go_wp2_with fail
        refine HMN.out.mono ?_
        rintro en w2 ⟨rfl, hb2⟩
        have HB2 := Lib.hid hb2
        clear hb2
        go_wp2
        exact ⟨rfl, rfl, Kx.of HB2.out⟩
  case rest =>
    obtain ⟨nm, r, hA, hRe, hrl⟩ := hcut
    have HA := Lib.hid hA
    have HRE := Lib.hid hRe
    clear hA hRe c0 c2 f2
    obtain ⟨NM, hNM⟩ : ∃ NM : ByteArray, (⟨nm.toArray⟩ : ByteArray) = NM := ⟨_, rfl⟩
    rw [hNM] at HA
    have HNMM := Lib.hid hNM
    clear hNM
    obtain ⟨ce, hce⟩ : ∃ ce, celled k = ce := ⟨_, rfl⟩
    rw [hce] at HCE
    have HCEE := Lib.hid hce
    clear hce
    go_upto_region 3 with (fail)
    go_cut [22] (fun u22 wx => ∃ r, As w wx b g c d k rg NM false a [] (.slice none 0 0) r ∧ ((u22 = .bool false ∧ R = args3P k nm none r) ∨ (u22 = .bool true ∧ R = args2iP k nm r)) ∧ r.length ≤ 20000)
    case first =>
      obtain ⟨t, r1, hts⟩ := HA.out.ok.ne
      subst hts
      cases ce with
      | false =>
        have hRe : R = args3P k nm none (t :: r1) := by rw [HRE.out]; exact args2_no (by rw [HCEE.out]; rfl)
        have HRE2 := Lib.hid hRe
        clear hRe
        go_wp2_with (go_at_call 183; refine (HCE.out _).mono ?_; rintro en w' ⟨rfl, rfl⟩)
        go_meet
        exact ⟨t :: r1, HA.out, .inl ⟨rfl, HRE2.out⟩, hrl⟩
      | true =>
        by_cases ht : t.text = [91]
        · have hRe : R = args2iP k nm r1 := by rw [HRE.out]; exact args2_yes (by rw [HCEE.out]; simp [ht])
          have htl := HA.out.ok.tl (by rw [ht]; simp)
          have HTL := Lib.hid htl
          have HTI := Lib.hid (takeIf_yes b g t r1 d [91] wc HA.out.rd htl.2.2 ht)
          have HRE2 := Lib.hid hRe
          have hl' : r1.length ≤ 20000 := by simp only [List.length_cons] at hrl; omega
          clear hRe htl ht
          go_wp2_with (first | (go_at_call 183; refine (HCE.out _).mono ?_; rintro en w' ⟨rfl, rfl⟩) | (go_at_call 142; refine Hid.out ?_))
          refine Lib.hid ?_
          refine HTI.out.mono ?_
          rintro en w2 ⟨rfl, hrd2, hk2⟩
          have HA2 : Hid (As w w2 b g c d k rg NM false a [] (.slice none 0 0) r1) := Lib.hid (HA.out.kb hk2 hrd2 HTL.out.1 hbw hcb)
          clear hrd2 hk2
          go_wp2_with fail
          go_meet
          exact ⟨r1, HA2.out, .inr ⟨rfl, HRE2.out⟩, hl'⟩
        · have hRe : R = args3P k nm none (t :: r1) := by rw [HRE.out]; exact args2_no (by rw [HCEE.out]; simp [ht])
          have HTI := Lib.hid (takeIf_no b g t r1 d [91] wc HA.out.rd ht)
          have HRE2 := Lib.hid hRe
          clear hRe ht
          go_wp2_with (first | (go_at_call 183; refine (HCE.out _).mono ?_; rintro en w' ⟨rfl, rfl⟩) | (go_at_call 142; refine Hid.out ?_))
          refine Lib.hid ?_
          refine HTI.out.mono ?_
          rintro en w2 ⟨rfl, hb2⟩
          have HA2 : Hid (As w w2 b g c d k rg NM false a [] (.slice none 0 0) (t :: r1)) := Lib.hid (HA.out.bel hb2 hbw hcb)
          clear hb2
          go_wp2_with fail
          go_meet
          exact ⟨t :: r1, HA2.out, .inl ⟨rfl, HRE2.out⟩, hrl⟩
    case rest =>
      obtain ⟨r, hA, hRe, hrl⟩ := hcut
      have HA1 := Lib.hid hA
      have HRE0 := Lib.hid hRe
      clear HA HRE hA hRe HCE
      obtain ⟨i0, hi, hz0, hz1, hz2⟩ := info_parts e_info
      have HI := Lib.hid hi
      have HZ0 := Lib.hid hz0
      have HZ1 := Lib.hid hz1
      have HZ2 := Lib.hid hz2
      clear hi hz0 hz1 hz2
      go_upto_if 22 with (fail)
      go_cut [] (fun wx => ∃ i r1 qs v, As w wx b g c d k rg NM (i : Option Ex).isSome a qs v r1 ∧ qs.map Prod.fst = i.toList ∧ R = args3P k nm i r1 ∧ r1.length ≤ 20000)
      case first =>
        rcases HRE0.out with ⟨rfl, hRe⟩ | ⟨rfl, hRe⟩
        · have HRE := Lib.hid hRe
          clear hRe HRE0
          go_wp2_with fail
          go_meet
          exact ⟨none, r, [], _, HA1.out, rfl, HRE.out, hrl⟩
        · have HRE := Lib.hid hRe
          clear hRe HRE0
          have e3 : wc.cell? ⟨c, 3, none⟩ = some (.bool false) := row_cell HA1.out.cb
          have g3 : wc.frozen? ⟨c, 3, none⟩ = false := row_frozen HA1.out.cb
          go_upto_region 5 with (fail)
          have hAs : As w (wc.setCell ⟨c, 3, none⟩ (.bool true)) b g c d k rg NM true a [] (.slice none 0 0) r := HA1.out.set hcb hcg hcw hc13 3 (.bool true) rfl
          obtain ⟨Y, hY⟩ : ∃ Y, wc.setCell ⟨c, 3, none⟩ (.bool true) = Y := ⟨_, rfl⟩
          rw [hY] at hAs ⊢
          obtain ⟨qs, v, hAs, hq0⟩ : ∃ qs v, As w Y b g c d k rg NM true a qs v r ∧ qs = [] := ⟨_, _, hAs, rfl⟩
          obtain ⟨pv, cv, hv⟩ := hAs.len
          obtain ⟨qn, hqn⟩ : ∃ qn, qs.length = qn := ⟨_, rfl⟩
          rw [hqn] at hv
          subst hv
          have HA := Lib.hid hAs
          have HQN := Lib.hid hqn
          have hqb : qn ≤ 1 := by rw [← hqn, hq0]; simp
          have HQ0 : Hid (qs.map Prod.fst = []) := Lib.hid (by rw [hq0]; rfl)
          clear hAs hY hq0 hqn e3 g3
          have HWO := Lib.hid (fun w' (h : Rdr w' b g r d) => whole_any b g r d w' h HA.out.ok hrl)
          go_cut [] (fun wx => ∃ x r2 qs v, As w wx b g c d k rg NM true a qs v r2 ∧ qs.map Prod.fst = [x] ∧ wholeP r = .ok (x, r2) ∧ r2.length ≤ r.length)
          case first =>
            have y4 : Y.cell? ⟨c, 4, none⟩ = some (.slice pv qn cv) := row_cell HA.out.cb
            have hcY : c < Y.heap.size := lt_of_row HA.out.cb
            have hwY : w.heap.size ≤ Y.heap.size := HA.out.kx.size
            refine wp_region_lapseG (by kernel_rfl) (fun w' => w'.cell? ⟨c, 4, none⟩ = some (.slice pv qn cv)) 8 ?_
            have hS0 : Y.drew.cell? ⟨c, 4, none⟩ = some (.slice pv qn cv) := y4
            refine wpAnyG_take (i := 0) (v := ?vax0) rfl (by kernel_rfl) (by kernel_rfl) (by kernel_rfl) (by kernel_rfl) (fun _ _ _ h => h) (Or.inl ⟨by rfl, ?hax0⟩) hS0 ?_
            case hax0 => (intro w hSw; (try dsimp only at hSw); go_simp; try with_reducible rfl)
            simp only [Act.put, List.setIfInBounds_toArray, List.set_cons_zero, List.set_cons_succ]
            refine wpAnyG_take (i := 1) (v := ?vax1) rfl (by kernel_rfl) (by kernel_rfl) (by kernel_rfl) (by kernel_rfl) (fun _ _ _ h => h) (Or.inl ⟨by rfl, ?hax1⟩) hS0 ?_
            case hax1 => (intro w hSw; (try dsimp only at hSw); go_simp; try with_reducible rfl)
            simp only [Act.put, List.setIfInBounds_toArray, List.set_cons_zero, List.set_cons_succ]
            refine wpAnyG_take (i := 2) (v := ?vax2) rfl (by kernel_rfl) (by kernel_rfl) (by kernel_rfl) (by kernel_rfl) (fun _ _ _ h => h) (Or.inl ⟨by rfl, ?hax2⟩) hS0 ?_
            case hax2 => (intro w hSw; (try dsimp only at hSw); go_simp; try with_reducible rfl)
            simp only [Act.put, List.setIfInBounds_toArray, List.set_cons_zero, List.set_cons_succ]
            refine wpAnyG_take (i := 3) (v := ?vax3) rfl (by kernel_rfl) (by kernel_rfl) (by kernel_rfl) (by kernel_rfl) (fun _ _ _ h => h) (Or.inl ⟨by rfl, ?hax3⟩) hS0 ?_
            case hax3 => (intro w hSw; (try dsimp only at hSw); go_simp; try with_reducible rfl)
            simp only [Act.put, List.setIfInBounds_toArray, List.set_cons_zero, List.set_cons_succ]
            refine wpAnyG_take (i := 4) (v := ?vax4) rfl (by kernel_rfl) (by kernel_rfl) (by kernel_rfl) (by kernel_rfl) (fun _ _ _ h => h) (Or.inl ⟨by rfl, ?hax4⟩) hS0 ?_
            case hax4 => (intro w hSw; (try dsimp only at hSw); go_simp; try with_reducible rfl)
            simp only [Act.put, List.setIfInBounds_toArray, List.set_cons_zero, List.set_cons_succ]
            refine wpAnyG_take (i := 6) (v := ?vax6) rfl (by kernel_rfl) (by kernel_rfl) (by kernel_rfl) (by kernel_rfl) (fun _ _ _ h => h) (Or.inl ⟨by rfl, ?hax6⟩) hS0 ?_
            case hax6 => (intro w hSw; (try dsimp only at hSw); go_simp; try with_reducible rfl)
            simp only [Act.put, List.setIfInBounds_toArray, List.set_cons_zero, List.set_cons_succ]
            clear hS0
            cases hwh : wholeP r with
            | error er =>
              obtain ⟨pp, cc⟩ := er
              have hRe : R = .error (pp, cc) := by rw [HRE.out, args2iP, hwh]
              subst hRe
              rw [hwh] at HWO
              unfold PE at HWO
              simp only at HWO
              unfold pan at HWO
              (try unfold AgR pan)
              refine wpAnyG_two (i := 5) (j := 7) (by kernel_rfl) rfl rfl (fun K hK => ?_) (fun K hK => ?_)
              · go_simp
                go_at_call 184
                refine (HWO.out _ (rdr_drew HA.out.rd)).mono ?_
                rintro e1 w4 ⟨rfl, hk4⟩
                have HK4 := Lib.hid hk4
                clear hk4
                go_simp
                exact ⟨rfl, rfl, HA.out.kx.trans ((kx_drew _ _).tr HK4.out) (fun i _ e => .inl e)⟩
              · go_simp
                refine hK.out _ _ (fun _ => al_cell y4 _) ?_
                clear hK K
                try simp only [Act.put, List.setIfInBounds_toArray, List.set_cons_zero, List.set_cons_succ]
                refine wpAnyG_one (i := 5) (by kernel_rfl) rfl (fun K hK => ?_)
                go_simp
                go_at_call 184
                refine (HWO.out _ ((rdr_drew HA.out.rd).on (below_alloc _ _))).mono ?_
                rintro e1 w4 ⟨rfl, hk4⟩
                have HK4 := Lib.hid hk4
                clear hk4
                go_simp
                exact ⟨rfl, rfl, HA.out.kx.trans (((kx_drew _ _).alloc _).tr HK4.out) (fun i _ e => .inl e)⟩
            | ok xr =>
              obtain ⟨x, r2⟩ := xr
              have HOK2 : Hid (Okt r2) := Lib.hid (wholeP_eats _ _ _ HA.out.ok hwh).1
              have HLEN2 : Hid (r2.length ≤ r.length) := Lib.hid (Nat.le_of_lt (wholeP_eats _ _ _ HA.out.ok hwh).2)
              have HWH := Lib.hid hwh
              rw [hwh] at HWO
              clear hwh
              unfold PE at HWO
              simp only at HWO
              refine wpAnyG_two (i := 5) (j := 7) (by kernel_rfl) rfl rfl (fun K hK => ?_) (fun K hK => ?_)
              · go_simp
                go_at_call 184
                refine (HWO.out _ (rdr_drew HA.out.rd)).mono ?_
                rintro e1 w4 ⟨p, rfl, hpx4, hrd4, hk4⟩
                have hk0 : Kx (· = b) Y w4 := (kx_drew _ _).tr hk4
                have HK0 := Lib.hid hk0
                have HP0 := Lib.hid hpx4
                have HR0 := Lib.hid hrd4
                have hs4 : w4.cell? ⟨c, 4, none⟩ = some (.slice pv qn cv) := (hk0.cell (p := ⟨c, 4, none⟩) hcY (show ¬ c = b by omega)).trans y4
                clear hpx4 hrd4 hk4 hk0
                unfold exv
                go_simp
                refine hK.out _ _ (fun _ => hs4) ?_
                clear hK K
                try simp only [Act.put, List.setIfInBounds_toArray, List.set_cons_zero, List.set_cons_succ]
                refine wpAnyG_one (i := 7) (by kernel_rfl) rfl (fun K hK => ?_)
                go_simp
                refine hK.out _ _ (fun _ => al_cell hs4 _) ?_
                clear hK K
                try simp only [Act.put, List.setIfInBounds_toArray, List.set_cons_zero, List.set_cons_succ]
                have HK2 : Hid (Kx (· = b) Y (w4.alloc (.cells #[.string ⟨#[]⟩, .complex .f64 0 0, .string ⟨#[]⟩, .slice none 0 0] 159))) := Lib.hid (HK0.out.alloc _)
                have HPX : Hid (Px (w4.alloc (.cells #[.string ⟨#[]⟩, .complex .f64 0 0, .string ⟨#[]⟩, .slice none 0 0] 159)) (Nw Y.heap.size (w4.alloc (.cells #[.string ⟨#[]⟩, .complex .f64 0 0, .string ⟨#[]⟩, .slice none 0 0] 159))) x p) := Lib.hid (HP0.out.on (Same.below (below_alloc _ _) fun i hi => hi.2) (fun i hi => ⟨hi.1, by have := hi.2; simp; omega⟩))
                have HRD2 : Hid (Rdr (w4.alloc (.cells #[.string ⟨#[]⟩, .complex .f64 0 0, .string ⟨#[]⟩, .slice none 0 0] 159)) b g r2 d) := Lib.hid (HR0.out.on (below_alloc _ _))
                have ow2 : ((w4.alloc (.cells #[.string ⟨#[]⟩, .complex .f64 0 0, .string ⟨#[]⟩, .slice none 0 0] 159))).ownsRow w.heap.size 159 4 (.slice pv qn cv) qn (qcs qs) := by
                  have h := own_kx HA.out.xq.own HK2.out (fun i hi e => by omega)
                  rw [HQN.out] at h
                  exact h
                have hB2 : w.heap.size ≤ ((w4.alloc (.cells #[.string ⟨#[]⟩, .complex .f64 0 0, .string ⟨#[]⟩, .slice none 0 0] 159))).heap.size := Nat.le_trans HA.out.kx.size HK2.out.size
                have HCB2 : Hid (((w4.alloc (.cells #[.string ⟨#[]⟩, .complex .f64 0 0, .string ⟨#[]⟩, .slice none 0 0] 159))).heap[c]? = some (.cells (sbox k rg NM true (.slice pv qn cv) (.slice none 0 0) (.slice none 0 0) a) 126 (0, 0))) := Lib.hid (by
                  rw [HK2.out.block c (lt_of_row HA.out.cb) (by omega)]; exact HA.out.cb)
                have hnews := new_cells w4 zexq 159
                refine wpAnyG_one (i := 8) (by kernel_rfl) rfl (fun K hK => ?_)
                refine step_append_lies _ (by rfl) (.tmp 29) (.tmp 33) 124 (by rfl) w.heap.size 159 i0 _ 4 72 Tryz.underlying124 HI.out HZ0.out HZ1.out HZ2.out rfl (by decide) (.slice pv qn cv) qn (qcs qs) (by rfl) ow2 ⟨w4.heap.size, 0, none⟩ 1 1 zexq (by rfl) (by rfl) hnews zexq_one (by omega) (by unfold maxLen; omega) (by omega) hB2 _ rfl ?_
                intro g' cap w3 hown hgrow hat hlt
                have HAPP : Hid (∀ W, (W = ((((w3.setCell ⟨g', qn * 4, none⟩ (.string (opB x))).setCell ⟨g', qn * 4 + 1, none⟩ (.complex .f64 (nxB x) (nyB x))).setCell ⟨g', qn * 4 + 2, none⟩ (.string (nmB x))).setCell ⟨g', qn * 4 + 3, none⟩ (.slice p (npB x) (npB x))).setCell ⟨c, 4, none⟩ (.slice (some ⟨g', 0, none⟩) (qn + 1) cap) ∨
                    W = ((((w3.setCell ⟨c, 4, none⟩ (.slice (some ⟨g', 0, none⟩) (qn + 1) cap)).setCell ⟨g', qn * 4, none⟩ (.string (opB x))).setCell ⟨g', qn * 4 + 1, none⟩ (.complex .f64 (nxB x) (nyB x))).setCell ⟨g', qn * 4 + 2, none⟩ (.string (nmB x))).setCell ⟨g', qn * 4 + 3, none⟩ (.slice p (npB x) (npB x))) → As w W b g c d k rg NM true a (qs ++ [(x, p)]) (.slice (some ⟨g', 0, none⟩) (qn + 1) cap) r2) := Lib.hid (fun W hW => by
                  have hq := HQN.out
                  subst hq
                  exact HA.out.app hbw hgw hcw hcb hcg HK2.out HPX.out HRD2.out HOK2.out hc13 hgrow hat hown W hW)
                have hcl : ∀ j, j < (qn + 1) * 4 → w3.cell? ⟨g', j, none⟩ = (qcs qs ++ zexq)[j]? := fun j hj => hown.cellAt j hj
                have hql : (qcs qs).length = qn * 4 := by rw [qcs_len, HQN.out]
                have s0 : w3.cell? ⟨g', qn * 4, none⟩ = some (.string ⟨#[]⟩) := by rw [hcl _ (by omega), List.getElem?_append_right (by omega), hql]; simp [zexq]
                have s1 : w3.cell? ⟨g', qn * 4 + 1, none⟩ = some (.complex .f64 0 0) := by rw [hcl _ (by omega), List.getElem?_append_right (by omega), hql]; simp [zexq]
                have s2 : w3.cell? ⟨g', qn * 4 + 2, none⟩ = some (.string ⟨#[]⟩) := by rw [hcl _ (by omega), List.getElem?_append_right (by omega), hql]; simp [zexq]
                have s3 : w3.cell? ⟨g', qn * 4 + 3, none⟩ = some (.slice none 0 0) := by rw [hcl _ (by omega), List.getElem?_append_right (by omega), hql]; simp [zexq]
                have t0 : w3.frozen? ⟨g', qn * 4, none⟩ = false := hown.frozenAt _
                have t1 : w3.frozen? ⟨g', qn * 4 + 1, none⟩ = false := hown.frozenAt _
                have t2 : w3.frozen? ⟨g', qn * 4 + 2, none⟩ = false := hown.frozenAt _
                have t3 : w3.frozen? ⟨g', qn * 4 + 3, none⟩ = false := hown.frozenAt _
                have hgc : ¬ g' = c := by
                  intro e
                  rcases hown.2 with ⟨h', _⟩ | ⟨g'', cap', cur, h', h1, _⟩
                  · cases h'
                  · injection h' with h' _ _; injection h' with h'; injection h' with h' _ _; omega
                have hcg' : ¬ c = g' := fun e => hgc e.symm
                have hix : (qn : Int) < (qn : Int) + 1 := by omega
                have hrc : w3.heap[c]? = some (.cells (sbox k rg NM true (.slice pv qn cv) (.slice none 0 0) (.slice none 0 0) a) 126 (0, 0)) := by
                  rw [hgrow.block c (by omega) (fun e => by have := (HA.out.xq.own.lt c (by rw [← e])).1; omega)]
                  exact HCB2.out
                have c4 : w3.cell? ⟨c, 4, none⟩ = some (.slice pv qn cv) := row_cell hrc
                have d4 : w3.frozen? ⟨c, 4, none⟩ = false := row_frozen hrc
                clear hcl hown hgrow hat hrc
                generalize opB x = z0 at *
                generalize nxB x = z1 at *
                generalize nyB x = z2 at *
                generalize nmB x = z3 at *
                generalize npB x = z4 at *
                refine hK.out _ _ (fun hne => absurd hne (by omega)) ?_
                clear hK K
                try simp only [Act.put, List.setIfInBounds_toArray, List.set_cons_zero, List.set_cons_succ]
                refine wpAnyG_two (i := 9) (j := 11) (by kernel_rfl) rfl rfl (fun K hK => ?_) (fun K hK => ?_)
                · go_simp
                  refine hK.out _ _ (fun hne => absurd hne (by omega)) ?_
                  clear hK K
                  try simp only [Act.put, List.setIfInBounds_toArray, List.set_cons_zero, List.set_cons_succ]
                  refine wpAnyG_two (i := 10) (j := 11) (by kernel_rfl) rfl rfl (fun K hK => ?_) (fun K hK => ?_)
                  · go_simp
                    refine hK.out _ _ (fun hne => absurd hne (by omega)) ?_
                    clear hK K
                    try simp only [Act.put, List.setIfInBounds_toArray, List.set_cons_zero, List.set_cons_succ]
                    refine wpAnyG_one (i := 11) (by kernel_rfl) rfl (fun K hK => ?_)
                    go_simp
                    refine hK.out _ _ (fun hne => absurd hne (by omega)) ?_
                    clear hK K
                    try simp only [Act.put, List.setIfInBounds_toArray, List.set_cons_zero, List.set_cons_succ]
                    refine wpAnyG_one (i := 12) (by kernel_rfl) rfl (fun K hK => ?_)
                    go_simp
                    refine hK.out _ _ (fun hne => absurd hne (by omega)) ?_
                    clear hK K
                    try simp only [Act.put, List.setIfInBounds_toArray, List.set_cons_zero, List.set_cons_succ]
                    refine wpAnyG_one (i := 13) (by kernel_rfl) rfl (fun K hK => ?_)
                    go_simp
                    refine hK.out _ _ (fun hne => absurd hne (by omega)) ?_
                    clear hK K
                    try simp only [Act.put, List.setIfInBounds_toArray, List.set_cons_zero, List.set_cons_succ]
                    refine wpAnyG_done (by kernel_rfl) ?_ _
                    go_wp2_with fail
                    go_meet
                    exact ⟨x, r2, _, _, HAPP.out _ (.inl rfl), by rw [List.map_append, HQ0.out]; rfl, HWH.out, HLEN2.out⟩
                  · go_simp
                    refine hK.out _ _ (fun hne => absurd hne (by omega)) ?_
                    clear hK K
                    try simp only [Act.put, List.setIfInBounds_toArray, List.set_cons_zero, List.set_cons_succ]
                    refine wpAnyG_two (i := 10) (j := 12) (by kernel_rfl) rfl rfl (fun K hK => ?_) (fun K hK => ?_)
                    · go_simp
                      refine hK.out _ _ (fun hne => absurd hne (by omega)) ?_
                      clear hK K
                      try simp only [Act.put, List.setIfInBounds_toArray, List.set_cons_zero, List.set_cons_succ]
                      refine wpAnyG_one (i := 12) (by kernel_rfl) rfl (fun K hK => ?_)
                      go_simp
                      refine hK.out _ _ (fun hne => absurd hne (by omega)) ?_
                      clear hK K
                      try simp only [Act.put, List.setIfInBounds_toArray, List.set_cons_zero, List.set_cons_succ]
                      refine wpAnyG_one (i := 13) (by kernel_rfl) rfl (fun K hK => ?_)
                      go_simp
                      refine hK.out _ _ (fun hne => absurd hne (by omega)) ?_
                      clear hK K
                      try simp only [Act.put, List.setIfInBounds_toArray, List.set_cons_zero, List.set_cons_succ]
                      refine wpAnyG_done (by kernel_rfl) ?_ _
                      go_wp2_with fail
                      go_meet
                      exact ⟨x, r2, _, _, HAPP.out _ (.inl rfl), by rw [List.map_append, HQ0.out]; rfl, HWH.out, HLEN2.out⟩
                    · go_simp
                      refine hK.out _ _ (fun hne => absurd hne (by omega)) ?_
                      clear hK K
                      try simp only [Act.put, List.setIfInBounds_toArray, List.set_cons_zero, List.set_cons_succ]
                      refine wpAnyG_two (i := 10) (j := 13) (by kernel_rfl) rfl rfl (fun K hK => ?_) (fun K hK => ?_)
                      · go_simp
                        refine hK.out _ _ (fun hne => absurd hne (by omega)) ?_
                        clear hK K
                        try simp only [Act.put, List.setIfInBounds_toArray, List.set_cons_zero, List.set_cons_succ]
                        refine wpAnyG_one (i := 13) (by kernel_rfl) rfl (fun K hK => ?_)
                        go_simp
                        refine hK.out _ _ (fun hne => absurd hne (by omega)) ?_
                        clear hK K
                        try simp only [Act.put, List.setIfInBounds_toArray, List.set_cons_zero, List.set_cons_succ]
                        refine wpAnyG_done (by kernel_rfl) ?_ _
                        go_wp2_with fail
                        go_meet
                        exact ⟨x, r2, _, _, HAPP.out _ (.inl rfl), by rw [List.map_append, HQ0.out]; rfl, HWH.out, HLEN2.out⟩
                      · go_simp
                        refine hK.out _ _ (fun hne => absurd hne (by omega)) ?_
                        clear hK K
                        try simp only [Act.put, List.setIfInBounds_toArray, List.set_cons_zero, List.set_cons_succ]
                        refine wpAnyG_one (i := 10) (by kernel_rfl) rfl (fun K hK => ?_)
                        go_simp
                        refine hK.out _ _ (fun hne => absurd hne (by omega)) ?_
                        clear hK K
                        try simp only [Act.put, List.setIfInBounds_toArray, List.set_cons_zero, List.set_cons_succ]
                        refine wpAnyG_done (by kernel_rfl) ?_ _
                        go_wp2_with fail
                        go_meet
                        exact ⟨x, r2, _, _, HAPP.out _ (.inr rfl), by rw [List.map_append, HQ0.out]; rfl, HWH.out, HLEN2.out⟩
                · go_simp
                  refine hK.out _ _ (fun hne => absurd hne (by omega)) ?_
                  clear hK K
                  try simp only [Act.put, List.setIfInBounds_toArray, List.set_cons_zero, List.set_cons_succ]
                  refine wpAnyG_two (i := 9) (j := 12) (by kernel_rfl) rfl rfl (fun K hK => ?_) (fun K hK => ?_)
                  · go_simp
                    refine hK.out _ _ (fun hne => absurd hne (by omega)) ?_
                    clear hK K
                    try simp only [Act.put, List.setIfInBounds_toArray, List.set_cons_zero, List.set_cons_succ]
                    refine wpAnyG_two (i := 10) (j := 12) (by kernel_rfl) rfl rfl (fun K hK => ?_) (fun K hK => ?_)
                    · go_simp
                      refine hK.out _ _ (fun hne => absurd hne (by omega)) ?_
                      clear hK K
                      try simp only [Act.put, List.setIfInBounds_toArray, List.set_cons_zero, List.set_cons_succ]
                      refine wpAnyG_one (i := 12) (by kernel_rfl) rfl (fun K hK => ?_)
                      go_simp
                      refine hK.out _ _ (fun hne => absurd hne (by omega)) ?_
                      clear hK K
                      try simp only [Act.put, List.setIfInBounds_toArray, List.set_cons_zero, List.set_cons_succ]
                      refine wpAnyG_one (i := 13) (by kernel_rfl) rfl (fun K hK => ?_)
                      go_simp
                      refine hK.out _ _ (fun hne => absurd hne (by omega)) ?_
                      clear hK K
                      try simp only [Act.put, List.setIfInBounds_toArray, List.set_cons_zero, List.set_cons_succ]
                      refine wpAnyG_done (by kernel_rfl) ?_ _
                      go_wp2_with fail
                      go_meet
                      exact ⟨x, r2, _, _, HAPP.out _ (.inl rfl), by rw [List.map_append, HQ0.out]; rfl, HWH.out, HLEN2.out⟩
                    · go_simp
                      refine hK.out _ _ (fun hne => absurd hne (by omega)) ?_
                      clear hK K
                      try simp only [Act.put, List.setIfInBounds_toArray, List.set_cons_zero, List.set_cons_succ]
                      refine wpAnyG_two (i := 10) (j := 13) (by kernel_rfl) rfl rfl (fun K hK => ?_) (fun K hK => ?_)
                      · go_simp
                        refine hK.out _ _ (fun hne => absurd hne (by omega)) ?_
                        clear hK K
                        try simp only [Act.put, List.setIfInBounds_toArray, List.set_cons_zero, List.set_cons_succ]
                        refine wpAnyG_one (i := 13) (by kernel_rfl) rfl (fun K hK => ?_)
                        go_simp
                        refine hK.out _ _ (fun hne => absurd hne (by omega)) ?_
                        clear hK K
                        try simp only [Act.put, List.setIfInBounds_toArray, List.set_cons_zero, List.set_cons_succ]
                        refine wpAnyG_done (by kernel_rfl) ?_ _
                        go_wp2_with fail
                        go_meet
                        exact ⟨x, r2, _, _, HAPP.out _ (.inl rfl), by rw [List.map_append, HQ0.out]; rfl, HWH.out, HLEN2.out⟩
                      · go_simp
                        refine hK.out _ _ (fun hne => absurd hne (by omega)) ?_
                        clear hK K
                        try simp only [Act.put, List.setIfInBounds_toArray, List.set_cons_zero, List.set_cons_succ]
                        refine wpAnyG_one (i := 10) (by kernel_rfl) rfl (fun K hK => ?_)
                        go_simp
                        refine hK.out _ _ (fun hne => absurd hne (by omega)) ?_
                        clear hK K
                        try simp only [Act.put, List.setIfInBounds_toArray, List.set_cons_zero, List.set_cons_succ]
                        refine wpAnyG_done (by kernel_rfl) ?_ _
                        go_wp2_with fail
                        go_meet
                        exact ⟨x, r2, _, _, HAPP.out _ (.inr rfl), by rw [List.map_append, HQ0.out]; rfl, HWH.out, HLEN2.out⟩
                  · go_simp
                    refine hK.out _ _ (fun hne => absurd hne (by omega)) ?_
                    clear hK K
                    try simp only [Act.put, List.setIfInBounds_toArray, List.set_cons_zero, List.set_cons_succ]
                    refine wpAnyG_two (i := 9) (j := 13) (by kernel_rfl) rfl rfl (fun K hK => ?_) (fun K hK => ?_)
                    · go_simp
                      refine hK.out _ _ (fun hne => absurd hne (by omega)) ?_
                      clear hK K
                      try simp only [Act.put, List.setIfInBounds_toArray, List.set_cons_zero, List.set_cons_succ]
                      refine wpAnyG_two (i := 10) (j := 13) (by kernel_rfl) rfl rfl (fun K hK => ?_) (fun K hK => ?_)
                      · go_simp
                        refine hK.out _ _ (fun hne => absurd hne (by omega)) ?_
                        clear hK K
                        try simp only [Act.put, List.setIfInBounds_toArray, List.set_cons_zero, List.set_cons_succ]
                        refine wpAnyG_one (i := 13) (by kernel_rfl) rfl (fun K hK => ?_)
                        go_simp
                        refine hK.out _ _ (fun hne => absurd hne (by omega)) ?_
                        clear hK K
                        try simp only [Act.put, List.setIfInBounds_toArray, List.set_cons_zero, List.set_cons_succ]
                        refine wpAnyG_done (by kernel_rfl) ?_ _
                        go_wp2_with fail
                        go_meet
                        exact ⟨x, r2, _, _, HAPP.out _ (.inl rfl), by rw [List.map_append, HQ0.out]; rfl, HWH.out, HLEN2.out⟩
                      · go_simp
                        refine hK.out _ _ (fun hne => absurd hne (by omega)) ?_
                        clear hK K
                        try simp only [Act.put, List.setIfInBounds_toArray, List.set_cons_zero, List.set_cons_succ]
                        refine wpAnyG_one (i := 10) (by kernel_rfl) rfl (fun K hK => ?_)
                        go_simp
                        refine hK.out _ _ (fun hne => absurd hne (by omega)) ?_
                        clear hK K
                        try simp only [Act.put, List.setIfInBounds_toArray, List.set_cons_zero, List.set_cons_succ]
                        refine wpAnyG_done (by kernel_rfl) ?_ _
                        go_wp2_with fail
                        go_meet
                        exact ⟨x, r2, _, _, HAPP.out _ (.inr rfl), by rw [List.map_append, HQ0.out]; rfl, HWH.out, HLEN2.out⟩
                    · go_simp
                      refine hK.out _ _ (fun hne => absurd hne (by omega)) ?_
                      clear hK K
                      try simp only [Act.put, List.setIfInBounds_toArray, List.set_cons_zero, List.set_cons_succ]
                      refine wpAnyG_one (i := 9) (by kernel_rfl) rfl (fun K hK => ?_)
                      go_simp
                      refine hK.out _ _ (fun hne => absurd hne (by omega)) ?_
                      clear hK K
                      try simp only [Act.put, List.setIfInBounds_toArray, List.set_cons_zero, List.set_cons_succ]
                      refine wpAnyG_one (i := 10) (by kernel_rfl) rfl (fun K hK => ?_)
                      go_simp
                      refine hK.out _ _ (fun hne => absurd hne (by omega)) ?_
                      clear hK K
                      try simp only [Act.put, List.setIfInBounds_toArray, List.set_cons_zero, List.set_cons_succ]
                      refine wpAnyG_done (by kernel_rfl) ?_ _
                      go_wp2_with fail
                      go_meet
                      exact ⟨x, r2, _, _, HAPP.out _ (.inr rfl), by rw [List.map_append, HQ0.out]; rfl, HWH.out, HLEN2.out⟩
              · go_simp
                refine hK.out _ _ (fun _ => al_cell y4 _) ?_
                clear hK K
                try simp only [Act.put, List.setIfInBounds_toArray, List.set_cons_zero, List.set_cons_succ]
                refine wpAnyG_one (i := 5) (by kernel_rfl) rfl (fun K hK => ?_)
                go_simp
                go_at_call 184
                refine (HWO.out _ ((rdr_drew HA.out.rd).on (below_alloc _ _))).mono ?_
                rintro e1 w4 ⟨p, rfl, hpx4, hrd4, hk4⟩
                have hk0 : Kx (· = b) Y w4 := ((kx_drew _ _).alloc _).tr hk4
                have HK0 := Lib.hid hk0
                have HP0 : Hid (Px w4 (Nw Y.heap.size w4) x p) := Lib.hid (hpx4.on (fun _ _ _ => rfl) (fun i hi => ⟨by have := hi.1; simp at this; omega, hi.2⟩))
                have HR0 := Lib.hid hrd4
                have hs4 : w4.cell? ⟨c, 4, none⟩ = some (.slice pv qn cv) := (hk0.cell (p := ⟨c, 4, none⟩) hcY (show ¬ c = b by omega)).trans y4
                have hrz : w4.heap[Y.heap.size]? = some (.cells zexq.toArray 159 (0, 0)) := by
                  rw [hk4.block Y.heap.size (by simp) (by omega)]; exact alloc_at rfl _
                have hnews : ∀ j u, zexq[j]? = some u → w4.cell? ((⟨Y.heap.size, 0, Option.none⟩ : Addr).add j) = some u := by
                  intro j u hu
                  have hadd : (⟨Y.heap.size, 0, Option.none⟩ : Addr).add j = ⟨Y.heap.size, j, Option.none⟩ := by unfold Addr.add; split <;> simp_all
                  rw [hadd, row_cell hrz]
                  simpa using hu
                clear hpx4 hrd4 hk4 hk0 hrz
                unfold exv
                go_simp
                refine hK.out _ _ (fun _ => hs4) ?_
                clear hK K
                try simp only [Act.put, List.setIfInBounds_toArray, List.set_cons_zero, List.set_cons_succ]
                have HK2 : Hid (Kx (· = b) Y w4) := Lib.hid HK0.out
                have HPX : Hid (Px w4 (Nw Y.heap.size w4) x p) := Lib.hid HP0.out
                have HRD2 : Hid (Rdr w4 b g r2 d) := Lib.hid HR0.out
                have ow2 : (w4).ownsRow w.heap.size 159 4 (.slice pv qn cv) qn (qcs qs) := by
                  have h := own_kx HA.out.xq.own HK2.out (fun i hi e => by omega)
                  rw [HQN.out] at h
                  exact h
                have hB2 : w.heap.size ≤ (w4).heap.size := Nat.le_trans HA.out.kx.size HK2.out.size
                have HCB2 : Hid ((w4).heap[c]? = some (.cells (sbox k rg NM true (.slice pv qn cv) (.slice none 0 0) (.slice none 0 0) a) 126 (0, 0))) := Lib.hid (by
                  rw [HK2.out.block c (lt_of_row HA.out.cb) (by omega)]; exact HA.out.cb)
                refine wpAnyG_one (i := 8) (by kernel_rfl) rfl (fun K hK => ?_)
                refine step_append_lies _ (by rfl) (.tmp 29) (.tmp 33) 124 (by rfl) w.heap.size 159 i0 _ 4 72 Tryz.underlying124 HI.out HZ0.out HZ1.out HZ2.out rfl (by decide) (.slice pv qn cv) qn (qcs qs) (by rfl) ow2 ⟨Y.heap.size, 0, none⟩ 1 1 zexq (by rfl) (by rfl) hnews zexq_one (by omega) (by unfold maxLen; omega) (by omega) hB2 _ rfl ?_
                intro g' cap w3 hown hgrow hat hlt
                have HAPP : Hid (∀ W, (W = ((((w3.setCell ⟨g', qn * 4, none⟩ (.string (opB x))).setCell ⟨g', qn * 4 + 1, none⟩ (.complex .f64 (nxB x) (nyB x))).setCell ⟨g', qn * 4 + 2, none⟩ (.string (nmB x))).setCell ⟨g', qn * 4 + 3, none⟩ (.slice p (npB x) (npB x))).setCell ⟨c, 4, none⟩ (.slice (some ⟨g', 0, none⟩) (qn + 1) cap) ∨
                    W = ((((w3.setCell ⟨c, 4, none⟩ (.slice (some ⟨g', 0, none⟩) (qn + 1) cap)).setCell ⟨g', qn * 4, none⟩ (.string (opB x))).setCell ⟨g', qn * 4 + 1, none⟩ (.complex .f64 (nxB x) (nyB x))).setCell ⟨g', qn * 4 + 2, none⟩ (.string (nmB x))).setCell ⟨g', qn * 4 + 3, none⟩ (.slice p (npB x) (npB x))) → As w W b g c d k rg NM true a (qs ++ [(x, p)]) (.slice (some ⟨g', 0, none⟩) (qn + 1) cap) r2) := Lib.hid (fun W hW => by
                  have hq := HQN.out
                  subst hq
                  exact HA.out.app hbw hgw hcw hcb hcg HK2.out HPX.out HRD2.out HOK2.out hc13 hgrow hat hown W hW)
                have hcl : ∀ j, j < (qn + 1) * 4 → w3.cell? ⟨g', j, none⟩ = (qcs qs ++ zexq)[j]? := fun j hj => hown.cellAt j hj
                have hql : (qcs qs).length = qn * 4 := by rw [qcs_len, HQN.out]
                have s0 : w3.cell? ⟨g', qn * 4, none⟩ = some (.string ⟨#[]⟩) := by rw [hcl _ (by omega), List.getElem?_append_right (by omega), hql]; simp [zexq]
                have s1 : w3.cell? ⟨g', qn * 4 + 1, none⟩ = some (.complex .f64 0 0) := by rw [hcl _ (by omega), List.getElem?_append_right (by omega), hql]; simp [zexq]
                have s2 : w3.cell? ⟨g', qn * 4 + 2, none⟩ = some (.string ⟨#[]⟩) := by rw [hcl _ (by omega), List.getElem?_append_right (by omega), hql]; simp [zexq]
                have s3 : w3.cell? ⟨g', qn * 4 + 3, none⟩ = some (.slice none 0 0) := by rw [hcl _ (by omega), List.getElem?_append_right (by omega), hql]; simp [zexq]
                have t0 : w3.frozen? ⟨g', qn * 4, none⟩ = false := hown.frozenAt _
                have t1 : w3.frozen? ⟨g', qn * 4 + 1, none⟩ = false := hown.frozenAt _
                have t2 : w3.frozen? ⟨g', qn * 4 + 2, none⟩ = false := hown.frozenAt _
                have t3 : w3.frozen? ⟨g', qn * 4 + 3, none⟩ = false := hown.frozenAt _
                have hgc : ¬ g' = c := by
                  intro e
                  rcases hown.2 with ⟨h', _⟩ | ⟨g'', cap', cur, h', h1, _⟩
                  · cases h'
                  · injection h' with h' _ _; injection h' with h'; injection h' with h' _ _; omega
                have hcg' : ¬ c = g' := fun e => hgc e.symm
                have hix : (qn : Int) < (qn : Int) + 1 := by omega
                have hrc : w3.heap[c]? = some (.cells (sbox k rg NM true (.slice pv qn cv) (.slice none 0 0) (.slice none 0 0) a) 126 (0, 0)) := by
                  rw [hgrow.block c (by omega) (fun e => by have := (HA.out.xq.own.lt c (by rw [← e])).1; omega)]
                  exact HCB2.out
                have c4 : w3.cell? ⟨c, 4, none⟩ = some (.slice pv qn cv) := row_cell hrc
                have d4 : w3.frozen? ⟨c, 4, none⟩ = false := row_frozen hrc
                clear hcl hown hgrow hat hrc
                generalize opB x = z0 at *
                generalize nxB x = z1 at *
                generalize nyB x = z2 at *
                generalize nmB x = z3 at *
                generalize npB x = z4 at *
                refine hK.out _ _ (fun hne => absurd hne (by omega)) ?_
                clear hK K
                try simp only [Act.put, List.setIfInBounds_toArray, List.set_cons_zero, List.set_cons_succ]
                refine wpAnyG_two (i := 9) (j := 11) (by kernel_rfl) rfl rfl (fun K hK => ?_) (fun K hK => ?_)
                · go_simp
                  refine hK.out _ _ (fun hne => absurd hne (by omega)) ?_
                  clear hK K
                  try simp only [Act.put, List.setIfInBounds_toArray, List.set_cons_zero, List.set_cons_succ]
                  refine wpAnyG_two (i := 10) (j := 11) (by kernel_rfl) rfl rfl (fun K hK => ?_) (fun K hK => ?_)
                  · go_simp
                    refine hK.out _ _ (fun hne => absurd hne (by omega)) ?_
                    clear hK K
                    try simp only [Act.put, List.setIfInBounds_toArray, List.set_cons_zero, List.set_cons_succ]
                    refine wpAnyG_one (i := 11) (by kernel_rfl) rfl (fun K hK => ?_)
                    go_simp
                    refine hK.out _ _ (fun hne => absurd hne (by omega)) ?_
                    clear hK K
                    try simp only [Act.put, List.setIfInBounds_toArray, List.set_cons_zero, List.set_cons_succ]
                    refine wpAnyG_one (i := 12) (by kernel_rfl) rfl (fun K hK => ?_)
                    go_simp
                    refine hK.out _ _ (fun hne => absurd hne (by omega)) ?_
                    clear hK K
                    try simp only [Act.put, List.setIfInBounds_toArray, List.set_cons_zero, List.set_cons_succ]
                    refine wpAnyG_one (i := 13) (by kernel_rfl) rfl (fun K hK => ?_)
                    go_simp
                    refine hK.out _ _ (fun hne => absurd hne (by omega)) ?_
                    clear hK K
                    try simp only [Act.put, List.setIfInBounds_toArray, List.set_cons_zero, List.set_cons_succ]
                    refine wpAnyG_done (by kernel_rfl) ?_ _
                    go_wp2_with fail
                    go_meet
                    exact ⟨x, r2, _, _, HAPP.out _ (.inl rfl), by rw [List.map_append, HQ0.out]; rfl, HWH.out, HLEN2.out⟩
                  · go_simp
                    refine hK.out _ _ (fun hne => absurd hne (by omega)) ?_
                    clear hK K
                    try simp only [Act.put, List.setIfInBounds_toArray, List.set_cons_zero, List.set_cons_succ]
                    refine wpAnyG_two (i := 10) (j := 12) (by kernel_rfl) rfl rfl (fun K hK => ?_) (fun K hK => ?_)
                    · go_simp
                      refine hK.out _ _ (fun hne => absurd hne (by omega)) ?_
                      clear hK K
                      try simp only [Act.put, List.setIfInBounds_toArray, List.set_cons_zero, List.set_cons_succ]
                      refine wpAnyG_one (i := 12) (by kernel_rfl) rfl (fun K hK => ?_)
                      go_simp
                      refine hK.out _ _ (fun hne => absurd hne (by omega)) ?_
                      clear hK K
                      try simp only [Act.put, List.setIfInBounds_toArray, List.set_cons_zero, List.set_cons_succ]
                      refine wpAnyG_one (i := 13) (by kernel_rfl) rfl (fun K hK => ?_)
                      go_simp
                      refine hK.out _ _ (fun hne => absurd hne (by omega)) ?_
                      clear hK K
                      try simp only [Act.put, List.setIfInBounds_toArray, List.set_cons_zero, List.set_cons_succ]
                      refine wpAnyG_done (by kernel_rfl) ?_ _
                      go_wp2_with fail
                      go_meet
                      exact ⟨x, r2, _, _, HAPP.out _ (.inl rfl), by rw [List.map_append, HQ0.out]; rfl, HWH.out, HLEN2.out⟩
                    · go_simp
                      refine hK.out _ _ (fun hne => absurd hne (by omega)) ?_
                      clear hK K
                      try simp only [Act.put, List.setIfInBounds_toArray, List.set_cons_zero, List.set_cons_succ]
                      refine wpAnyG_two (i := 10) (j := 13) (by kernel_rfl) rfl rfl (fun K hK => ?_) (fun K hK => ?_)
                      · go_simp
                        refine hK.out _ _ (fun hne => absurd hne (by omega)) ?_
                        clear hK K
                        try simp only [Act.put, List.setIfInBounds_toArray, List.set_cons_zero, List.set_cons_succ]
                        refine wpAnyG_one (i := 13) (by kernel_rfl) rfl (fun K hK => ?_)
                        go_simp
                        refine hK.out _ _ (fun hne => absurd hne (by omega)) ?_
                        clear hK K
                        try simp only [Act.put, List.setIfInBounds_toArray, List.set_cons_zero, List.set_cons_succ]
                        refine wpAnyG_done (by kernel_rfl) ?_ _
                        go_wp2_with fail
                        go_meet
                        exact ⟨x, r2, _, _, HAPP.out _ (.inl rfl), by rw [List.map_append, HQ0.out]; rfl, HWH.out, HLEN2.out⟩
                      · go_simp
                        refine hK.out _ _ (fun hne => absurd hne (by omega)) ?_
                        clear hK K
                        try simp only [Act.put, List.setIfInBounds_toArray, List.set_cons_zero, List.set_cons_succ]
                        refine wpAnyG_one (i := 10) (by kernel_rfl) rfl (fun K hK => ?_)
                        go_simp
                        refine hK.out _ _ (fun hne => absurd hne (by omega)) ?_
                        clear hK K
                        try simp only [Act.put, List.setIfInBounds_toArray, List.set_cons_zero, List.set_cons_succ]
                        refine wpAnyG_done (by kernel_rfl) ?_ _
                        go_wp2_with fail
                        go_meet
                        exact ⟨x, r2, _, _, HAPP.out _ (.inr rfl), by rw [List.map_append, HQ0.out]; rfl, HWH.out, HLEN2.out⟩
                · go_simp
                  refine hK.out _ _ (fun hne => absurd hne (by omega)) ?_
                  clear hK K
                  try simp only [Act.put, List.setIfInBounds_toArray, List.set_cons_zero, List.set_cons_succ]
                  refine wpAnyG_two (i := 9) (j := 12) (by kernel_rfl) rfl rfl (fun K hK => ?_) (fun K hK => ?_)
                  · go_simp
                    refine hK.out _ _ (fun hne => absurd hne (by omega)) ?_
                    clear hK K
                    try simp only [Act.put, List.setIfInBounds_toArray, List.set_cons_zero, List.set_cons_succ]
                    refine wpAnyG_two (i := 10) (j := 12) (by kernel_rfl) rfl rfl (fun K hK => ?_) (fun K hK => ?_)
                    · go_simp
                      refine hK.out _ _ (fun hne => absurd hne (by omega)) ?_
                      clear hK K
                      try simp only [Act.put, List.setIfInBounds_toArray, List.set_cons_zero, List.set_cons_succ]
                      refine wpAnyG_one (i := 12) (by kernel_rfl) rfl (fun K hK => ?_)
                      go_simp
                      refine hK.out _ _ (fun hne => absurd hne (by omega)) ?_
                      clear hK K
                      try simp only [Act.put, List.setIfInBounds_toArray, List.set_cons_zero, List.set_cons_succ]
                      refine wpAnyG_one (i := 13) (by kernel_rfl) rfl (fun K hK => ?_)
                      go_simp
                      refine hK.out _ _ (fun hne => absurd hne (by omega)) ?_
                      clear hK K
                      try simp only [Act.put, List.setIfInBounds_toArray, List.set_cons_zero, List.set_cons_succ]
                      refine wpAnyG_done (by kernel_rfl) ?_ _
                      go_wp2_with fail
                      go_meet
                      exact ⟨x, r2, _, _, HAPP.out _ (.inl rfl), by rw [List.map_append, HQ0.out]; rfl, HWH.out, HLEN2.out⟩
                    · go_simp
                      refine hK.out _ _ (fun hne => absurd hne (by omega)) ?_
                      clear hK K
                      try simp only [Act.put, List.setIfInBounds_toArray, List.set_cons_zero, List.set_cons_succ]
                      refine wpAnyG_two (i := 10) (j := 13) (by kernel_rfl) rfl rfl (fun K hK => ?_) (fun K hK => ?_)
                      · go_simp
                        refine hK.out _ _ (fun hne => absurd hne (by omega)) ?_
                        clear hK K
                        try simp only [Act.put, List.setIfInBounds_toArray, List.set_cons_zero, List.set_cons_succ]
                        refine wpAnyG_one (i := 13) (by kernel_rfl) rfl (fun K hK => ?_)
                        go_simp
                        refine hK.out _ _ (fun hne => absurd hne (by omega)) ?_
                        clear hK K
                        try simp only [Act.put, List.setIfInBounds_toArray, List.set_cons_zero, List.set_cons_succ]
                        refine wpAnyG_done (by kernel_rfl) ?_ _
                        go_wp2_with fail
                        go_meet
                        exact ⟨x, r2, _, _, HAPP.out _ (.inl rfl), by rw [List.map_append, HQ0.out]; rfl, HWH.out, HLEN2.out⟩
                      · go_simp
                        refine hK.out _ _ (fun hne => absurd hne (by omega)) ?_
                        clear hK K
                        try simp only [Act.put, List.setIfInBounds_toArray, List.set_cons_zero, List.set_cons_succ]
                        refine wpAnyG_one (i := 10) (by kernel_rfl) rfl (fun K hK => ?_)
                        go_simp
                        refine hK.out _ _ (fun hne => absurd hne (by omega)) ?_
                        clear hK K
                        try simp only [Act.put, List.setIfInBounds_toArray, List.set_cons_zero, List.set_cons_succ]
                        refine wpAnyG_done (by kernel_rfl) ?_ _
                        go_wp2_with fail
                        go_meet
                        exact ⟨x, r2, _, _, HAPP.out _ (.inr rfl), by rw [List.map_append, HQ0.out]; rfl, HWH.out, HLEN2.out⟩
                  · go_simp
                    refine hK.out _ _ (fun hne => absurd hne (by omega)) ?_
                    clear hK K
                    try simp only [Act.put, List.setIfInBounds_toArray, List.set_cons_zero, List.set_cons_succ]
                    refine wpAnyG_two (i := 9) (j := 13) (by kernel_rfl) rfl rfl (fun K hK => ?_) (fun K hK => ?_)
                    · go_simp
                      refine hK.out _ _ (fun hne => absurd hne (by omega)) ?_
                      clear hK K
                      try simp only [Act.put, List.setIfInBounds_toArray, List.set_cons_zero, List.set_cons_succ]
                      refine wpAnyG_two (i := 10) (j := 13) (by kernel_rfl) rfl rfl (fun K hK => ?_) (fun K hK => ?_)
                      · go_simp
                        refine hK.out _ _ (fun hne => absurd hne (by omega)) ?_
                        clear hK K
                        try simp only [Act.put, List.setIfInBounds_toArray, List.set_cons_zero, List.set_cons_succ]
                        refine wpAnyG_one (i := 13) (by kernel_rfl) rfl (fun K hK => ?_)
                        go_simp
                        refine hK.out _ _ (fun hne => absurd hne (by omega)) ?_
                        clear hK K
                        try simp only [Act.put, List.setIfInBounds_toArray, List.set_cons_zero, List.set_cons_succ]
                        refine wpAnyG_done (by kernel_rfl) ?_ _
                        go_wp2_with fail
                        go_meet
                        exact ⟨x, r2, _, _, HAPP.out _ (.inl rfl), by rw [List.map_append, HQ0.out]; rfl, HWH.out, HLEN2.out⟩
                      · go_simp
                        refine hK.out _ _ (fun hne => absurd hne (by omega)) ?_
                        clear hK K
                        try simp only [Act.put, List.setIfInBounds_toArray, List.set_cons_zero, List.set_cons_succ]
                        refine wpAnyG_one (i := 10) (by kernel_rfl) rfl (fun K hK => ?_)
                        go_simp
                        refine hK.out _ _ (fun hne => absurd hne (by omega)) ?_
                        clear hK K
                        try simp only [Act.put, List.setIfInBounds_toArray, List.set_cons_zero, List.set_cons_succ]
                        refine wpAnyG_done (by kernel_rfl) ?_ _
                        go_wp2_with fail
                        go_meet
                        exact ⟨x, r2, _, _, HAPP.out _ (.inr rfl), by rw [List.map_append, HQ0.out]; rfl, HWH.out, HLEN2.out⟩
                    · go_simp
                      refine hK.out _ _ (fun hne => absurd hne (by omega)) ?_
                      clear hK K
                      try simp only [Act.put, List.setIfInBounds_toArray, List.set_cons_zero, List.set_cons_succ]
                      refine wpAnyG_one (i := 9) (by kernel_rfl) rfl (fun K hK => ?_)
                      go_simp
                      refine hK.out _ _ (fun hne => absurd hne (by omega)) ?_
                      clear hK K
                      try simp only [Act.put, List.setIfInBounds_toArray, List.set_cons_zero, List.set_cons_succ]
                      refine wpAnyG_one (i := 10) (by kernel_rfl) rfl (fun K hK => ?_)
                      go_simp
                      refine hK.out _ _ (fun hne => absurd hne (by omega)) ?_
                      clear hK K
                      try simp only [Act.put, List.setIfInBounds_toArray, List.set_cons_zero, List.set_cons_succ]
                      refine wpAnyG_done (by kernel_rfl) ?_ _
                      go_wp2_with fail
                      go_meet
                      exact ⟨x, r2, _, _, HAPP.out _ (.inr rfl), by rw [List.map_append, HQ0.out]; rfl, HWH.out, HLEN2.out⟩
          case rest =>
            obtain ⟨x, r2, qs, v, hA, hq, hwh, hl2⟩ := hcut
            have HA2 := Lib.hid hA
            have HQ2 := Lib.hid hq
            have HRE2 : Hid (R = match must [93] r2 with | .error er => .error er | .ok r'' => args3P k nm (some x) r'') := Lib.hid (by rw [HRE.out, args2iP, hwh])
            obtain ⟨u, r3, hu⟩ := hA.ok.ne
            subst hu
            clear hA hq hwh HA HQ0 HQN HWO
            by_cases hu : u.text = [93]
            · have htl := HA2.out.ok.tl (by rw [hu]; simp)
              have HTL := Lib.hid htl
              have hRe : R = args3P k nm (some x) r3 := by rw [HRE2.out, must, if_pos hu]
              have HRE3 := Lib.hid hRe
              have HMU := Lib.hid (must_yes b g u r3 d [93] wc HA2.out.rd htl.2.2 hu)
              clear hRe htl hu
              go_wp2_with fail
              refine HMU.out.mono ?_
              rintro en w5 ⟨rfl, hrd5, hk5⟩
              have HA5 := Lib.hid (HA2.out.kb hk5 hrd5 HTL.out.1 hbw hcb)
              clear hrd5 hk5
              go_wp2_with fail
              go_meet
              exact ⟨some x, r3, _, _, HA5.out, HQ2.out, HRE3.out, by simp only [List.length_cons] at hl2; omega⟩
            · have hRe : R = .error (u.pos, 1) := by rw [HRE2.out, must, if_neg hu]
              have HMU := Lib.hid (must_no b g u r3 d [93] wc HA2.out.rd hu)
              subst hRe
              unfold pan at HMU
              clear hu
              go_wp2_with fail
              refine HMU.out.mono ?_
              rintro en w5 ⟨rfl, hb5⟩
              have HB5 := Lib.hid hb5
              clear hb5
              go_wp2
              exact ⟨rfl, rfl, HA2.out.kx.bel HB5.out⟩
      case rest =>
        obtain ⟨i, r1, qs0, v0, hA, hq, hRe, hl1⟩ := hcut
        have HAS := Lib.hid hA
        have HQS := Lib.hid hq
        have HRS : Hid (R = takeRest k nm i [] 0 r1) := Lib.hid (by rw [hRe]; exact args3_rest _ _ _ _)
        clear hA hq hRe HA1 HRE0
        have htk := takes_le k
        obtain ⟨tn, htn⟩ : ∃ tn, takes k = tn := ⟨_, rfl⟩
        have HTN := Lib.hid htn
        rw [htn] at htk HTK
        clear htn
        go_wp2_with fail
        refine (HTK.out _).mono ?_
        rintro en w' ⟨rfl, rfl⟩
        go_wp2_with fail
        go_loopw [42] (fun u42 wr => ∃ (j : Nat) (qs : List (Ex × Option Addr)) (v : Value) (ts' : List Tk) (l0 : List Ex), u42 = .int .i64 (j : Int) ∧ As w wr b g c d k rg NM i.isSome a qs v ts' ∧ qs.map Prod.fst = i.toList ++ l0 ∧ l0.length = j ∧ R = takeRest k nm i l0 j ts' ∧ j ≤ tn ∧ ts'.length ≤ 20000) (fun u42 wr => tn - (intOf u42).toNat)
        case atStart => exact ⟨0, qs0, v0, r1, [], rfl, HAS.out, by rw [HQS.out]; simp, rfl, HRS.out, by omega, hl1⟩
        case round =>
          obtain ⟨j, qs, v, ts', l0, rfl, hA, hq, hl0, hRe, hjt, hlt'⟩ := hrel
          have HAJ := Lib.hid hA
          have HQ0 := Lib.hid hq
          have HL0 := Lib.hid hl0
          have HREJ := Lib.hid hRe
          clear hA hq hl0 hRe
          by_cases hj : j < tn
          · have hjk : j < takes k := by rw [HTN.out]; exact hj
            have HJK := Lib.hid hjk
            clear hjk
            obtain ⟨cm, hcm⟩ : ∃ cm, (decide (0 < j) || named k) = cm := ⟨_, rfl⟩
            have HCM := Lib.hid hcm
            clear hcm
            go_upto_region 10 with (fail)
            obtain ⟨wj, hwj⟩ : ∃ wj, wr = wj := ⟨_, rfl⟩
            go_cut [50] (fun u50 wx => u50 = .bool cm ∧ wx = wj)
            case first =>
              subst hwj
              by_cases hj0 : 0 < j
              · have h1 : (0 : Int) < (j : Int) := by omega
                have h2 : cm = true := by rw [← HCM.out]; simp [hj0]
                subst h2
                go_wp2_with fail
                go_meet
                exact ⟨rfl, rfl⟩
              · have h2 : cm = bn := by rw [← HCM.out, HBN.out]; simp [hj0]
                subst h2
                have h1 : decide ((0 : Int) < (j : Int)) = false := by simp; omega
                have h3 : decide (0 < j) = false := by simp; omega
                clear hj0
                go_wp2_with (go_at_call 159; refine (HNM.out _).mono ?_; rintro en w' ⟨rfl, rfl⟩)
                go_meet
                exact ⟨rfl, rfl⟩
            case rest =>
              obtain ⟨hu50, hwx⟩ := hcut
              subst hu50
              rw [hwx, ← hwj]
              clear hwx hwj
              go_upto_if 50 with (fail)
              go_cut [] (fun wx => ∃ r3, As w wx b g c d k rg NM i.isSome a qs v r3 ∧ R = takeRest2 k nm i l0 j r3 ∧ r3.length ≤ 20000)
              case first =>
                cases cm with
                | false =>
                  have hRe : R = takeRest2 k nm i l0 j ts' := by rw [HREJ.out]; exact takeRest_no HJK.out HCM.out
                  have HRE := Lib.hid hRe
                  clear hRe
                  go_wp2_with fail
                  go_meet
                  exact ⟨ts', HAJ.out, HRE.out, hlt'⟩
                | true =>
                  obtain ⟨u, r3, hu⟩ := HAJ.out.ok.ne
                  subst hu
                  have hRe0 : R = match must [44] (u :: r3) with | .error er => .error er | .ok r => takeRest2 k nm i l0 j r := by rw [HREJ.out]; exact takeRest_yes HJK.out HCM.out
                  by_cases hu : u.text = [44]
                  · have hRe : R = takeRest2 k nm i l0 j r3 := by rw [hRe0, must, if_pos hu]
                    have htl := HAJ.out.ok.tl (by rw [hu]; simp)
                    have HTL := Lib.hid htl
                    have HRE := Lib.hid hRe
                    have HMU := Lib.hid (must_yes b g u r3 d [44] wr HAJ.out.rd htl.2.2 hu)
                    clear hRe hRe0 htl hu
                    go_wp2_with fail
                    refine HMU.out.mono ?_
                    rintro en w5 ⟨rfl, hrd5, hk5⟩
                    have HA5 := Lib.hid (HAJ.out.kb hk5 hrd5 HTL.out.1 hbw hcb)
                    clear hrd5 hk5
                    go_wp2_with fail
                    go_meet
                    exact ⟨r3, HA5.out, HRE.out, by simp only [List.length_cons] at hlt'; omega⟩
                  · have hRe : R = .error (u.pos, 1) := by rw [hRe0, must, if_neg hu]
                    have HMU := Lib.hid (must_no b g u r3 d [44] wr HAJ.out.rd hu)
                    clear hRe0
                    subst hRe
                    unfold pan at HMU
                    clear hu
                    go_wp2_with fail
                    refine HMU.out.mono ?_
                    rintro en w5 ⟨rfl, hb5⟩
                    have HB5 := Lib.hid hb5
                    clear hb5
                    go_wp2
                    exact ⟨rfl, rfl, HAJ.out.kx.bel HB5.out⟩
              case rest =>
                obtain ⟨r, hAs, hRe, hrl'⟩ := hcut
                have HRE := Lib.hid hRe
                obtain ⟨pv, cv, hv⟩ := hAs.len
                obtain ⟨qn, hqn⟩ : ∃ qn, qs.length = qn := ⟨_, rfl⟩
                rw [hqn] at hv
                subst hv
                have HA := Lib.hid hAs
                have HQN := Lib.hid hqn
                have hqb : qn ≤ 3 := by
                  have h1 := congrArg List.length HQ0.out
                  rw [List.length_map, hqn, List.length_append, HL0.out] at h1
                  have h2 : i.toList.length ≤ 1 := by cases i <;> simp
                  omega
                clear hAs hRe hqn HAJ HREJ
                have HWO := Lib.hid (fun w' (h : Rdr w' b g r d) => whole_any b g r d w' h HA.out.ok hrl')
                have y4 : wc.cell? ⟨c, 4, none⟩ = some (.slice pv qn cv) := row_cell HA.out.cb
                have hcwc : c < wc.heap.size := lt_of_row HA.out.cb
                have hwwc : w.heap.size ≤ wc.heap.size := HA.out.kx.size
                go_wp2_with fail
                refine wp_region_lapseG (by kernel_rfl) (fun w' => w'.cell? ⟨c, 4, none⟩ = some (.slice pv qn cv)) 8 ?_
                have hS0 : wc.drew.cell? ⟨c, 4, none⟩ = some (.slice pv qn cv) := y4
                refine wpAnyG_take (i := 0) (v := ?vcx0) rfl (by kernel_rfl) (by kernel_rfl) (by kernel_rfl) (by kernel_rfl) (fun _ _ _ h => h) (Or.inl ⟨by rfl, ?hcx0⟩) hS0 ?_
                case hcx0 => (intro w hSw; (try dsimp only at hSw); go_simp; try with_reducible rfl)
                simp only [Act.put, List.setIfInBounds_toArray, List.set_cons_zero, List.set_cons_succ]
                refine wpAnyG_take (i := 1) (v := ?vcx1) rfl (by kernel_rfl) (by kernel_rfl) (by kernel_rfl) (by kernel_rfl) (fun _ _ _ h => h) (Or.inl ⟨by rfl, ?hcx1⟩) hS0 ?_
                case hcx1 => (intro w hSw; (try dsimp only at hSw); go_simp; try with_reducible rfl)
                simp only [Act.put, List.setIfInBounds_toArray, List.set_cons_zero, List.set_cons_succ]
                refine wpAnyG_take (i := 2) (v := ?vcx2) rfl (by kernel_rfl) (by kernel_rfl) (by kernel_rfl) (by kernel_rfl) (fun _ _ _ h => h) (Or.inl ⟨by rfl, ?hcx2⟩) hS0 ?_
                case hcx2 => (intro w hSw; (try dsimp only at hSw); go_simp; try with_reducible rfl)
                simp only [Act.put, List.setIfInBounds_toArray, List.set_cons_zero, List.set_cons_succ]
                refine wpAnyG_take (i := 3) (v := ?vcx3) rfl (by kernel_rfl) (by kernel_rfl) (by kernel_rfl) (by kernel_rfl) (fun _ _ _ h => h) (Or.inl ⟨by rfl, ?hcx3⟩) hS0 ?_
                case hcx3 => (intro w hSw; (try dsimp only at hSw); go_simp; try with_reducible rfl)
                simp only [Act.put, List.setIfInBounds_toArray, List.set_cons_zero, List.set_cons_succ]
                refine wpAnyG_take (i := 4) (v := ?vcx4) rfl (by kernel_rfl) (by kernel_rfl) (by kernel_rfl) (by kernel_rfl) (fun _ _ _ h => h) (Or.inl ⟨by rfl, ?hcx4⟩) hS0 ?_
                case hcx4 => (intro w hSw; (try dsimp only at hSw); go_simp; try with_reducible rfl)
                simp only [Act.put, List.setIfInBounds_toArray, List.set_cons_zero, List.set_cons_succ]
                refine wpAnyG_take (i := 6) (v := ?vcx6) rfl (by kernel_rfl) (by kernel_rfl) (by kernel_rfl) (by kernel_rfl) (fun _ _ _ h => h) (Or.inl ⟨by rfl, ?hcx6⟩) hS0 ?_
                case hcx6 => (intro w hSw; (try dsimp only at hSw); go_simp; try with_reducible rfl)
                simp only [Act.put, List.setIfInBounds_toArray, List.set_cons_zero, List.set_cons_succ]
                clear hS0
                cases hwh : wholeP r with
                | error er =>
                  obtain ⟨pp, cc⟩ := er
                  have hRe : R = .error (pp, cc) := by rw [HRE.out]; unfold takeRest2; rw [hwh]
                  subst hRe
                  rw [hwh] at HWO
                  unfold PE at HWO
                  simp only at HWO
                  unfold pan at HWO
                  (try unfold AgR pan)
                  refine wpAnyG_two (i := 5) (j := 7) (by kernel_rfl) rfl rfl (fun K hK => ?_) (fun K hK => ?_)
                  · go_simp
                    go_at_call 184
                    refine (HWO.out _ (rdr_drew HA.out.rd)).mono ?_
                    rintro e1 w4 ⟨rfl, hk4⟩
                    have HK4 := Lib.hid hk4
                    clear hk4
                    go_simp
                    exact ⟨rfl, rfl, HA.out.kx.trans ((kx_drew _ _).tr HK4.out) (fun i _ e => .inl e)⟩
                  · go_simp
                    refine hK.out _ _ (fun _ => al_cell y4 _) ?_
                    clear hK K
                    try simp only [Act.put, List.setIfInBounds_toArray, List.set_cons_zero, List.set_cons_succ]
                    refine wpAnyG_one (i := 5) (by kernel_rfl) rfl (fun K hK => ?_)
                    go_simp
                    go_at_call 184
                    refine (HWO.out _ ((rdr_drew HA.out.rd).on (below_alloc _ _))).mono ?_
                    rintro e1 w4 ⟨rfl, hk4⟩
                    have HK4 := Lib.hid hk4
                    clear hk4
                    go_simp
                    exact ⟨rfl, rfl, HA.out.kx.trans (((kx_drew _ _).alloc _).tr HK4.out) (fun i _ e => .inl e)⟩
                | ok xr =>
                  obtain ⟨x, r2⟩ := xr
                  have HOK2 : Hid (Okt r2) := Lib.hid (wholeP_eats _ _ _ HA.out.ok hwh).1
                  have HLEN2 : Hid (r2.length ≤ r.length) := Lib.hid (Nat.le_of_lt (wholeP_eats _ _ _ HA.out.ok hwh).2)
                  have HWH := Lib.hid hwh
                  have HREST : Hid (R = takeRest k nm i (l0 ++ [x]) (j + 1) r2) := Lib.hid (by rw [HRE.out]; exact takeRest2_ok hwh HJK.out)
                  rw [hwh] at HWO
                  clear hwh
                  unfold PE at HWO
                  simp only at HWO
                  refine wpAnyG_two (i := 5) (j := 7) (by kernel_rfl) rfl rfl (fun K hK => ?_) (fun K hK => ?_)
                  · go_simp
                    go_at_call 184
                    refine (HWO.out _ (rdr_drew HA.out.rd)).mono ?_
                    rintro e1 w4 ⟨p, rfl, hpx4, hrd4, hk4⟩
                    have hk0 : Kx (· = b) wc w4 := (kx_drew _ _).tr hk4
                    have HK0 := Lib.hid hk0
                    have HP0 := Lib.hid hpx4
                    have HR0 := Lib.hid hrd4
                    have hs4 : w4.cell? ⟨c, 4, none⟩ = some (.slice pv qn cv) := (hk0.cell (p := ⟨c, 4, none⟩) hcwc (show ¬ c = b by omega)).trans y4
                    clear hpx4 hrd4 hk4 hk0
                    unfold exv
                    go_simp
                    refine hK.out _ _ (fun _ => hs4) ?_
                    clear hK K
                    try simp only [Act.put, List.setIfInBounds_toArray, List.set_cons_zero, List.set_cons_succ]
                    refine wpAnyG_one (i := 7) (by kernel_rfl) rfl (fun K hK => ?_)
                    go_simp
                    refine hK.out _ _ (fun _ => al_cell hs4 _) ?_
                    clear hK K
                    try simp only [Act.put, List.setIfInBounds_toArray, List.set_cons_zero, List.set_cons_succ]
                    have HK2 : Hid (Kx (· = b) wc (w4.alloc (.cells #[.string ⟨#[]⟩, .complex .f64 0 0, .string ⟨#[]⟩, .slice none 0 0] 159))) := Lib.hid (HK0.out.alloc _)
                    have HPX : Hid (Px (w4.alloc (.cells #[.string ⟨#[]⟩, .complex .f64 0 0, .string ⟨#[]⟩, .slice none 0 0] 159)) (Nw wc.heap.size (w4.alloc (.cells #[.string ⟨#[]⟩, .complex .f64 0 0, .string ⟨#[]⟩, .slice none 0 0] 159))) x p) := Lib.hid (HP0.out.on (Same.below (below_alloc _ _) fun i hi => hi.2) (fun i hi => ⟨hi.1, by have := hi.2; simp; omega⟩))
                    have HRD2 : Hid (Rdr (w4.alloc (.cells #[.string ⟨#[]⟩, .complex .f64 0 0, .string ⟨#[]⟩, .slice none 0 0] 159)) b g r2 d) := Lib.hid (HR0.out.on (below_alloc _ _))
                    have ow2 : ((w4.alloc (.cells #[.string ⟨#[]⟩, .complex .f64 0 0, .string ⟨#[]⟩, .slice none 0 0] 159))).ownsRow w.heap.size 159 4 (.slice pv qn cv) qn (qcs qs) := by
                      have h := own_kx HA.out.xq.own HK2.out (fun i hi e => by omega)
                      rw [HQN.out] at h
                      exact h
                    have hB2 : w.heap.size ≤ ((w4.alloc (.cells #[.string ⟨#[]⟩, .complex .f64 0 0, .string ⟨#[]⟩, .slice none 0 0] 159))).heap.size := Nat.le_trans HA.out.kx.size HK2.out.size
                    have HCB2 : Hid (((w4.alloc (.cells #[.string ⟨#[]⟩, .complex .f64 0 0, .string ⟨#[]⟩, .slice none 0 0] 159))).heap[c]? = some (.cells (sbox k rg NM i.isSome (.slice pv qn cv) (.slice none 0 0) (.slice none 0 0) a) 126 (0, 0))) := Lib.hid (by
                      rw [HK2.out.block c (lt_of_row HA.out.cb) (by omega)]; exact HA.out.cb)
                    have hnews := new_cells w4 zexq 159
                    refine wpAnyG_one (i := 8) (by kernel_rfl) rfl (fun K hK => ?_)
                    refine step_append_lies _ (by rfl) (.tmp 56) (.tmp 60) 124 (by rfl) w.heap.size 159 i0 _ 4 72 Tryz.underlying124 HI.out HZ0.out HZ1.out HZ2.out rfl (by decide) (.slice pv qn cv) qn (qcs qs) (by rfl) ow2 ⟨w4.heap.size, 0, none⟩ 1 1 zexq (by rfl) (by rfl) hnews zexq_one (by omega) (by unfold maxLen; omega) (by omega) hB2 _ rfl ?_
                    intro g' cap w3 hown hgrow hat hlt
                    have HAPP : Hid (∀ W, (W = ((((w3.setCell ⟨g', qn * 4, none⟩ (.string (opB x))).setCell ⟨g', qn * 4 + 1, none⟩ (.complex .f64 (nxB x) (nyB x))).setCell ⟨g', qn * 4 + 2, none⟩ (.string (nmB x))).setCell ⟨g', qn * 4 + 3, none⟩ (.slice p (npB x) (npB x))).setCell ⟨c, 4, none⟩ (.slice (some ⟨g', 0, none⟩) (qn + 1) cap) ∨
                        W = ((((w3.setCell ⟨c, 4, none⟩ (.slice (some ⟨g', 0, none⟩) (qn + 1) cap)).setCell ⟨g', qn * 4, none⟩ (.string (opB x))).setCell ⟨g', qn * 4 + 1, none⟩ (.complex .f64 (nxB x) (nyB x))).setCell ⟨g', qn * 4 + 2, none⟩ (.string (nmB x))).setCell ⟨g', qn * 4 + 3, none⟩ (.slice p (npB x) (npB x))) → As w W b g c d k rg NM i.isSome a (qs ++ [(x, p)]) (.slice (some ⟨g', 0, none⟩) (qn + 1) cap) r2) := Lib.hid (fun W hW => by
                      have hq := HQN.out
                      subst hq
                      exact HA.out.app hbw hgw hcw hcb hcg HK2.out HPX.out HRD2.out HOK2.out hc13 hgrow hat hown W hW)
                    have hcl : ∀ j, j < (qn + 1) * 4 → w3.cell? ⟨g', j, none⟩ = (qcs qs ++ zexq)[j]? := fun j hj => hown.cellAt j hj
                    have hql : (qcs qs).length = qn * 4 := by rw [qcs_len, HQN.out]
                    have s0 : w3.cell? ⟨g', qn * 4, none⟩ = some (.string ⟨#[]⟩) := by rw [hcl _ (by omega), List.getElem?_append_right (by omega), hql]; simp [zexq]
                    have s1 : w3.cell? ⟨g', qn * 4 + 1, none⟩ = some (.complex .f64 0 0) := by rw [hcl _ (by omega), List.getElem?_append_right (by omega), hql]; simp [zexq]
                    have s2 : w3.cell? ⟨g', qn * 4 + 2, none⟩ = some (.string ⟨#[]⟩) := by rw [hcl _ (by omega), List.getElem?_append_right (by omega), hql]; simp [zexq]
                    have s3 : w3.cell? ⟨g', qn * 4 + 3, none⟩ = some (.slice none 0 0) := by rw [hcl _ (by omega), List.getElem?_append_right (by omega), hql]; simp [zexq]
                    have t0 : w3.frozen? ⟨g', qn * 4, none⟩ = false := hown.frozenAt _
                    have t1 : w3.frozen? ⟨g', qn * 4 + 1, none⟩ = false := hown.frozenAt _
                    have t2 : w3.frozen? ⟨g', qn * 4 + 2, none⟩ = false := hown.frozenAt _
                    have t3 : w3.frozen? ⟨g', qn * 4 + 3, none⟩ = false := hown.frozenAt _
                    have hgc : ¬ g' = c := by
                      intro e
                      rcases hown.2 with ⟨h', _⟩ | ⟨g'', cap', cur, h', h1, _⟩
                      · cases h'
                      · injection h' with h' _ _; injection h' with h'; injection h' with h' _ _; omega
                    have hcg' : ¬ c = g' := fun e => hgc e.symm
                    have hix : (qn : Int) < (qn : Int) + 1 := by omega
                    have hrc : w3.heap[c]? = some (.cells (sbox k rg NM i.isSome (.slice pv qn cv) (.slice none 0 0) (.slice none 0 0) a) 126 (0, 0)) := by
                      rw [hgrow.block c (by omega) (fun e => by have := (HA.out.xq.own.lt c (by rw [← e])).1; omega)]
                      exact HCB2.out
                    have c4 : w3.cell? ⟨c, 4, none⟩ = some (.slice pv qn cv) := row_cell hrc
                    have d4 : w3.frozen? ⟨c, 4, none⟩ = false := row_frozen hrc
                    clear hcl hown hgrow hat hrc
                    generalize opB x = z0 at *
                    generalize nxB x = z1 at *
                    generalize nyB x = z2 at *
                    generalize nmB x = z3 at *
                    generalize npB x = z4 at *
                    refine hK.out _ _ (fun hne => absurd hne (by omega)) ?_
                    clear hK K
                    try simp only [Act.put, List.setIfInBounds_toArray, List.set_cons_zero, List.set_cons_succ]
                    refine wpAnyG_two (i := 9) (j := 11) (by kernel_rfl) rfl rfl (fun K hK => ?_) (fun K hK => ?_)
                    · go_simp
                      refine hK.out _ _ (fun hne => absurd hne (by omega)) ?_
                      clear hK K
                      try simp only [Act.put, List.setIfInBounds_toArray, List.set_cons_zero, List.set_cons_succ]
                      refine wpAnyG_two (i := 10) (j := 11) (by kernel_rfl) rfl rfl (fun K hK => ?_) (fun K hK => ?_)
                      · go_simp
                        refine hK.out _ _ (fun hne => absurd hne (by omega)) ?_
                        clear hK K
                        try simp only [Act.put, List.setIfInBounds_toArray, List.set_cons_zero, List.set_cons_succ]
                        refine wpAnyG_one (i := 11) (by kernel_rfl) rfl (fun K hK => ?_)
                        go_simp
                        refine hK.out _ _ (fun hne => absurd hne (by omega)) ?_
                        clear hK K
                        try simp only [Act.put, List.setIfInBounds_toArray, List.set_cons_zero, List.set_cons_succ]
                        refine wpAnyG_one (i := 12) (by kernel_rfl) rfl (fun K hK => ?_)
                        go_simp
                        refine hK.out _ _ (fun hne => absurd hne (by omega)) ?_
                        clear hK K
                        try simp only [Act.put, List.setIfInBounds_toArray, List.set_cons_zero, List.set_cons_succ]
                        refine wpAnyG_one (i := 13) (by kernel_rfl) rfl (fun K hK => ?_)
                        go_simp
                        refine hK.out _ _ (fun hne => absurd hne (by omega)) ?_
                        clear hK K
                        try simp only [Act.put, List.setIfInBounds_toArray, List.set_cons_zero, List.set_cons_succ]
                        refine wpAnyG_done (by kernel_rfl) ?_ _
                        go_wp2_with fail
                        go_roundw
                        case rel => exact ⟨j + 1, _, _, r2, l0 ++ [x], by go_num, HAPP.out _ (.inl rfl), by rw [List.map_append, HQ0.out]; simp, by rw [List.length_append, HL0.out]; rfl, HREST.out, by omega, by have := HLEN2.out; omega⟩
                        case measure => simp [intOf]; omega
                      · go_simp
                        refine hK.out _ _ (fun hne => absurd hne (by omega)) ?_
                        clear hK K
                        try simp only [Act.put, List.setIfInBounds_toArray, List.set_cons_zero, List.set_cons_succ]
                        refine wpAnyG_two (i := 10) (j := 12) (by kernel_rfl) rfl rfl (fun K hK => ?_) (fun K hK => ?_)
                        · go_simp
                          refine hK.out _ _ (fun hne => absurd hne (by omega)) ?_
                          clear hK K
                          try simp only [Act.put, List.setIfInBounds_toArray, List.set_cons_zero, List.set_cons_succ]
                          refine wpAnyG_one (i := 12) (by kernel_rfl) rfl (fun K hK => ?_)
                          go_simp
                          refine hK.out _ _ (fun hne => absurd hne (by omega)) ?_
                          clear hK K
                          try simp only [Act.put, List.setIfInBounds_toArray, List.set_cons_zero, List.set_cons_succ]
                          refine wpAnyG_one (i := 13) (by kernel_rfl) rfl (fun K hK => ?_)
                          go_simp
                          refine hK.out _ _ (fun hne => absurd hne (by omega)) ?_
                          clear hK K
                          try simp only [Act.put, List.setIfInBounds_toArray, List.set_cons_zero, List.set_cons_succ]
                          refine wpAnyG_done (by kernel_rfl) ?_ _
                          go_wp2_with fail
                          go_roundw
                          case rel => exact ⟨j + 1, _, _, r2, l0 ++ [x], by go_num, HAPP.out _ (.inl rfl), by rw [List.map_append, HQ0.out]; simp, by rw [List.length_append, HL0.out]; rfl, HREST.out, by omega, by have := HLEN2.out; omega⟩
                          case measure => simp [intOf]; omega
                        · go_simp
                          refine hK.out _ _ (fun hne => absurd hne (by omega)) ?_
                          clear hK K
                          try simp only [Act.put, List.setIfInBounds_toArray, List.set_cons_zero, List.set_cons_succ]
                          refine wpAnyG_two (i := 10) (j := 13) (by kernel_rfl) rfl rfl (fun K hK => ?_) (fun K hK => ?_)
                          · go_simp
                            refine hK.out _ _ (fun hne => absurd hne (by omega)) ?_
                            clear hK K
                            try simp only [Act.put, List.setIfInBounds_toArray, List.set_cons_zero, List.set_cons_succ]
                            refine wpAnyG_one (i := 13) (by kernel_rfl) rfl (fun K hK => ?_)
                            go_simp
                            refine hK.out _ _ (fun hne => absurd hne (by omega)) ?_
                            clear hK K
                            try simp only [Act.put, List.setIfInBounds_toArray, List.set_cons_zero, List.set_cons_succ]
                            refine wpAnyG_done (by kernel_rfl) ?_ _
                            go_wp2_with fail
                            go_roundw
                            case rel => exact ⟨j + 1, _, _, r2, l0 ++ [x], by go_num, HAPP.out _ (.inl rfl), by rw [List.map_append, HQ0.out]; simp, by rw [List.length_append, HL0.out]; rfl, HREST.out, by omega, by have := HLEN2.out; omega⟩
                            case measure => simp [intOf]; omega
                          · go_simp
                            refine hK.out _ _ (fun hne => absurd hne (by omega)) ?_
                            clear hK K
                            try simp only [Act.put, List.setIfInBounds_toArray, List.set_cons_zero, List.set_cons_succ]
                            refine wpAnyG_one (i := 10) (by kernel_rfl) rfl (fun K hK => ?_)
                            go_simp
                            refine hK.out _ _ (fun hne => absurd hne (by omega)) ?_
                            clear hK K
                            try simp only [Act.put, List.setIfInBounds_toArray, List.set_cons_zero, List.set_cons_succ]
                            refine wpAnyG_done (by kernel_rfl) ?_ _
                            go_wp2_with fail
                            go_roundw
                            case rel => exact ⟨j + 1, _, _, r2, l0 ++ [x], by go_num, HAPP.out _ (.inr rfl), by rw [List.map_append, HQ0.out]; simp, by rw [List.length_append, HL0.out]; rfl, HREST.out, by omega, by have := HLEN2.out; omega⟩
                            case measure => simp [intOf]; omega
                    · go_simp
                      refine hK.out _ _ (fun hne => absurd hne (by omega)) ?_
                      clear hK K
                      try simp only [Act.put, List.setIfInBounds_toArray, List.set_cons_zero, List.set_cons_succ]
                      refine wpAnyG_two (i := 9) (j := 12) (by kernel_rfl) rfl rfl (fun K hK => ?_) (fun K hK => ?_)
                      · go_simp
                        refine hK.out _ _ (fun hne => absurd hne (by omega)) ?_
                        clear hK K
                        try simp only [Act.put, List.setIfInBounds_toArray, List.set_cons_zero, List.set_cons_succ]
                        refine wpAnyG_two (i := 10) (j := 12) (by kernel_rfl) rfl rfl (fun K hK => ?_) (fun K hK => ?_)
                        · go_simp
                          refine hK.out _ _ (fun hne => absurd hne (by omega)) ?_
                          clear hK K
                          try simp only [Act.put, List.setIfInBounds_toArray, List.set_cons_zero, List.set_cons_succ]
                          refine wpAnyG_one (i := 12) (by kernel_rfl) rfl (fun K hK => ?_)
                          go_simp
                          refine hK.out _ _ (fun hne => absurd hne (by omega)) ?_
                          clear hK K
                          try simp only [Act.put, List.setIfInBounds_toArray, List.set_cons_zero, List.set_cons_succ]
                          refine wpAnyG_one (i := 13) (by kernel_rfl) rfl (fun K hK => ?_)
                          go_simp
                          refine hK.out _ _ (fun hne => absurd hne (by omega)) ?_
                          clear hK K
                          try simp only [Act.put, List.setIfInBounds_toArray, List.set_cons_zero, List.set_cons_succ]
                          refine wpAnyG_done (by kernel_rfl) ?_ _
                          go_wp2_with fail
                          go_roundw
                          case rel => exact ⟨j + 1, _, _, r2, l0 ++ [x], by go_num, HAPP.out _ (.inl rfl), by rw [List.map_append, HQ0.out]; simp, by rw [List.length_append, HL0.out]; rfl, HREST.out, by omega, by have := HLEN2.out; omega⟩
                          case measure => simp [intOf]; omega
                        · go_simp
                          refine hK.out _ _ (fun hne => absurd hne (by omega)) ?_
                          clear hK K
                          try simp only [Act.put, List.setIfInBounds_toArray, List.set_cons_zero, List.set_cons_succ]
                          refine wpAnyG_two (i := 10) (j := 13) (by kernel_rfl) rfl rfl (fun K hK => ?_) (fun K hK => ?_)
                          · go_simp
                            refine hK.out _ _ (fun hne => absurd hne (by omega)) ?_
                            clear hK K
                            try simp only [Act.put, List.setIfInBounds_toArray, List.set_cons_zero, List.set_cons_succ]
                            refine wpAnyG_one (i := 13) (by kernel_rfl) rfl (fun K hK => ?_)
                            go_simp
                            refine hK.out _ _ (fun hne => absurd hne (by omega)) ?_
                            clear hK K
                            try simp only [Act.put, List.setIfInBounds_toArray, List.set_cons_zero, List.set_cons_succ]
                            refine wpAnyG_done (by kernel_rfl) ?_ _
                            go_wp2_with fail
                            go_roundw
                            case rel => exact ⟨j + 1, _, _, r2, l0 ++ [x], by go_num, HAPP.out _ (.inl rfl), by rw [List.map_append, HQ0.out]; simp, by rw [List.length_append, HL0.out]; rfl, HREST.out, by omega, by have := HLEN2.out; omega⟩
                            case measure => simp [intOf]; omega
                          · go_simp
                            refine hK.out _ _ (fun hne => absurd hne (by omega)) ?_
                            clear hK K
                            try simp only [Act.put, List.setIfInBounds_toArray, List.set_cons_zero, List.set_cons_succ]
                            refine wpAnyG_one (i := 10) (by kernel_rfl) rfl (fun K hK => ?_)
                            go_simp
                            refine hK.out _ _ (fun hne => absurd hne (by omega)) ?_
                            clear hK K
                            try simp only [Act.put, List.setIfInBounds_toArray, List.set_cons_zero, List.set_cons_succ]
                            refine wpAnyG_done (by kernel_rfl) ?_ _
                            go_wp2_with fail
                            go_roundw
                            case rel => exact ⟨j + 1, _, _, r2, l0 ++ [x], by go_num, HAPP.out _ (.inr rfl), by rw [List.map_append, HQ0.out]; simp, by rw [List.length_append, HL0.out]; rfl, HREST.out, by omega, by have := HLEN2.out; omega⟩
                            case measure => simp [intOf]; omega
                      · go_simp
                        refine hK.out _ _ (fun hne => absurd hne (by omega)) ?_
                        clear hK K
                        try simp only [Act.put, List.setIfInBounds_toArray, List.set_cons_zero, List.set_cons_succ]
                        refine wpAnyG_two (i := 9) (j := 13) (by kernel_rfl) rfl rfl (fun K hK => ?_) (fun K hK => ?_)
                        · go_simp
                          refine hK.out _ _ (fun hne => absurd hne (by omega)) ?_
                          clear hK K
                          try simp only [Act.put, List.setIfInBounds_toArray, List.set_cons_zero, List.set_cons_succ]
                          refine wpAnyG_two (i := 10) (j := 13) (by kernel_rfl) rfl rfl (fun K hK => ?_) (fun K hK => ?_)
                          · go_simp
                            refine hK.out _ _ (fun hne => absurd hne (by omega)) ?_
                            clear hK K
                            try simp only [Act.put, List.setIfInBounds_toArray, List.set_cons_zero, List.set_cons_succ]
                            refine wpAnyG_one (i := 13) (by kernel_rfl) rfl (fun K hK => ?_)
                            go_simp
                            refine hK.out _ _ (fun hne => absurd hne (by omega)) ?_
                            clear hK K
                            try simp only [Act.put, List.setIfInBounds_toArray, List.set_cons_zero, List.set_cons_succ]
                            refine wpAnyG_done (by kernel_rfl) ?_ _
                            go_wp2_with fail
                            go_roundw
                            case rel => exact ⟨j + 1, _, _, r2, l0 ++ [x], by go_num, HAPP.out _ (.inl rfl), by rw [List.map_append, HQ0.out]; simp, by rw [List.length_append, HL0.out]; rfl, HREST.out, by omega, by have := HLEN2.out; omega⟩
                            case measure => simp [intOf]; omega
                          · go_simp
                            refine hK.out _ _ (fun hne => absurd hne (by omega)) ?_
                            clear hK K
                            try simp only [Act.put, List.setIfInBounds_toArray, List.set_cons_zero, List.set_cons_succ]
                            refine wpAnyG_one (i := 10) (by kernel_rfl) rfl (fun K hK => ?_)
                            go_simp
                            refine hK.out _ _ (fun hne => absurd hne (by omega)) ?_
                            clear hK K
                            try simp only [Act.put, List.setIfInBounds_toArray, List.set_cons_zero, List.set_cons_succ]
                            refine wpAnyG_done (by kernel_rfl) ?_ _
                            go_wp2_with fail
                            go_roundw
                            case rel => exact ⟨j + 1, _, _, r2, l0 ++ [x], by go_num, HAPP.out _ (.inr rfl), by rw [List.map_append, HQ0.out]; simp, by rw [List.length_append, HL0.out]; rfl, HREST.out, by omega, by have := HLEN2.out; omega⟩
                            case measure => simp [intOf]; omega
                        · go_simp
                          refine hK.out _ _ (fun hne => absurd hne (by omega)) ?_
                          clear hK K
                          try simp only [Act.put, List.setIfInBounds_toArray, List.set_cons_zero, List.set_cons_succ]
                          refine wpAnyG_one (i := 9) (by kernel_rfl) rfl (fun K hK => ?_)
                          go_simp
                          refine hK.out _ _ (fun hne => absurd hne (by omega)) ?_
                          clear hK K
                          try simp only [Act.put, List.setIfInBounds_toArray, List.set_cons_zero, List.set_cons_succ]
                          refine wpAnyG_one (i := 10) (by kernel_rfl) rfl (fun K hK => ?_)
                          go_simp
                          refine hK.out _ _ (fun hne => absurd hne (by omega)) ?_
                          clear hK K
                          try simp only [Act.put, List.setIfInBounds_toArray, List.set_cons_zero, List.set_cons_succ]
                          refine wpAnyG_done (by kernel_rfl) ?_ _
                          go_wp2_with fail
                          go_roundw
                          case rel => exact ⟨j + 1, _, _, r2, l0 ++ [x], by go_num, HAPP.out _ (.inr rfl), by rw [List.map_append, HQ0.out]; simp, by rw [List.length_append, HL0.out]; rfl, HREST.out, by omega, by have := HLEN2.out; omega⟩
                          case measure => simp [intOf]; omega
                  · go_simp
                    refine hK.out _ _ (fun _ => al_cell y4 _) ?_
                    clear hK K
                    try simp only [Act.put, List.setIfInBounds_toArray, List.set_cons_zero, List.set_cons_succ]
                    refine wpAnyG_one (i := 5) (by kernel_rfl) rfl (fun K hK => ?_)
                    go_simp
                    go_at_call 184
                    refine (HWO.out _ ((rdr_drew HA.out.rd).on (below_alloc _ _))).mono ?_
                    rintro e1 w4 ⟨p, rfl, hpx4, hrd4, hk4⟩
                    have hk0 : Kx (· = b) wc w4 := ((kx_drew _ _).alloc _).tr hk4
                    have HK0 := Lib.hid hk0
                    have HP0 : Hid (Px w4 (Nw wc.heap.size w4) x p) := Lib.hid (hpx4.on (fun _ _ _ => rfl) (fun i hi => ⟨by have := hi.1; simp at this; omega, hi.2⟩))
                    have HR0 := Lib.hid hrd4
                    have hs4 : w4.cell? ⟨c, 4, none⟩ = some (.slice pv qn cv) := (hk0.cell (p := ⟨c, 4, none⟩) hcwc (show ¬ c = b by omega)).trans y4
                    have hrz : w4.heap[wc.heap.size]? = some (.cells zexq.toArray 159 (0, 0)) := by
                      rw [hk4.block wc.heap.size (by simp) (by omega)]; exact alloc_at rfl _
                    have hnews : ∀ j u, zexq[j]? = some u → w4.cell? ((⟨wc.heap.size, 0, Option.none⟩ : Addr).add j) = some u := by
                      intro j u hu
                      have hadd : (⟨wc.heap.size, 0, Option.none⟩ : Addr).add j = ⟨wc.heap.size, j, Option.none⟩ := by unfold Addr.add; split <;> simp_all
                      rw [hadd, row_cell hrz]
                      simpa using hu
                    clear hpx4 hrd4 hk4 hk0 hrz
                    unfold exv
                    go_simp
                    refine hK.out _ _ (fun _ => hs4) ?_
                    clear hK K
                    try simp only [Act.put, List.setIfInBounds_toArray, List.set_cons_zero, List.set_cons_succ]
                    have HK2 : Hid (Kx (· = b) wc w4) := Lib.hid HK0.out
                    have HPX : Hid (Px w4 (Nw wc.heap.size w4) x p) := Lib.hid HP0.out
                    have HRD2 : Hid (Rdr w4 b g r2 d) := Lib.hid HR0.out
                    have ow2 : (w4).ownsRow w.heap.size 159 4 (.slice pv qn cv) qn (qcs qs) := by
                      have h := own_kx HA.out.xq.own HK2.out (fun i hi e => by omega)
                      rw [HQN.out] at h
                      exact h
                    have hB2 : w.heap.size ≤ (w4).heap.size := Nat.le_trans HA.out.kx.size HK2.out.size
                    have HCB2 : Hid ((w4).heap[c]? = some (.cells (sbox k rg NM i.isSome (.slice pv qn cv) (.slice none 0 0) (.slice none 0 0) a) 126 (0, 0))) := Lib.hid (by
                      rw [HK2.out.block c (lt_of_row HA.out.cb) (by omega)]; exact HA.out.cb)
                    refine wpAnyG_one (i := 8) (by kernel_rfl) rfl (fun K hK => ?_)
                    refine step_append_lies _ (by rfl) (.tmp 56) (.tmp 60) 124 (by rfl) w.heap.size 159 i0 _ 4 72 Tryz.underlying124 HI.out HZ0.out HZ1.out HZ2.out rfl (by decide) (.slice pv qn cv) qn (qcs qs) (by rfl) ow2 ⟨wc.heap.size, 0, none⟩ 1 1 zexq (by rfl) (by rfl) hnews zexq_one (by omega) (by unfold maxLen; omega) (by omega) hB2 _ rfl ?_
                    intro g' cap w3 hown hgrow hat hlt
                    have HAPP : Hid (∀ W, (W = ((((w3.setCell ⟨g', qn * 4, none⟩ (.string (opB x))).setCell ⟨g', qn * 4 + 1, none⟩ (.complex .f64 (nxB x) (nyB x))).setCell ⟨g', qn * 4 + 2, none⟩ (.string (nmB x))).setCell ⟨g', qn * 4 + 3, none⟩ (.slice p (npB x) (npB x))).setCell ⟨c, 4, none⟩ (.slice (some ⟨g', 0, none⟩) (qn + 1) cap) ∨
                        W = ((((w3.setCell ⟨c, 4, none⟩ (.slice (some ⟨g', 0, none⟩) (qn + 1) cap)).setCell ⟨g', qn * 4, none⟩ (.string (opB x))).setCell ⟨g', qn * 4 + 1, none⟩ (.complex .f64 (nxB x) (nyB x))).setCell ⟨g', qn * 4 + 2, none⟩ (.string (nmB x))).setCell ⟨g', qn * 4 + 3, none⟩ (.slice p (npB x) (npB x))) → As w W b g c d k rg NM i.isSome a (qs ++ [(x, p)]) (.slice (some ⟨g', 0, none⟩) (qn + 1) cap) r2) := Lib.hid (fun W hW => by
                      have hq := HQN.out
                      subst hq
                      exact HA.out.app hbw hgw hcw hcb hcg HK2.out HPX.out HRD2.out HOK2.out hc13 hgrow hat hown W hW)
                    have hcl : ∀ j, j < (qn + 1) * 4 → w3.cell? ⟨g', j, none⟩ = (qcs qs ++ zexq)[j]? := fun j hj => hown.cellAt j hj
                    have hql : (qcs qs).length = qn * 4 := by rw [qcs_len, HQN.out]
                    have s0 : w3.cell? ⟨g', qn * 4, none⟩ = some (.string ⟨#[]⟩) := by rw [hcl _ (by omega), List.getElem?_append_right (by omega), hql]; simp [zexq]
                    have s1 : w3.cell? ⟨g', qn * 4 + 1, none⟩ = some (.complex .f64 0 0) := by rw [hcl _ (by omega), List.getElem?_append_right (by omega), hql]; simp [zexq]
                    have s2 : w3.cell? ⟨g', qn * 4 + 2, none⟩ = some (.string ⟨#[]⟩) := by rw [hcl _ (by omega), List.getElem?_append_right (by omega), hql]; simp [zexq]
                    have s3 : w3.cell? ⟨g', qn * 4 + 3, none⟩ = some (.slice none 0 0) := by rw [hcl _ (by omega), List.getElem?_append_right (by omega), hql]; simp [zexq]
                    have t0 : w3.frozen? ⟨g', qn * 4, none⟩ = false := hown.frozenAt _
                    have t1 : w3.frozen? ⟨g', qn * 4 + 1, none⟩ = false := hown.frozenAt _
                    have t2 : w3.frozen? ⟨g', qn * 4 + 2, none⟩ = false := hown.frozenAt _
                    have t3 : w3.frozen? ⟨g', qn * 4 + 3, none⟩ = false := hown.frozenAt _
                    have hgc : ¬ g' = c := by
                      intro e
                      rcases hown.2 with ⟨h', _⟩ | ⟨g'', cap', cur, h', h1, _⟩
                      · cases h'
                      · injection h' with h' _ _; injection h' with h'; injection h' with h' _ _; omega
                    have hcg' : ¬ c = g' := fun e => hgc e.symm
                    have hix : (qn : Int) < (qn : Int) + 1 := by omega
                    have hrc : w3.heap[c]? = some (.cells (sbox k rg NM i.isSome (.slice pv qn cv) (.slice none 0 0) (.slice none 0 0) a) 126 (0, 0)) := by
                      rw [hgrow.block c (by omega) (fun e => by have := (HA.out.xq.own.lt c (by rw [← e])).1; omega)]
                      exact HCB2.out
                    have c4 : w3.cell? ⟨c, 4, none⟩ = some (.slice pv qn cv) := row_cell hrc
                    have d4 : w3.frozen? ⟨c, 4, none⟩ = false := row_frozen hrc
                    clear hcl hown hgrow hat hrc
                    generalize opB x = z0 at *
                    generalize nxB x = z1 at *
                    generalize nyB x = z2 at *
                    generalize nmB x = z3 at *
                    generalize npB x = z4 at *
                    refine hK.out _ _ (fun hne => absurd hne (by omega)) ?_
                    clear hK K
                    try simp only [Act.put, List.setIfInBounds_toArray, List.set_cons_zero, List.set_cons_succ]
                    refine wpAnyG_two (i := 9) (j := 11) (by kernel_rfl) rfl rfl (fun K hK => ?_) (fun K hK => ?_)
                    · go_simp
                      refine hK.out _ _ (fun hne => absurd hne (by omega)) ?_
                      clear hK K
                      try simp only [Act.put, List.setIfInBounds_toArray, List.set_cons_zero, List.set_cons_succ]
                      refine wpAnyG_two (i := 10) (j := 11) (by kernel_rfl) rfl rfl (fun K hK => ?_) (fun K hK => ?_)
                      · go_simp
                        refine hK.out _ _ (fun hne => absurd hne (by omega)) ?_
                        clear hK K
                        try simp only [Act.put, List.setIfInBounds_toArray, List.set_cons_zero, List.set_cons_succ]
                        refine wpAnyG_one (i := 11) (by kernel_rfl) rfl (fun K hK => ?_)
                        go_simp
                        refine hK.out _ _ (fun hne => absurd hne (by omega)) ?_
                        clear hK K
                        try simp only [Act.put, List.setIfInBounds_toArray, List.set_cons_zero, List.set_cons_succ]
                        refine wpAnyG_one (i := 12) (by kernel_rfl) rfl (fun K hK => ?_)
                        go_simp
                        refine hK.out _ _ (fun hne => absurd hne (by omega)) ?_
                        clear hK K
                        try simp only [Act.put, List.setIfInBounds_toArray, List.set_cons_zero, List.set_cons_succ]
                        refine wpAnyG_one (i := 13) (by kernel_rfl) rfl (fun K hK => ?_)
                        go_simp
                        refine hK.out _ _ (fun hne => absurd hne (by omega)) ?_
                        clear hK K
                        try simp only [Act.put, List.setIfInBounds_toArray, List.set_cons_zero, List.set_cons_succ]
                        refine wpAnyG_done (by kernel_rfl) ?_ _
                        go_wp2_with fail
                        go_roundw
                        case rel => exact ⟨j + 1, _, _, r2, l0 ++ [x], by go_num, HAPP.out _ (.inl rfl), by rw [List.map_append, HQ0.out]; simp, by rw [List.length_append, HL0.out]; rfl, HREST.out, by omega, by have := HLEN2.out; omega⟩
                        case measure => simp [intOf]; omega
                      · go_simp
                        refine hK.out _ _ (fun hne => absurd hne (by omega)) ?_
                        clear hK K
                        try simp only [Act.put, List.setIfInBounds_toArray, List.set_cons_zero, List.set_cons_succ]
                        refine wpAnyG_two (i := 10) (j := 12) (by kernel_rfl) rfl rfl (fun K hK => ?_) (fun K hK => ?_)
                        · go_simp
                          refine hK.out _ _ (fun hne => absurd hne (by omega)) ?_
                          clear hK K
                          try simp only [Act.put, List.setIfInBounds_toArray, List.set_cons_zero, List.set_cons_succ]
                          refine wpAnyG_one (i := 12) (by kernel_rfl) rfl (fun K hK => ?_)
                          go_simp
                          refine hK.out _ _ (fun hne => absurd hne (by omega)) ?_
                          clear hK K
                          try simp only [Act.put, List.setIfInBounds_toArray, List.set_cons_zero, List.set_cons_succ]
                          refine wpAnyG_one (i := 13) (by kernel_rfl) rfl (fun K hK => ?_)
                          go_simp
                          refine hK.out _ _ (fun hne => absurd hne (by omega)) ?_
                          clear hK K
                          try simp only [Act.put, List.setIfInBounds_toArray, List.set_cons_zero, List.set_cons_succ]
                          refine wpAnyG_done (by kernel_rfl) ?_ _
                          go_wp2_with fail
                          go_roundw
                          case rel => exact ⟨j + 1, _, _, r2, l0 ++ [x], by go_num, HAPP.out _ (.inl rfl), by rw [List.map_append, HQ0.out]; simp, by rw [List.length_append, HL0.out]; rfl, HREST.out, by omega, by have := HLEN2.out; omega⟩
                          case measure => simp [intOf]; omega
                        · go_simp
                          refine hK.out _ _ (fun hne => absurd hne (by omega)) ?_
                          clear hK K
                          try simp only [Act.put, List.setIfInBounds_toArray, List.set_cons_zero, List.set_cons_succ]
                          refine wpAnyG_two (i := 10) (j := 13) (by kernel_rfl) rfl rfl (fun K hK => ?_) (fun K hK => ?_)
                          · go_simp
                            refine hK.out _ _ (fun hne => absurd hne (by omega)) ?_
                            clear hK K
                            try simp only [Act.put, List.setIfInBounds_toArray, List.set_cons_zero, List.set_cons_succ]
                            refine wpAnyG_one (i := 13) (by kernel_rfl) rfl (fun K hK => ?_)
                            go_simp
                            refine hK.out _ _ (fun hne => absurd hne (by omega)) ?_
                            clear hK K
                            try simp only [Act.put, List.setIfInBounds_toArray, List.set_cons_zero, List.set_cons_succ]
                            refine wpAnyG_done (by kernel_rfl) ?_ _
                            go_wp2_with fail
                            go_roundw
                            case rel => exact ⟨j + 1, _, _, r2, l0 ++ [x], by go_num, HAPP.out _ (.inl rfl), by rw [List.map_append, HQ0.out]; simp, by rw [List.length_append, HL0.out]; rfl, HREST.out, by omega, by have := HLEN2.out; omega⟩
                            case measure => simp [intOf]; omega
                          · go_simp
                            refine hK.out _ _ (fun hne => absurd hne (by omega)) ?_
                            clear hK K
                            try simp only [Act.put, List.setIfInBounds_toArray, List.set_cons_zero, List.set_cons_succ]
                            refine wpAnyG_one (i := 10) (by kernel_rfl) rfl (fun K hK => ?_)
                            go_simp
                            refine hK.out _ _ (fun hne => absurd hne (by omega)) ?_
                            clear hK K
                            try simp only [Act.put, List.setIfInBounds_toArray, List.set_cons_zero, List.set_cons_succ]
                            refine wpAnyG_done (by kernel_rfl) ?_ _
                            go_wp2_with fail
                            go_roundw
                            case rel => exact ⟨j + 1, _, _, r2, l0 ++ [x], by go_num, HAPP.out _ (.inr rfl), by rw [List.map_append, HQ0.out]; simp, by rw [List.length_append, HL0.out]; rfl, HREST.out, by omega, by have := HLEN2.out; omega⟩
                            case measure => simp [intOf]; omega
                    · go_simp
                      refine hK.out _ _ (fun hne => absurd hne (by omega)) ?_
                      clear hK K
                      try simp only [Act.put, List.setIfInBounds_toArray, List.set_cons_zero, List.set_cons_succ]
                      refine wpAnyG_two (i := 9) (j := 12) (by kernel_rfl) rfl rfl (fun K hK => ?_) (fun K hK => ?_)
                      · go_simp
                        refine hK.out _ _ (fun hne => absurd hne (by omega)) ?_
                        clear hK K
                        try simp only [Act.put, List.setIfInBounds_toArray, List.set_cons_zero, List.set_cons_succ]
                        refine wpAnyG_two (i := 10) (j := 12) (by kernel_rfl) rfl rfl (fun K hK => ?_) (fun K hK => ?_)
                        · go_simp
                          refine hK.out _ _ (fun hne => absurd hne (by omega)) ?_
                          clear hK K
                          try simp only [Act.put, List.setIfInBounds_toArray, List.set_cons_zero, List.set_cons_succ]
                          refine wpAnyG_one (i := 12) (by kernel_rfl) rfl (fun K hK => ?_)
                          go_simp
                          refine hK.out _ _ (fun hne => absurd hne (by omega)) ?_
                          clear hK K
                          try simp only [Act.put, List.setIfInBounds_toArray, List.set_cons_zero, List.set_cons_succ]
                          refine wpAnyG_one (i := 13) (by kernel_rfl) rfl (fun K hK => ?_)
                          go_simp
                          refine hK.out _ _ (fun hne => absurd hne (by omega)) ?_
                          clear hK K
                          try simp only [Act.put, List.setIfInBounds_toArray, List.set_cons_zero, List.set_cons_succ]
                          refine wpAnyG_done (by kernel_rfl) ?_ _
                          go_wp2_with fail
                          go_roundw
                          case rel => exact ⟨j + 1, _, _, r2, l0 ++ [x], by go_num, HAPP.out _ (.inl rfl), by rw [List.map_append, HQ0.out]; simp, by rw [List.length_append, HL0.out]; rfl, HREST.out, by omega, by have := HLEN2.out; omega⟩
                          case measure => simp [intOf]; omega
                        · go_simp
                          refine hK.out _ _ (fun hne => absurd hne (by omega)) ?_
                          clear hK K
                          try simp only [Act.put, List.setIfInBounds_toArray, List.set_cons_zero, List.set_cons_succ]
                          refine wpAnyG_two (i := 10) (j := 13) (by kernel_rfl) rfl rfl (fun K hK => ?_) (fun K hK => ?_)
                          · go_simp
                            refine hK.out _ _ (fun hne => absurd hne (by omega)) ?_
                            clear hK K
                            try simp only [Act.put, List.setIfInBounds_toArray, List.set_cons_zero, List.set_cons_succ]
                            refine wpAnyG_one (i := 13) (by kernel_rfl) rfl (fun K hK => ?_)
                            go_simp
                            refine hK.out _ _ (fun hne => absurd hne (by omega)) ?_
                            clear hK K
                            try simp only [Act.put, List.setIfInBounds_toArray, List.set_cons_zero, List.set_cons_succ]
                            refine wpAnyG_done (by kernel_rfl) ?_ _
                            go_wp2_with fail
                            go_roundw
                            case rel => exact ⟨j + 1, _, _, r2, l0 ++ [x], by go_num, HAPP.out _ (.inl rfl), by rw [List.map_append, HQ0.out]; simp, by rw [List.length_append, HL0.out]; rfl, HREST.out, by omega, by have := HLEN2.out; omega⟩
                            case measure => simp [intOf]; omega
                          · go_simp
                            refine hK.out _ _ (fun hne => absurd hne (by omega)) ?_
                            clear hK K
                            try simp only [Act.put, List.setIfInBounds_toArray, List.set_cons_zero, List.set_cons_succ]
                            refine wpAnyG_one (i := 10) (by kernel_rfl) rfl (fun K hK => ?_)
                            go_simp
                            refine hK.out _ _ (fun hne => absurd hne (by omega)) ?_
                            clear hK K
                            try simp only [Act.put, List.setIfInBounds_toArray, List.set_cons_zero, List.set_cons_succ]
                            refine wpAnyG_done (by kernel_rfl) ?_ _
                            go_wp2_with fail
                            go_roundw
                            case rel => exact ⟨j + 1, _, _, r2, l0 ++ [x], by go_num, HAPP.out _ (.inr rfl), by rw [List.map_append, HQ0.out]; simp, by rw [List.length_append, HL0.out]; rfl, HREST.out, by omega, by have := HLEN2.out; omega⟩
                            case measure => simp [intOf]; omega
                      · go_simp
                        refine hK.out _ _ (fun hne => absurd hne (by omega)) ?_
                        clear hK K
                        try simp only [Act.put, List.setIfInBounds_toArray, List.set_cons_zero, List.set_cons_succ]
                        refine wpAnyG_two (i := 9) (j := 13) (by kernel_rfl) rfl rfl (fun K hK => ?_) (fun K hK => ?_)
                        · go_simp
                          refine hK.out _ _ (fun hne => absurd hne (by omega)) ?_
                          clear hK K
                          try simp only [Act.put, List.setIfInBounds_toArray, List.set_cons_zero, List.set_cons_succ]
                          refine wpAnyG_two (i := 10) (j := 13) (by kernel_rfl) rfl rfl (fun K hK => ?_) (fun K hK => ?_)
                          · go_simp
                            refine hK.out _ _ (fun hne => absurd hne (by omega)) ?_
                            clear hK K
                            try simp only [Act.put, List.setIfInBounds_toArray, List.set_cons_zero, List.set_cons_succ]
                            refine wpAnyG_one (i := 13) (by kernel_rfl) rfl (fun K hK => ?_)
                            go_simp
                            refine hK.out _ _ (fun hne => absurd hne (by omega)) ?_
                            clear hK K
                            try simp only [Act.put, List.setIfInBounds_toArray, List.set_cons_zero, List.set_cons_succ]
                            refine wpAnyG_done (by kernel_rfl) ?_ _
                            go_wp2_with fail
                            go_roundw
                            case rel => exact ⟨j + 1, _, _, r2, l0 ++ [x], by go_num, HAPP.out _ (.inl rfl), by rw [List.map_append, HQ0.out]; simp, by rw [List.length_append, HL0.out]; rfl, HREST.out, by omega, by have := HLEN2.out; omega⟩
                            case measure => simp [intOf]; omega
                          · go_simp
                            refine hK.out _ _ (fun hne => absurd hne (by omega)) ?_
                            clear hK K
                            try simp only [Act.put, List.setIfInBounds_toArray, List.set_cons_zero, List.set_cons_succ]
                            refine wpAnyG_one (i := 10) (by kernel_rfl) rfl (fun K hK => ?_)
                            go_simp
                            refine hK.out _ _ (fun hne => absurd hne (by omega)) ?_
                            clear hK K
                            try simp only [Act.put, List.setIfInBounds_toArray, List.set_cons_zero, List.set_cons_succ]
                            refine wpAnyG_done (by kernel_rfl) ?_ _
                            go_wp2_with fail
                            go_roundw
                            case rel => exact ⟨j + 1, _, _, r2, l0 ++ [x], by go_num, HAPP.out _ (.inr rfl), by rw [List.map_append, HQ0.out]; simp, by rw [List.length_append, HL0.out]; rfl, HREST.out, by omega, by have := HLEN2.out; omega⟩
                            case measure => simp [intOf]; omega
                        · go_simp
                          refine hK.out _ _ (fun hne => absurd hne (by omega)) ?_
                          clear hK K
                          try simp only [Act.put, List.setIfInBounds_toArray, List.set_cons_zero, List.set_cons_succ]
                          refine wpAnyG_one (i := 9) (by kernel_rfl) rfl (fun K hK => ?_)
                          go_simp
                          refine hK.out _ _ (fun hne => absurd hne (by omega)) ?_
                          clear hK K
                          try simp only [Act.put, List.setIfInBounds_toArray, List.set_cons_zero, List.set_cons_succ]
                          refine wpAnyG_one (i := 10) (by kernel_rfl) rfl (fun K hK => ?_)
                          go_simp
                          refine hK.out _ _ (fun hne => absurd hne (by omega)) ?_
                          clear hK K
                          try simp only [Act.put, List.setIfInBounds_toArray, List.set_cons_zero, List.set_cons_succ]
                          refine wpAnyG_done (by kernel_rfl) ?_ _
                          go_wp2_with fail
                          go_roundw
                          case rel => exact ⟨j + 1, _, _, r2, l0 ++ [x], by go_num, HAPP.out _ (.inr rfl), by rw [List.map_append, HQ0.out]; simp, by rw [List.length_append, HL0.out]; rfl, HREST.out, by omega, by have := HLEN2.out; omega⟩
                          case measure => simp [intOf]; omega
          · have hjt' : j = tn := by omega
            subst hjt'
            have hRe : R = .ok ((nm, i.isSome, i.toList ++ l0), ts') := by rw [HREJ.out, ← HTN.out]; exact takeRest_end
            have HRE := Lib.hid hRe
            clear hRe
            go_wp2
            first | go_end0 | refine bodyPost_ret (results_none rfl _ _ _) rfl ?_
            rw [HRE.out]
            exact ⟨rfl, qs, v, HQ0.out, by rw [HNMM.out]; exact HAJ.out⟩
end Go.Proofs.YtgiioflkclkioaaGreatDoor
