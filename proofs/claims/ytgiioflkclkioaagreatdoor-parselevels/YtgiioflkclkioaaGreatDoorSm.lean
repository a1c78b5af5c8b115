/- A statement, once blocks are read. -/
import Derived.Test.YtgiioflkclkioaaGreatDoorAg
set_option linter.unusedSimpArgs false
set_option linter.unusedVariables false
namespace Go.Proofs.YtgiioflkclkioaaGreatDoor
open Go.RowKit Ieee

/-- A statement's value. -/
def stv (s : St) (px : Option Addr) (cx : Nat) (pb : Option Addr) (cb : Nat) (pe : Option Addr) (ce : Nat) : Value :=
  .agg #[.int .i64 (s.k : Int), .string ⟨s.rg.toArray⟩, .string ⟨s.nm.toArray⟩, .bool s.ix, .slice px s.xs.length cx, .slice pb s.body.len cb, .slice pe s.els.len ce, .int .i64 (s.ps : Int)]
/-- What stmt does; what block does. -/
def PS (b g : Nat) (w : World) (d : Nat) (R : Rd St) (e : Ending) (w' : World) : Prop :=
  match R with
  | .ok (s, ts) => ∃ px cx pb cb pe ce, e = .returned (stv s px cx pb cb pe ce) ∧ XsV w' (Nw w.heap.size w') s.xs px cx ∧ PtV w' (Nw w.heap.size w') s.body pb cb ∧ PtV w' (Nw w.heap.size w') s.els pe ce ∧ Rdr w' b g ts d ∧ Kx (· = b) w w'
  | .error (p, c) => e = pan p c ∧ Kx (· = b) w w'
def PB (b g : Nat) (w : World) (d : Nat) (R : Rd Pt) (e : Ending) (w' : World) : Prop :=
  match R with
  | .ok (l, ts) => ∃ p c, e = .returned (.slice p l.len c) ∧ PtV w' (Nw w.heap.size w') l p c ∧ Rdr w' b g ts d ∧ Kx (· = b) w w'
  | .error (p, c) => e = pan p c ∧ Kx (· = b) w w'
def BlkC (f d : Nat) (blk : List Tk → Rd Pt) : Prop := ∀ (b g : Nat) (ts : List Tk) (w : World), Rdr w b g ts d → Okt ts → ts.length ≤ f → Calls Tryz.prog 109 #[.pointer (some ⟨b, 0, none⟩)] w (PB b g w d (blk ts))
/-- How far stmt is: n the answer's variable, m the statement's. -/
structure Ms (w wx : World) (b g d n m k : Nat) (rg nm : ByteArray) (ix : Bool) (v pb pe : Value) (a : Nat) (ts : List Tk) : Prop where
  rd : Rdr wx b g ts d
  ok : Okt ts
  kx : Kx (· = b) w wx
  nb : wx.heap[n]? = some (.cells (sbox 0 ⟨#[]⟩ ⟨#[]⟩ false (.slice none 0 0) (.slice none 0 0) (.slice none 0 0) 0) 126 (0, 0))
  mb : wx.heap[m]? = some (.cells (sbox k rg nm ix v pb pe a) 126 (0, 0))
theorem Ms.kb {w wx wy : World} {b g d n m k : Nat} {rg nm : ByteArray} {ix : Bool} {v pb pe : Value} {a : Nat} {ts us : List Tk} (h : Ms w wx b g d n m k rg nm ix v pb pe a ts) (hk : Kx (· = b) wx wy) (hr : Rdr wy b g us d) (ho : Okt us) (hn : n ≠ b) (hm : m ≠ b) : Ms w wy b g d n m k rg nm ix v pb pe a us :=
  ⟨hr, ho, h.kx.tr hk, (hk.block n (lt_of_row h.nb) hn).trans h.nb, (hk.block m (lt_of_row h.mb) hm).trans h.mb⟩
theorem Ms.bel {w wx wy : World} {b g d n m k : Nat} {rg nm : ByteArray} {ix : Bool} {v pb pe : Value} {a : Nat} {ts : List Tk} (h : Ms w wx b g d n m k rg nm ix v pb pe a ts) (hk : Below wx.heap.size wx wy) (hn : n ≠ b) (hm : m ≠ b) : Ms w wy b g d n m k rg nm ix v pb pe a ts :=
  h.kb (Kx.of hk) (h.rd.on hk) h.ok hn hm
theorem Ms.set {w wx : World} {b g d n m k k' : Nat} {rg nm rg' nm' : ByteArray} {ix ix' : Bool} {v pb pe v' pb' pe' : Value} {a : Nat} {ts : List Tk} (h : Ms w wx b g d n m k rg nm ix v pb pe a ts) (hmb : m ≠ b) (hmg : m ≠ g) (hnm : n ≠ m) (hw : w.heap.size ≤ m) (hm13 : 13 ≤ m) (i : Nat) (u : Value)
    (hi : (sbox k rg nm ix v pb pe a).setIfInBounds i u = sbox k' rg' nm' ix' v' pb' pe' a) : Ms w (wx.setCell ⟨m, i, none⟩ u) b g d n m k' rg' nm' ix' v' pb' pe' a ts := by
  have k2 : Kx (fun j => j = m) wx (wx.setCell ⟨m, i, none⟩ u) := Kx.setCell (X := fun j => j = m) (p := ⟨m, i, none⟩) (Kx.refl _ _) (.inl rfl) _
  refine ⟨h.rd.kx k2 (by omega) (by omega) (fun j hj => by omega), h.ok, h.kx.trans k2 (fun j hj e => by omega), ?_, ?_⟩
  · rw [k2.block n (lt_of_row h.nb) hnm]; exact h.nb
  · rw [← hi]
    exact heap_setCell_same _ m i _ 126 u h.mb
theorem Ms.args {w wx wy : World} {b g d n m k : Nat} {rg nm : ByteArray} {ix : Bool} {a : Nat} {ts us : List Tk} {qs : List (Ex × Option Addr)} {v v0 : Value} {nm0 : ByteArray} {ix0 : Bool} (h : Ms w wx b g d n m k rg nm0 ix0 v0 (.slice none 0 0) (.slice none 0 0) a ts) (hA : As wx wy b g m d k rg nm ix a qs v us) (hw : w.heap.size ≤ m) (hnb : n ≠ b) (hnm : n ≠ m) : Ms w wy b g d n m k rg nm ix v (.slice none 0 0) (.slice none 0 0) a us :=
  ⟨hA.rd, hA.ok, h.kx.trans hA.kx (fun i hi e => by rcases e with e | e; exact e; omega), (hA.kx.block n (lt_of_row h.nb) (by omega)).trans h.nb, hA.cb⟩
theorem XsV.nw {B B' : Nat} {X : Nat → Prop} {w w' : World} {xs : List Ex} {p : Option Addr} {c : Nat} (h : XsV w (Nw B w) xs p c) (k : Kx X w w') (hX : ∀ g, B ≤ g → g < w.heap.size → ¬ X g) (hB : B' ≤ B) : XsV w' (Nw B' w') xs p c :=
  h.on (Same.kx k fun g hg => ⟨hg.2, hX g hg.1 hg.2⟩) fun g hg => ⟨Nat.le_trans hB hg.1, Nat.lt_of_lt_of_le hg.2 k.size⟩
theorem PtV.nw {B B' : Nat} {X : Nat → Prop} {w w' : World} {l : Pt} {p : Option Addr} {c : Nat} (h : PtV w (Nw B w) l p c) (k : Kx X w w') (hX : ∀ g, B ≤ g → g < w.heap.size → ¬ X g) (hB : B' ≤ B) : PtV w' (Nw B' w') l p c :=
  h.on (Same.kx k fun g hg => ⟨hg.2, hX g hg.1 hg.2⟩) fun g hg => ⟨Nat.le_trans hB hg.1, Nat.lt_of_lt_of_le hg.2 k.size⟩
theorem PtV.none (w : World) (S : Nat → Prop) : PtV w S .nil Option.none 0 := .inl ⟨rfl, rfl, rfl⟩
/-- Eight cells stored. -/
def set8 (w : World) (n : Nat) (a0 a1 a2 a3 a4 a5 a6 a7 : Value) : World :=
  (((((((w.setCell ⟨n, 0, none⟩ a0).setCell ⟨n, 1, none⟩ a1).setCell ⟨n, 2, none⟩ a2).setCell ⟨n, 3, none⟩ a3).setCell ⟨n, 4, none⟩ a4).setCell ⟨n, 5, none⟩ a5).setCell ⟨n, 6, none⟩ a6).setCell ⟨n, 7, none⟩ a7
theorem kx_set8 {X : Nat → Prop} {a w : World} (h : Kx X a w) {n : Nat} (hp : X n ∨ a.heap.size ≤ n) (a0 a1 a2 a3 a4 a5 a6 a7 : Value) : Kx X a (set8 w n a0 a1 a2 a3 a4 a5 a6 a7) :=
  (((((((h.setCell (p := ⟨n, 0, none⟩) hp _).setCell (p := ⟨n, 1, none⟩) hp _).setCell (p := ⟨n, 2, none⟩) hp _).setCell (p := ⟨n, 3, none⟩) hp _).setCell (p := ⟨n, 4, none⟩) hp _).setCell (p := ⟨n, 5, none⟩) hp _).setCell (p := ⟨n, 6, none⟩) hp _).setCell (p := ⟨n, 7, none⟩) hp _
theorem ps_fin {b g n m d B : Nat} {w wx W : World} {s : St} {px pb pe : Option Addr} {cx cb ce : Nat} {ts : List Tk} {en : Ending} (h : Ms w wx b g d n m s.k ⟨s.rg.toArray⟩ ⟨s.nm.toArray⟩ s.ix (.slice px s.xs.length cx) (.slice pb s.body.len cb) (.slice pe s.els.len ce) s.ps ts)
    (hn : w.heap.size ≤ n) (hb : b ≠ n) (hg : g ≠ n) (h13 : 13 ≤ w.heap.size) (hB : n < B) (hx : XsV wx (Nw B wx) s.xs px cx) (hp : PtV wx (Nw B wx) s.body pb cb) (he : PtV wx (Nw B wx) s.els pe ce)
    (hW : W = set8 wx n (.int .i64 (s.k : Int)) (.string ⟨s.rg.toArray⟩) (.string ⟨s.nm.toArray⟩) (.bool s.ix) (.slice px s.xs.length cx) (.slice pb s.body.len cb) (.slice pe s.els.len ce) (.int .i64 (s.ps : Int)))
    (hen : en = .returned (stv s px cx pb cb pe ce)) : PS b g w d (.ok (s, ts)) en W := by
  subst hW hen
  have k2 : Kx (fun i => i = n) wx (set8 wx n (.int .i64 (s.k : Int)) (.string ⟨s.rg.toArray⟩) (.string ⟨s.nm.toArray⟩) (.bool s.ix) (.slice px s.xs.length cx) (.slice pb s.body.len cb) (.slice pe s.els.len ce) (.int .i64 (s.ps : Int))) := kx_set8 (X := fun i => i = n) (Kx.refl _ _) (.inl rfl) _ _ _ _ _ _ _ _
  exact ⟨px, cx, pb, cb, pe, ce, rfl, hx.nw k2 (fun i hi _ e => by omega) (by omega), hp.nw k2 (fun i hi _ e => by omega) (by omega), he.nw k2 (fun i hi _ e => by omega) (by omega), h.rd.kx k2 hb hg (fun i hi => by omega), kx_set8 h.kx (.inr hn) _ _ _ _ _ _ _ _⟩
/-- Behind the kind; behind the expressions; behind the first block. -/
def st3P (blk : List Tk → Rd Pt) (k : Nat) (rg nm : List UInt8) (ix : Bool) (xs : List Ex) (p : Nat) (r1 : List Tk) : Rd St :=
  if k < 15 then
    match must [59] r1 with
    | .error er => .error er
    | .ok r2 => .ok (⟨k, rg, nm, ix, xs, .nil, .nil, p⟩, r2)
  else
    match blk r1 with
    | .error er => .error er
    | .ok (b, []) => .ok (⟨k, rg, nm, ix, xs, b, .nil, p⟩, [])
    | .ok (b, t :: r2) =>
      if k = 15 ∧ t.text = elseW then
        match blk r2 with
        | .error er => .error er
        | .ok (e, r3) => .ok (⟨k, rg, nm, ix, xs, b, e, p⟩, r3)
      else .ok (⟨k, rg, nm, ix, xs, b, .nil, p⟩, t :: r2)
def st2P (blk : List Tk → Rd Pt) (k : Nat) (rg : List UInt8) (p : Nat) (r : List Tk) : Rd St :=
  match argsP k r with
  | .error er => .error er
  | .ok ((nm, ix, xs), r1) => st3P blk k rg nm ix xs p r1
theorem stP_eq (blk : List Tk → Rd Pt) (ts : List Tk) : stP blk ts = match kindP ts with
    | .error er => .error er
    | .ok ((k, rg), r) => st2P blk k rg (hpos ts) r := rfl
theorem kindP_eq (t : Tk) (r : List Tk) : kindP (t :: r) = match kindOf t.text with
    | some k => if gives k then .error (hpos r, 9) else .ok ((k, []), r)
    | none => match nameP (t :: r) with
      | .error er => .error er
      | .ok (rg, r1) => match must [61] r1 with
        | .error er => .error er
        | .ok r2 => match givenP r2 with
          | .error er => .error er
          | .ok (k, r3) => .ok ((k, rg), r3) := by
  rw [kindP]
  cases kindOf t.text with
  | some k => rfl
  | none =>
    simp only
    cases nameP (t :: r) with
    | error er => rfl
    | ok q =>
      obtain ⟨rg, r1⟩ := q
      simp only
      cases must [61] r1 with
      | error er => rfl
      | ok r2 =>
        cases r2 with
        | nil => rfl
        | cons u r2 =>
          simp only [givenP]
          cases kindOf u.text with
          | none => rfl
          | some k =>
            simp only
            cases gives k <;> rfl
theorem kindP_lt {ts r : List Tk} {k : Nat} {rg : List UInt8} (h : kindP ts = .ok ((k, rg), r)) : k < 17 := by
  cases ts with
  | nil => rw [kindP] at h; cases h
  | cons t r0 =>
    rw [kindP] at h
    split at h
    · rename_i k' hk
      split at h
      · cases h
      · injection h with h; injection h with h1 h2; injection h1 with h1 h3; subst h1; exact (kindOf_some hk).2.1
    · split at h
      · cases h
      · split at h
        · cases h
        · cases h
        · split at h
          · injection h with h; injection h with h1 h2; injection h1 with h1 h3; subst h1; omega
          · rename_i k' hk
            split at h
            · injection h with h; injection h with h1 h2; injection h1 with h1 h3; subst h1; exact (kindOf_some hk).2.1
            · cases h

set_option maxRecDepth 100000 in
set_option maxHeartbeats 6400000 in
theorem stmt_any (f d : Nat) (blk : List Tk → Rd Pt) (heat : Eats blk) (hblk : BlkC f d blk) (b g : Nat) (ts : List Tk) (w : World) (hrd : Rdr w b g ts d) (hok : Okt ts) (hf : ts.length ≤ f + 1) (hl : ts.length ≤ 20000) :
    Calls Tryz.prog 143 #[.pointer (some ⟨b, 0, none⟩)] w (PS b g w d (stP blk ts)) := by
  have hfP := fldP
  have hfT := fldT
  have hbw : b < w.heap.size := hrd.lt
  have hgw : g < w.heap.size := hrd.1
  have hlo : 13 ≤ b := by obtain ⟨_, _, _, R⟩ := hrd; exact R.lo
  have hlow : 13 ≤ w.heap.size := hrd.lkk.sz
  have HOK := Lib.hid hok
  have HBLK := Lib.hid hblk
  have HEAT := Lib.hid heat
  obtain ⟨t, r, hts⟩ := hok.ne
  subst hts
  have HN := Lib.hid (fun w' (hb : Below w.heap.size w w') => next_any b g t r d w' (hrd.on hb))
  have HKO := Lib.hid (fun w' (hb : Below w.heap.size w w') => kindOf_any t.text w' (hrd.lkk.on hb))
  unfold tv at HN
  have HRD := Lib.hid hrd
  obtain ⟨R, hR⟩ : ∃ R, stP blk (t :: r) = R := ⟨_, rfl⟩
  rw [hR]
  have HR := Lib.hid hR
  obtain ⟨n, hn⟩ : ∃ n, w.heap.size = n := ⟨_, rfl⟩
  have HWN := Lib.hid hn
  rw [hn] at hbw hgw hlow
  obtain ⟨w0, hw0⟩ : ∃ w0, w.alloc (.cells #[.int .i64 0, .string ⟨#[]⟩, .string ⟨#[]⟩, .bool false, .slice none 0 0, .slice none 0 0, .slice none 0 0, .int .i64 0] 126) = w0 := ⟨_, rfl⟩
  have HB0 : Hid (Below w.heap.size w w0) := Lib.hid (by rw [← hw0]; exact below_alloc _ _)
  have HNB0 : Hid (w0.heap[n]? = some (.cells (sbox 0 ⟨#[]⟩ ⟨#[]⟩ false (.slice none 0 0) (.slice none 0 0) (.slice none 0 0) 0) 126 (0, 0))) := Lib.hid (by rw [← hw0]; exact alloc_at hn _)
  have hn0 : n < w0.heap.size := lt_of_row HNB0.out
  clear hrd hok hblk heat hR
  obtain ⟨TT, hTT⟩ : ∃ TT : ByteArray, (⟨t.text.toArray⟩ : ByteArray) = TT := ⟨_, rfl⟩
  rw [hTT] at HN HKO
  have HTT := Lib.hid hTT
  clear hTT
  go_enter Tryz.func143, Tryz.ntmps143
  go_wp2_with fail
  clear hw0 hn
  refine (HN.out _ HB0.out).mono ?_
  rintro en w1 ⟨rfl, hb1⟩
  obtain ⟨m, hm⟩ : ∃ m, w1.heap.size = m := ⟨_, rfl⟩
  have hnm : n < m := by have := hb1.size; omega
  obtain ⟨w2, hw2⟩ : ∃ w2, w1.alloc (.cells #[.int .i64 0, .string ⟨#[]⟩, .string ⟨#[]⟩, .bool false, .slice none 0 0, .slice none 0 0, .slice none 0 0, .int .i64 (t.pos : Int)] 126) = w2 := ⟨_, rfl⟩
  have HB2 : Hid (Below w.heap.size w w2) := Lib.hid (by rw [← hw2]; exact below_tr (below_tr HB0.out hb1) (below_alloc _ _))
  have HM2 : Hid (Ms w w2 b g d n m 0 ⟨#[]⟩ ⟨#[]⟩ false (.slice none 0 0) (.slice none 0 0) (.slice none 0 0) t.pos (t :: r)) := Lib.hid (by
    refine ⟨HRD.out.on HB2.out, HOK.out, Kx.of HB2.out, ?_, by rw [← hw2]; exact alloc_at hm _⟩
    rw [← hw2, Below.heap_alloc _ _ _ (by omega), hb1.block n hn0]
    exact HNB0.out)
  have hm2 : m < w2.heap.size := lt_of_row HM2.out.mb
  clear hb1
  go_wp2_with fail
  clear hw2 hm
  refine (HN.out _ HB2.out).mono ?_
  rintro en w3 ⟨rfl, hb3⟩
  have HB3 := Lib.hid (below_tr HB2.out hb3)
  have HM3 := Lib.hid (HM2.out.bel hb3 (by omega) (by omega))
  clear hb3
  go_wp2_with fail
  refine (HKO.out _ HB3.out).mono ?_
  rintro en w3' ⟨rfl, rfl⟩
  obtain ⟨Kv, okv, hKv⟩ : ∃ (Kv : Int) (okv : Bool), KoR (kindOf t.text) = .tuple #[.int .i64 Kv, .bool okv] := by
    obtain ⟨x, hx⟩ := KoR_fst (kindOf t.text)
    exact ⟨_, _, hx⟩
  have HKV := Lib.hid hKv
  rw [hKv]
  clear hKv
  go_upto_if 17 with (fail)
  go_cut [] (fun wx => ∃ k rg r1, Ms w wx b g d n m k ⟨(rg : List UInt8).toArray⟩ ⟨#[]⟩ false (.slice none 0 0) (.slice none 0 0) (.slice none 0 0) t.pos r1 ∧ kindP (t :: r) = .ok ((k, rg), r1) ∧ k < 17 ∧ r1.length < (t :: r).length)
  case first =>
    cases hk : kindOf t.text with
    | some k =>
      have hkv := HKV.out
      rw [hk] at hkv
      injection hkv with hkv
      simp only [Array.mk.injEq, List.cons.injEq, Value.int.injEq, Value.bool.injEq, true_and, and_true] at hkv
      obtain ⟨rfl, rfl⟩ := hkv
      have hk17 := kindOf_some hk
      have htl := HOK.out.tl (kindOf_ne hk)
      have HTL := Lib.hid htl
      cases hg : gives k with
      | true =>
        have hRe : R = .error (hpos r, 9) := by rw [← HR.out, stP_eq, kindP_eq, hk]; simp only [hg, if_true]
        have HTK := Lib.hid (takeKind_no b g t r d k false w3 HM3.out.rd htl.1 hk17.2.1 hg)
        subst hRe
        unfold pan at HTK
        clear hk hg hk17 htl
        go_wp2_with fail
        refine HTK.out.mono ?_
        rintro en w4 ⟨rfl, hk4⟩
        have HK4 := Lib.hid hk4
        clear hk4
        go_wp2
        exact ⟨rfl, rfl, HM3.out.kx.tr HK4.out⟩
      | false =>
        have hRe : kindP (t :: r) = .ok ((k, []), r) := by rw [kindP_eq, hk]; simp only [hg, Bool.false_eq_true, if_false]
        have HKP := Lib.hid hRe
        have HTK := Lib.hid (takeKind_yes b g t r d k false w3 HM3.out.rd htl.2.2 hk17.2.1 hg)
        have hk17' := hk17.2.1
        clear hk hg hk17 htl hRe
        go_wp2_with fail
        refine HTK.out.mono ?_
        rintro en w4 ⟨rfl, hrd4, hk4⟩
        have HM4 := Lib.hid (HM3.out.kb hk4 hrd4 HTL.out.1 (by omega) (by omega))
        have e0 : w4.cell? ⟨m, 0, none⟩ = some (.int .i64 0) := row_cell HM4.out.mb
        have q0 : w4.frozen? ⟨m, 0, none⟩ = false := row_frozen HM4.out.mb
        clear hrd4 hk4
        go_wp2_with fail
        go_meet
        exact ⟨k, [], r, HM4.out.set (by omega) (by omega) (by omega) (by have := HWN.out; omega) (by omega) 0 (.int .i64 (k : Int)) rfl, HKP.out, hk17', by simp⟩
    | none =>
      have hkv := HKV.out
      rw [hk] at hkv
      injection hkv with hkv
      simp only [Array.mk.injEq, List.cons.injEq, Value.int.injEq, Value.bool.injEq, true_and, and_true] at hkv
      obtain ⟨rfl, rfl⟩ := hkv
      cases hnn : isNm t with
      | false =>
        have hRe : R = .error (t.pos, 1) := by rw [← HR.out, stP_eq, kindP_eq, hk]; simp only [nameP, hnn, Bool.false_eq_true, if_false]
        have HMN := Lib.hid (mustName_no b g t r d w3 HM3.out.rd hnn)
        subst hRe
        unfold pan at HMN
        clear hk hnn
        go_wp2_with fail
        refine HMN.out.mono ?_
        rintro en w4 ⟨rfl, hb4⟩
        have HB4 := Lib.hid hb4
        clear hb4
        go_wp2
        exact ⟨rfl, rfl, HM3.out.kx.bel HB4.out⟩
      | true =>
        have htl := HOK.out.tl (isNm_ne HOK.out hnn)
        have HTL := Lib.hid htl
        have HKP0 : Hid (kindP (t :: r) = match must [61] r with
            | .error er => .error er
            | .ok r2 => match givenP r2 with
              | .error er => .error er
              | .ok (k, r3) => .ok ((k, t.text), r3)) := Lib.hid (by rw [kindP_eq, hk]; simp only [nameP, hnn, if_true])
        have HMN := Lib.hid (mustName_yes b g t r d w3 HM3.out.rd htl.2.2 hnn)
        rw [HTT.out] at HMN
        clear hk hnn htl
        obtain ⟨u, r1, hu⟩ := HTL.out.1.ne
        subst hu
        go_wp2_with fail
        refine HMN.out.mono ?_
        rintro en w4 ⟨rfl, hrd4, hk4⟩
        have HM4 := Lib.hid (HM3.out.kb hk4 hrd4 HTL.out.1 (by omega) (by omega))
        have e0 : w4.cell? ⟨m, 1, none⟩ = some (.string ⟨#[]⟩) := row_cell HM4.out.mb
        have q0 : w4.frozen? ⟨m, 1, none⟩ = false := row_frozen HM4.out.mb
        clear hrd4 hk4
        obtain ⟨w5, hw5⟩ : ∃ w5, w4.setCell ⟨m, 1, none⟩ (.string TT) = w5 := ⟨_, rfl⟩
        have HM5 : Hid (Ms w w5 b g d n m 0 TT ⟨#[]⟩ false (.slice none 0 0) (.slice none 0 0) (.slice none 0 0) t.pos (u :: r1)) := Lib.hid (by rw [← hw5]; exact HM4.out.set (by omega) (by omega) (by omega) (by have := HWN.out; omega) (by omega) 1 (.string TT) rfl)
        by_cases hu : u.text = [61]
        · have htl2 := HTL.out.1.tl (by rw [hu]; simp)
          have HTL2 := Lib.hid htl2
          have HMU := Lib.hid (must_yes b g u r1 d [61] w5 HM5.out.rd htl2.2.2 hu)
          have HKP1 : Hid (kindP (t :: u :: r1) = match givenP r1 with
              | .error er => .error er
              | .ok (k, r3) => .ok ((k, t.text), r3)) := Lib.hid (by rw [HKP0.out, must, if_pos hu])
          clear hu htl2
          go_wp2_with fail
          clear hw5 e0 q0
          refine HMU.out.mono ?_
          rintro en w6 ⟨rfl, hrd6, hk6⟩
          have HM6 := Lib.hid (HM5.out.kb hk6 hrd6 HTL2.out.1 (by omega) (by omega))
          have HGV := Lib.hid (given_any b g r1 d w6 hrd6 HTL2.out.1)
          clear hrd6 hk6
          cases hgv : givenP r1 with
          | error er =>
            obtain ⟨pp, cc⟩ := er
            have hRe : R = .error (pp, cc) := by rw [← HR.out, stP_eq, HKP1.out, hgv]
            rw [hgv] at HGV
            subst hRe
            unfold GvR at HGV
            simp only at HGV
            unfold pan at HGV
            clear hgv
            go_wp2_with fail
            refine HGV.out.mono ?_
            rintro en w7 ⟨rfl, hk7⟩
            have HK7 := Lib.hid hk7
            clear hk7
            go_wp2
            exact ⟨rfl, rfl, HM6.out.kx.tr HK7.out⟩
          | ok kr =>
            obtain ⟨k, r3⟩ := kr
            have hKP : kindP (t :: u :: r1) = .ok ((k, t.text), r3) := by rw [HKP1.out, hgv]
            have HKP := Lib.hid hKP
            have HE := Lib.hid (kindP_eats _ _ _ HOK.out hKP)
            rw [hgv] at HGV
            unfold GvR at HGV
            simp only at HGV
            clear hgv hKP
            go_wp2_with fail
            refine HGV.out.mono ?_
            rintro en w7 ⟨rfl, hrd7, hk7⟩
            have HM7 := Lib.hid (HM6.out.kb hk7 hrd7 HE.out.1 (by omega) (by omega))
            have e0 : w7.cell? ⟨m, 0, none⟩ = some (.int .i64 0) := row_cell HM7.out.mb
            have q0 : w7.frozen? ⟨m, 0, none⟩ = false := row_frozen HM7.out.mb
            clear hrd7 hk7
            go_wp2_with fail
            go_meet
            exact ⟨k, t.text, r3, by rw [HTT.out]; exact HM7.out.set (by omega) (by omega) (by omega) (by have := HWN.out; omega) (by omega) 0 (.int .i64 (k : Int)) rfl, HKP.out, kindP_lt HKP.out, HE.out.2⟩
        · have hRe : R = .error (u.pos, 1) := by rw [← HR.out, stP_eq, HKP0.out, must, if_neg hu]
          have HMU := Lib.hid (must_no b g u r1 d [61] w5 HM5.out.rd hu)
          subst hRe
          unfold pan at HMU
          clear hu
          go_wp2_with fail
          clear hw5 e0 q0
          refine HMU.out.mono ?_
          rintro en w6 ⟨rfl, hb6⟩
          have HB6 := Lib.hid hb6
          clear hb6
          go_wp2
          exact ⟨rfl, rfl, HM5.out.kx.bel HB6.out⟩
  case rest =>
    obtain ⟨k, rg, r1, hM, hkp, hk17, hr1⟩ := hcut
    have HM := Lib.hid hM
    have hRe : R = st2P blk k rg t.pos r1 := by rw [← HR.out, stP_eq, hkp]; rfl
    have HRE := Lib.hid hRe
    clear hM hkp hRe HM3 HM2 HKV HKO HN
    obtain ⟨RG, hRG⟩ : ∃ RG : ByteArray, (⟨rg.toArray⟩ : ByteArray) = RG := ⟨_, rfl⟩
    rw [hRG] at HM
    have HRG := Lib.hid hRG
    clear hRG
    simp only [List.length_cons] at hf hl hr1
    have HAG := Lib.hid (args_any b g m r1 d k RG t.pos wc HM.out.rd HM.out.ok (by omega) hk17 (by omega) (by omega) (by omega) HM.out.mb)
    have hmc : m < wc.heap.size := lt_of_row HM.out.mb
    cases hag : argsP k r1 with
    | error er =>
      obtain ⟨pp, cc⟩ := er
      have hRe : R = .error (pp, cc) := by rw [HRE.out, st2P, hag]
      rw [hag] at HAG
      subst hRe
      unfold AgR at HAG
      simp only at HAG
      unfold pan at HAG
      clear hag
      go_wp2_with fail
      refine HAG.out.mono ?_
      rintro en w4 ⟨rfl, hk4⟩
      have HK4 := Lib.hid hk4
      clear hk4
      go_wp2
      exact ⟨rfl, rfl, HM.out.kx.trans HK4.out (fun i hi e => by have := HWN.out; rcases e with e | e; exact e; omega)⟩
    | ok ar =>
      obtain ⟨⟨nm, ix, xs⟩, r2⟩ := ar
      have HRE2 : Hid (R = st3P blk k rg nm ix xs t.pos r2) := Lib.hid (by rw [HRE.out, st2P, hag])
      have hae := (argsP_eats k HM.out.ok hag).2
      rw [hag] at HAG
      unfold AgR at HAG
      simp only at HAG
      clear hag
      go_wp2_with fail
      refine HAG.out.mono ?_
      rintro en w4 ⟨rfl, qs, v, hq, hA⟩
      obtain ⟨px, cx, hv, hxs⟩ := hA.xq.read
      rw [hq] at hv hxs
      subst hv
      obtain ⟨NMB, hNMB⟩ : ∃ NMB : ByteArray, (⟨nm.toArray⟩ : ByteArray) = NMB := ⟨_, rfl⟩
      rw [hNMB] at hA
      have HNMB := Lib.hid hNMB
      have HM4 := Lib.hid (HM.out.args hA (by have := HWN.out; omega) (by omega) (by omega))
      have HXS := Lib.hid hxs
      have hz4 : wc.heap.size ≤ w4.heap.size := hA.kx.size
      obtain ⟨xn, hxn⟩ : ∃ xn, xs.length = xn := ⟨_, rfl⟩
      rw [hxn] at HM4
      have HXN := Lib.hid hxn
      clear hA hq hxs hNMB hxn
      have e0 : w4.cell? ⟨m, 0, none⟩ = some (.int .i64 (k : Int)) := row_cell HM4.out.mb
      by_cases hk15 : k < 15
      · have hRe0 : R = match must [59] r2 with | .error er => .error er | .ok r3 => .ok (⟨k, rg, nm, ix, xs, .nil, .nil, t.pos⟩, r3) := by rw [HRE2.out, st3P, if_pos hk15]
        have hn15 : ((k : Int) != 15) = true := by simp; omega
        have hn16 : ((k : Int) != 16) = true := by simp; omega
        obtain ⟨u, r3, hu⟩ := HM4.out.ok.ne
        subst hu
        by_cases hu : u.text = [59]
        · have hRe : R = .ok (⟨k, rg, nm, ix, xs, .nil, .nil, t.pos⟩, r3) := by rw [hRe0, must, if_pos hu]
          have htl := HM4.out.ok.tl (by rw [hu]; simp)
          have HTL := Lib.hid htl
          have HMU := Lib.hid (must_yes b g u r3 d [59] w4 HM4.out.rd htl.2.2 hu)
          subst hRe
          clear hRe0 hu htl
          go_wp2_with fail
          refine HMU.out.mono ?_
          rintro en w5 ⟨rfl, hrd5, hk5⟩
          have HM5 := Lib.hid (HM4.out.kb hk5 hrd5 HTL.out.1 (by omega) (by omega))
          have HXS5 : Hid (XsV w5 (Nw wc.heap.size w5) xs px cx) := Lib.hid (HXS.out.nw hk5 (fun i hi _ e => by omega) (Nat.le_refl _))
          clear hrd5 hk5
          have HNB := Lib.hid HM5.out.nb
          have n0 : w5.cell? ⟨n, 0, none⟩ = some (.int .i64 0) := row_cell HNB.out
          have f0 : w5.frozen? ⟨n, 0, none⟩ = false := row_frozen HNB.out
          have n1 : w5.cell? ⟨n, 1, none⟩ = some (.string ⟨#[]⟩) := row_cell HNB.out
          have f1 : w5.frozen? ⟨n, 1, none⟩ = false := row_frozen HNB.out
          have n2 : w5.cell? ⟨n, 2, none⟩ = some (.string ⟨#[]⟩) := row_cell HNB.out
          have f2 : w5.frozen? ⟨n, 2, none⟩ = false := row_frozen HNB.out
          have n3 : w5.cell? ⟨n, 3, none⟩ = some (.bool false) := row_cell HNB.out
          have f3 : w5.frozen? ⟨n, 3, none⟩ = false := row_frozen HNB.out
          have n4 : w5.cell? ⟨n, 4, none⟩ = some (.slice none 0 0) := row_cell HNB.out
          have f4 : w5.frozen? ⟨n, 4, none⟩ = false := row_frozen HNB.out
          have n5 : w5.cell? ⟨n, 5, none⟩ = some (.slice none 0 0) := row_cell HNB.out
          have f5 : w5.frozen? ⟨n, 5, none⟩ = false := row_frozen HNB.out
          have n6 : w5.cell? ⟨n, 6, none⟩ = some (.slice none 0 0) := row_cell HNB.out
          have f6 : w5.frozen? ⟨n, 6, none⟩ = false := row_frozen HNB.out
          have n7 : w5.cell? ⟨n, 7, none⟩ = some (.int .i64 0) := row_cell HNB.out
          have f7 : w5.frozen? ⟨n, 7, none⟩ = false := row_frozen HNB.out
          have m0 : w5.cell? ⟨m, 0, none⟩ = some (.int .i64 (k : Int)) := row_cell HM5.out.mb
          have m1 : w5.cell? ⟨m, 1, none⟩ = some (.string RG) := row_cell HM5.out.mb
          have m2 : w5.cell? ⟨m, 2, none⟩ = some (.string NMB) := row_cell HM5.out.mb
          have m3 : w5.cell? ⟨m, 3, none⟩ = some (.bool ix) := row_cell HM5.out.mb
          have m4 : w5.cell? ⟨m, 4, none⟩ = some (.slice px xn cx) := row_cell HM5.out.mb
          have m5 : w5.cell? ⟨m, 5, none⟩ = some (.slice none 0 0) := row_cell HM5.out.mb
          have m6 : w5.cell? ⟨m, 6, none⟩ = some (.slice none 0 0) := row_cell HM5.out.mb
          have m7 : w5.cell? ⟨m, 7, none⟩ = some (.int .i64 (t.pos : Int)) := row_cell HM5.out.mb
          have HFIN := Lib.hid (fun W en hW he => ps_fin (w := w) (wx := w5) (W := W) (en := en) (n := n) (m := m) (b := b) (g := g) (d := d) (B := wc.heap.size) (s := ⟨k, rg, nm, ix, xs, .nil, .nil, t.pos⟩) (px := px) (cx := cx) (pb := none) (cb := 0) (pe := none) (ce := 0) (ts := r3)
            (by simp only [HRG.out, HNMB.out, HXN.out]; exact HM5.out) (by have := HWN.out; omega) (by omega) (by omega) (by have := HWN.out; omega) (by omega) HXS5.out (PtV.none _ _) (PtV.none _ _) hW he)
          unfold set8 stv at HFIN
          simp only [Pt.len, HRG.out, HNMB.out, HXN.out] at HFIN
          go_wp2
          exact bodyPost_ret (v := .agg #[.int .i64 (k : Int), .string RG, .string NMB, .bool ix, .slice px xn cx, .slice none 0 0, .slice none 0 0, .int .i64 (t.pos : Int)]) (by simp [results, Tryz.results143, go_sem, n0, n1, n2, n3, n4, n5, n6, n7]) rfl (HFIN.out _ _ rfl rfl)
        · have hRe : R = .error (u.pos, 1) := by rw [hRe0, must, if_neg hu]
          have HMU := Lib.hid (must_no b g u r3 d [59] w4 HM4.out.rd hu)
          clear hRe0
          subst hRe
          unfold pan at HMU
          clear hu
          go_wp2_with fail
          refine HMU.out.mono ?_
          rintro en w5 ⟨rfl, hb5⟩
          have HB5 := Lib.hid hb5
          clear hb5
          go_wp2
          exact ⟨rfl, rfl, HM4.out.kx.bel HB5.out⟩
      · have hRe0 : R = match blk r2 with
            | .error er => .error er
            | .ok (b, []) => .ok (⟨k, rg, nm, ix, xs, b, .nil, t.pos⟩, [])
            | .ok (b, u :: r3) =>
              if k = 15 ∧ u.text = elseW then
                match blk r3 with
                | .error er => .error er
                | .ok (e, r4) => .ok (⟨k, rg, nm, ix, xs, b, e, t.pos⟩, r4)
              else .ok (⟨k, rg, nm, ix, xs, b, .nil, t.pos⟩, u :: r3) := by rw [HRE2.out, st3P, if_neg hk15]
        have HRE3 := Lib.hid hRe0
        clear hRe0
        have HBC := Lib.hid (HBLK.out b g r2 w4 HM4.out.rd HM4.out.ok (by omega))
        have hk2 : (k = 15 ∧ ((k : Int) != 15) = false ∧ ((k : Int) == 15) = true) ∨ (k ≠ 15 ∧ ((k : Int) != 15) = true ∧ ((k : Int) != 16) = false ∧ ((k : Int) == 15) = false) := by
          rcases (by omega : k = 15 ∨ k = 16) with rfl | rfl
          · exact .inl ⟨rfl, rfl, rfl⟩
          · exact .inr ⟨by omega, rfl, rfl, rfl⟩
        cases hbr : blk r2 with
        | error er =>
          obtain ⟨pp, cc⟩ := er
          have hRe : R = .error (pp, cc) := by rw [HRE3.out, hbr]
          rw [hbr] at HBC
          subst hRe
          unfold PB at HBC
          simp only at HBC
          unfold pan at HBC
          clear hbr hk15
          rcases hk2 with ⟨k0, k1, k2⟩ | ⟨k0, k1, k2, k3⟩
          all_goals
            clear k0
            go_wp2_with fail
            refine HBC.out.mono ?_
            rintro en w5 ⟨rfl, hk5⟩
            have HK5 := Lib.hid hk5
            clear hk5
            go_wp2
            exact ⟨rfl, rfl, HM4.out.kx.tr HK5.out⟩
        | ok br =>
          obtain ⟨bd, r3'⟩ := br
          have hbe := HEAT.out _ _ _ HM4.out.ok hbr
          obtain ⟨u, r3, hu⟩ := hbe.1.ne
          subst hu
          have HBE := Lib.hid hbe
          have hRe0 : R = if k = 15 ∧ u.text = elseW then
                match blk r3 with
                | .error er => .error er
                | .ok (e, r4) => .ok (⟨k, rg, nm, ix, xs, bd, e, t.pos⟩, r4)
              else .ok (⟨k, rg, nm, ix, xs, bd, .nil, t.pos⟩, u :: r3) := by rw [HRE3.out, hbr]
          have HRE4 := Lib.hid hRe0
          rw [hbr] at HBC
          unfold PB at HBC
          simp only at HBC
          have hbl := hbe.2
          simp only [List.length_cons] at hbl
          clear hbr hbe hRe0 hk15
          obtain ⟨bn, hbn⟩ : ∃ bn, bd.len = bn := ⟨_, rfl⟩
          rw [hbn] at HBC
          have HBN := Lib.hid hbn
          clear hbn
          have HAFT : Hid (∀ w5 pb cb, PtV w5 (Nw w4.heap.size w5) bd pb cb → Rdr w5 b g (u :: r3) d → Kx (· = b) w4 w5 → Ms w w5 b g d n m k RG NMB ix (.slice px xn cx) (.slice none 0 0) (.slice none 0 0) t.pos (u :: r3) ∧ XsV w5 (Nw wc.heap.size w5) xs px cx ∧ PtV w5 (Nw wc.heap.size w5) bd pb cb) := Lib.hid (fun w5 pb cb hp hr hk => ⟨HM4.out.kb hk hr HBE.out.1 (by omega) (by omega), HXS.out.nw hk (fun i hi _ e => by omega) (Nat.le_refl _), hp.on (fun _ _ _ => rfl) (fun i hi => ⟨by have := hi.1; omega, hi.2⟩)⟩)
          have HSET : Hid (∀ w5 pb cb, Ms w w5 b g d n m k RG NMB ix (.slice px xn cx) (.slice none 0 0) (.slice none 0 0) t.pos (u :: r3) ∧ XsV w5 (Nw wc.heap.size w5) xs px cx ∧ PtV w5 (Nw wc.heap.size w5) bd pb cb → ∀ w6, w5.setCell ⟨m, 5, none⟩ (.slice pb bn cb) = w6 → Ms w w6 b g d n m k RG NMB ix (.slice px xn cx) (.slice pb bn cb) (.slice none 0 0) t.pos (u :: r3) ∧ XsV w6 (Nw wc.heap.size w6) xs px cx ∧ PtV w6 (Nw wc.heap.size w6) bd pb cb) := Lib.hid (by
            rintro w5 pb cb ⟨h1, h2, h3⟩ w6 rfl
            have k2 : Kx (fun j => j = m) w5 (w5.setCell ⟨m, 5, none⟩ (.slice pb bn cb)) := Kx.setCell (X := fun j => j = m) (p := ⟨m, 5, none⟩) (Kx.refl _ _) (.inl rfl) _
            exact ⟨h1.set (by omega) (by omega) (by omega) (by have := HWN.out; omega) (by omega) 5 _ rfl, h2.nw k2 (fun i hi _ e => by omega) (Nat.le_refl _), h3.nw k2 (fun i hi _ e => by omega) (Nat.le_refl _)⟩)
          by_cases hel : k = 15 ∧ u.text = elseW
          · obtain ⟨hk15, hut⟩ := hel
            have hRe0 : R = match blk r3 with
                | .error er => .error er
                | .ok (e, r4) => .ok (⟨k, rg, nm, ix, xs, bd, e, t.pos⟩, r4) := by rw [HRE4.out, if_pos ⟨hk15, hut⟩]
            have HRE5 := Lib.hid hRe0
            have htl := HBE.out.1.tl (by rw [hut]; simp [elseW])
            have HTL := Lib.hid htl
            have HTI := Lib.hid (fun w' h => takeIf_yes b g u r3 d elseW w' h htl.2.2 hut)
            have k1 : ((k : Int) != 15) = false := by simp; omega
            have k2 : ((k : Int) == 15) = true := by simp; omega
            unfold elseW at HTI
            clear hRe0 htl hut hk2 hk15
            go_wp2_with fail
            refine HBC.out.mono ?_
            rintro en w5 ⟨pb, cb, rfl, hp5, hr5, hk5⟩
            have H5 := Lib.hid (HAFT.out w5 pb cb hp5 hr5 hk5)
            have e0' : w5.cell? ⟨m, 0, none⟩ = some (.int .i64 (k : Int)) := row_cell H5.out.1.mb
            have e5 : w5.cell? ⟨m, 5, none⟩ = some (.slice none 0 0) := row_cell H5.out.1.mb
            have q5 : w5.frozen? ⟨m, 5, none⟩ = false := row_frozen H5.out.1.mb
            obtain ⟨w6, hw6⟩ : ∃ w6, w5.setCell ⟨m, 5, none⟩ (.slice pb bn cb) = w6 := ⟨_, rfl⟩
            have H6 := Lib.hid (HSET.out w5 pb cb H5.out w6 hw6)
            have hz6 : wc.heap.size ≤ w6.heap.size := by rw [← hw6]; have := hk5.size; simp; omega
            have e0'' : w6.cell? ⟨m, 0, none⟩ = some (.int .i64 (k : Int)) := row_cell H6.out.1.mb
            clear hp5 hr5 hk5
            go_wp2_with fail
            clear hw6 e5 q5
            refine (HTI.out _ H6.out.1.rd).mono ?_
            rintro en w7 ⟨rfl, hr7, hk7⟩
            have HM7 := Lib.hid (H6.out.1.kb hk7 hr7 HTL.out.1 (by omega) (by omega))
            have HX7 := Lib.hid (H6.out.2.1.nw hk7 (fun i hi _ e => by omega) (Nat.le_refl _))
            have HP7 := Lib.hid (H6.out.2.2.nw hk7 (fun i hi _ e => by omega) (Nat.le_refl _))
            have hz7 : w6.heap.size ≤ w7.heap.size := hk7.size
            have HBC2 := Lib.hid (HBLK.out b g r3 w7 hr7 HTL.out.1 (by omega))
            clear hr7 hk7
            cases hbr2 : blk r3 with
            | error er =>
              obtain ⟨pp, cc⟩ := er
              have hRe : R = .error (pp, cc) := by rw [HRE5.out, hbr2]
              rw [hbr2] at HBC2
              subst hRe
              unfold PB at HBC2
              simp only at HBC2
              unfold pan at HBC2
              clear hbr2
              go_wp2_with fail
              refine HBC2.out.mono ?_
              rintro en w8 ⟨rfl, hk8⟩
              have HK8 := Lib.hid hk8
              clear hk8
              go_wp2
              exact ⟨rfl, rfl, HM7.out.kx.tr HK8.out⟩
            | ok br =>
              obtain ⟨es, r4⟩ := br
              have hRe : R = .ok (⟨k, rg, nm, ix, xs, bd, es, t.pos⟩, r4) := by rw [HRE5.out, hbr2]
              have HOK4 := Lib.hid (HEAT.out _ _ _ HTL.out.1 hbr2).1
              rw [hbr2] at HBC2
              unfold PB at HBC2
              simp only at HBC2
              subst hRe
              clear hbr2
              obtain ⟨en', hen'⟩ : ∃ en', es.len = en' := ⟨_, rfl⟩
              rw [hen'] at HBC2
              have HEN := Lib.hid hen'
              clear hen'
              go_wp2_with fail
              refine HBC2.out.mono ?_
              rintro en w8 ⟨pe, ce, rfl, hp8, hr8, hk8⟩
              have HM8 := Lib.hid (HM7.out.kb hk8 hr8 HOK4.out (by omega) (by omega))
              have HX8 := Lib.hid (HX7.out.nw hk8 (fun i hi _ e => by omega) (Nat.le_refl _))
              have HP8 := Lib.hid (HP7.out.nw hk8 (fun i hi _ e => by omega) (Nat.le_refl _))
              have HE8 : Hid (PtV w8 (Nw wc.heap.size w8) es pe ce) := Lib.hid (hp8.on (fun _ _ _ => rfl) (fun i hi => ⟨by have := hi.1; omega, hi.2⟩))
              have e6 : w8.cell? ⟨m, 6, none⟩ = some (.slice none 0 0) := row_cell HM8.out.mb
              have q6 : w8.frozen? ⟨m, 6, none⟩ = false := row_frozen HM8.out.mb
              obtain ⟨w9, hw9⟩ : ∃ w9, w8.setCell ⟨m, 6, none⟩ (.slice pe en' ce) = w9 := ⟨_, rfl⟩
              have H9 : Hid (Ms w w9 b g d n m k RG NMB ix (.slice px xn cx) (.slice pb bn cb) (.slice pe en' ce) t.pos r4 ∧ XsV w9 (Nw wc.heap.size w9) xs px cx ∧ PtV w9 (Nw wc.heap.size w9) bd pb cb ∧ PtV w9 (Nw wc.heap.size w9) es pe ce) := Lib.hid (by
                rw [← hw9]
                have k2 : Kx (fun j => j = m) w8 (w8.setCell ⟨m, 6, none⟩ (.slice pe en' ce)) := Kx.setCell (X := fun j => j = m) (p := ⟨m, 6, none⟩) (Kx.refl _ _) (.inl rfl) _
                exact ⟨HM8.out.set (by omega) (by omega) (by omega) (by have := HWN.out; omega) (by omega) 6 _ rfl, HX8.out.nw k2 (fun i hi _ e => by omega) (Nat.le_refl _), HP8.out.nw k2 (fun i hi _ e => by omega) (Nat.le_refl _), HE8.out.nw k2 (fun i hi _ e => by omega) (Nat.le_refl _)⟩)
              have HM9 := Lib.hid H9.out.1
              have HX9 := Lib.hid H9.out.2.1
              have HP9 := Lib.hid H9.out.2.2.1
              have HE9 := Lib.hid H9.out.2.2.2
              clear hp8 hr8 hk8
              go_upto_region 15 with (fail)
              clear hw9 e6 q6
              have HNB := Lib.hid HM9.out.nb
              have n0 : w9.cell? ⟨n, 0, none⟩ = some (.int .i64 0) := row_cell HNB.out
              have f0 : w9.frozen? ⟨n, 0, none⟩ = false := row_frozen HNB.out
              have n1 : w9.cell? ⟨n, 1, none⟩ = some (.string ⟨#[]⟩) := row_cell HNB.out
              have f1 : w9.frozen? ⟨n, 1, none⟩ = false := row_frozen HNB.out
              have n2 : w9.cell? ⟨n, 2, none⟩ = some (.string ⟨#[]⟩) := row_cell HNB.out
              have f2 : w9.frozen? ⟨n, 2, none⟩ = false := row_frozen HNB.out
              have n3 : w9.cell? ⟨n, 3, none⟩ = some (.bool false) := row_cell HNB.out
              have f3 : w9.frozen? ⟨n, 3, none⟩ = false := row_frozen HNB.out
              have n4 : w9.cell? ⟨n, 4, none⟩ = some (.slice none 0 0) := row_cell HNB.out
              have f4 : w9.frozen? ⟨n, 4, none⟩ = false := row_frozen HNB.out
              have n5 : w9.cell? ⟨n, 5, none⟩ = some (.slice none 0 0) := row_cell HNB.out
              have f5 : w9.frozen? ⟨n, 5, none⟩ = false := row_frozen HNB.out
              have n6 : w9.cell? ⟨n, 6, none⟩ = some (.slice none 0 0) := row_cell HNB.out
              have f6 : w9.frozen? ⟨n, 6, none⟩ = false := row_frozen HNB.out
              have n7 : w9.cell? ⟨n, 7, none⟩ = some (.int .i64 0) := row_cell HNB.out
              have f7 : w9.frozen? ⟨n, 7, none⟩ = false := row_frozen HNB.out
              have m0 : w9.cell? ⟨m, 0, none⟩ = some (.int .i64 (k : Int)) := row_cell HM9.out.mb
              have m1 : w9.cell? ⟨m, 1, none⟩ = some (.string RG) := row_cell HM9.out.mb
              have m2 : w9.cell? ⟨m, 2, none⟩ = some (.string NMB) := row_cell HM9.out.mb
              have m3 : w9.cell? ⟨m, 3, none⟩ = some (.bool ix) := row_cell HM9.out.mb
              have m4 : w9.cell? ⟨m, 4, none⟩ = some (.slice px xn cx) := row_cell HM9.out.mb
              have m5 : w9.cell? ⟨m, 5, none⟩ = some (.slice pb bn cb) := row_cell HM9.out.mb
              have m6 : w9.cell? ⟨m, 6, none⟩ = some (.slice pe en' ce) := row_cell HM9.out.mb
              have m7 : w9.cell? ⟨m, 7, none⟩ = some (.int .i64 (t.pos : Int)) := row_cell HM9.out.mb
              have HFIN := Lib.hid (fun W en hW he => ps_fin (w := w) (wx := w9) (W := W) (en := en) (n := n) (m := m) (b := b) (g := g) (d := d) (B := wc.heap.size) (s := ⟨k, rg, nm, ix, xs, bd, es, t.pos⟩) (px := px) (cx := cx) (pb := pb) (cb := cb) (pe := pe) (ce := ce) (ts := r4)
                (by simp only [HRG.out, HNMB.out, HXN.out, HBN.out, HEN.out]; exact HM9.out) (by have := HWN.out; omega) (by omega) (by omega) (by have := HWN.out; omega) (by omega) HX9.out HP9.out HE9.out hW he)
              unfold set8 stv at HFIN
              simp only [Pt.len, HRG.out, HNMB.out, HXN.out, HBN.out, HEN.out] at HFIN
              go_wp2
              exact bodyPost_ret (v := .agg #[.int .i64 (k : Int), .string RG, .string NMB, .bool ix, .slice px xn cx, .slice pb bn cb, .slice pe en' ce, .int .i64 (t.pos : Int)]) (by simp [results, Tryz.results143, go_sem, n0, n1, n2, n3, n4, n5, n6, n7]) rfl (HFIN.out _ _ rfl rfl)
          · have hRe : R = .ok (⟨k, rg, nm, ix, xs, bd, .nil, t.pos⟩, u :: r3) := by rw [HRE4.out, if_neg hel]
            subst hRe
            rcases hk2 with ⟨k0, k1, k2⟩ | ⟨k0, k1, k2, k3⟩
            · have hut : u.text ≠ elseW := fun e => hel ⟨k0, e⟩
              have HTI := Lib.hid (fun w' h => takeIf_no b g u r3 d elseW w' h hut)
              unfold elseW at HTI
              clear hel hut k0
              go_wp2_with fail
              refine HBC.out.mono ?_
              rintro en w5 ⟨pb, cb, rfl, hp5, hr5, hk5⟩
              have H5 := Lib.hid (HAFT.out w5 pb cb hp5 hr5 hk5)
              have e5 : w5.cell? ⟨m, 5, none⟩ = some (.slice none 0 0) := row_cell H5.out.1.mb
              have q5 : w5.frozen? ⟨m, 5, none⟩ = false := row_frozen H5.out.1.mb
              obtain ⟨w5', hw6⟩ : ∃ w6, w5.setCell ⟨m, 5, none⟩ (.slice pb bn cb) = w6 := ⟨_, rfl⟩
              have H6 := Lib.hid (HSET.out w5 pb cb H5.out w5' hw6)
              have e0'' : w5'.cell? ⟨m, 0, none⟩ = some (.int .i64 (k : Int)) := row_cell H6.out.1.mb
              clear hp5 hr5 hk5
              go_wp2_with fail
              clear hw6 e5 q5
              refine (HTI.out _ H6.out.1.rd).mono ?_
              rintro en w6 ⟨rfl, hb6⟩
              have HM6 := Lib.hid (H6.out.1.bel hb6 (by omega) (by omega))
              have HX6 := Lib.hid (H6.out.2.1.nw (Kx.of (X := fun _ => False) hb6) (fun i hi _ e => e) (Nat.le_refl _))
              have HP6 := Lib.hid (H6.out.2.2.nw (Kx.of (X := fun _ => False) hb6) (fun i hi _ e => e) (Nat.le_refl _))
              clear hb6
              have HNB := Lib.hid HM6.out.nb
              have n0 : w6.cell? ⟨n, 0, none⟩ = some (.int .i64 0) := row_cell HNB.out
              have f0 : w6.frozen? ⟨n, 0, none⟩ = false := row_frozen HNB.out
              have n1 : w6.cell? ⟨n, 1, none⟩ = some (.string ⟨#[]⟩) := row_cell HNB.out
              have f1 : w6.frozen? ⟨n, 1, none⟩ = false := row_frozen HNB.out
              have n2 : w6.cell? ⟨n, 2, none⟩ = some (.string ⟨#[]⟩) := row_cell HNB.out
              have f2 : w6.frozen? ⟨n, 2, none⟩ = false := row_frozen HNB.out
              have n3 : w6.cell? ⟨n, 3, none⟩ = some (.bool false) := row_cell HNB.out
              have f3 : w6.frozen? ⟨n, 3, none⟩ = false := row_frozen HNB.out
              have n4 : w6.cell? ⟨n, 4, none⟩ = some (.slice none 0 0) := row_cell HNB.out
              have f4 : w6.frozen? ⟨n, 4, none⟩ = false := row_frozen HNB.out
              have n5 : w6.cell? ⟨n, 5, none⟩ = some (.slice none 0 0) := row_cell HNB.out
              have f5 : w6.frozen? ⟨n, 5, none⟩ = false := row_frozen HNB.out
              have n6 : w6.cell? ⟨n, 6, none⟩ = some (.slice none 0 0) := row_cell HNB.out
              have f6 : w6.frozen? ⟨n, 6, none⟩ = false := row_frozen HNB.out
              have n7 : w6.cell? ⟨n, 7, none⟩ = some (.int .i64 0) := row_cell HNB.out
              have f7 : w6.frozen? ⟨n, 7, none⟩ = false := row_frozen HNB.out
              have m0 : w6.cell? ⟨m, 0, none⟩ = some (.int .i64 (k : Int)) := row_cell HM6.out.mb
              have m1 : w6.cell? ⟨m, 1, none⟩ = some (.string RG) := row_cell HM6.out.mb
              have m2 : w6.cell? ⟨m, 2, none⟩ = some (.string NMB) := row_cell HM6.out.mb
              have m3 : w6.cell? ⟨m, 3, none⟩ = some (.bool ix) := row_cell HM6.out.mb
              have m4 : w6.cell? ⟨m, 4, none⟩ = some (.slice px xn cx) := row_cell HM6.out.mb
              have m5 : w6.cell? ⟨m, 5, none⟩ = some (.slice pb bn cb) := row_cell HM6.out.mb
              have m6 : w6.cell? ⟨m, 6, none⟩ = some (.slice none 0 0) := row_cell HM6.out.mb
              have m7 : w6.cell? ⟨m, 7, none⟩ = some (.int .i64 (t.pos : Int)) := row_cell HM6.out.mb
              have HFIN := Lib.hid (fun W en hW he => ps_fin (w := w) (wx := w6) (W := W) (en := en) (n := n) (m := m) (b := b) (g := g) (d := d) (B := wc.heap.size) (s := ⟨k, rg, nm, ix, xs, bd, .nil, t.pos⟩) (px := px) (cx := cx) (pb := pb) (cb := cb) (pe := none) (ce := 0) (ts := u :: r3)
                (by simp only [HRG.out, HNMB.out, HXN.out, HBN.out]; exact HM6.out) (by have := HWN.out; omega) (by omega) (by omega) (by have := HWN.out; omega) (by omega) HX6.out HP6.out (PtV.none _ _) hW he)
              unfold set8 stv at HFIN
              simp only [Pt.len, HRG.out, HNMB.out, HXN.out, HBN.out] at HFIN
              go_wp2
              exact bodyPost_ret (v := .agg #[.int .i64 (k : Int), .string RG, .string NMB, .bool ix, .slice px xn cx, .slice pb bn cb, .slice none 0 0, .int .i64 (t.pos : Int)]) (by simp [results, Tryz.results143, go_sem, n0, n1, n2, n3, n4, n5, n6, n7]) rfl (HFIN.out _ _ rfl rfl)
            · clear hel k0
              go_wp2_with fail
              refine HBC.out.mono ?_
              rintro en w5 ⟨pb, cb, rfl, hp5, hr5, hk5⟩
              have H5 := Lib.hid (HAFT.out w5 pb cb hp5 hr5 hk5)
              have e5 : w5.cell? ⟨m, 5, none⟩ = some (.slice none 0 0) := row_cell H5.out.1.mb
              have q5 : w5.frozen? ⟨m, 5, none⟩ = false := row_frozen H5.out.1.mb
              obtain ⟨w6, hw6⟩ : ∃ w6, w5.setCell ⟨m, 5, none⟩ (.slice pb bn cb) = w6 := ⟨_, rfl⟩
              have H6 := Lib.hid (HSET.out w5 pb cb H5.out w6 hw6)
              have HM6 := Lib.hid H6.out.1
              have HX6 := Lib.hid H6.out.2.1
              have HP6 := Lib.hid H6.out.2.2
              have e0'' : w6.cell? ⟨m, 0, none⟩ = some (.int .i64 (k : Int)) := row_cell H6.out.1.mb
              clear hp5 hr5 hk5
              go_upto_region 15 with (fail)
              clear hw6 e5 q5
              have HNB := Lib.hid HM6.out.nb
              have n0 : w6.cell? ⟨n, 0, none⟩ = some (.int .i64 0) := row_cell HNB.out
              have f0 : w6.frozen? ⟨n, 0, none⟩ = false := row_frozen HNB.out
              have n1 : w6.cell? ⟨n, 1, none⟩ = some (.string ⟨#[]⟩) := row_cell HNB.out
              have f1 : w6.frozen? ⟨n, 1, none⟩ = false := row_frozen HNB.out
              have n2 : w6.cell? ⟨n, 2, none⟩ = some (.string ⟨#[]⟩) := row_cell HNB.out
              have f2 : w6.frozen? ⟨n, 2, none⟩ = false := row_frozen HNB.out
              have n3 : w6.cell? ⟨n, 3, none⟩ = some (.bool false) := row_cell HNB.out
              have f3 : w6.frozen? ⟨n, 3, none⟩ = false := row_frozen HNB.out
              have n4 : w6.cell? ⟨n, 4, none⟩ = some (.slice none 0 0) := row_cell HNB.out
              have f4 : w6.frozen? ⟨n, 4, none⟩ = false := row_frozen HNB.out
              have n5 : w6.cell? ⟨n, 5, none⟩ = some (.slice none 0 0) := row_cell HNB.out
              have f5 : w6.frozen? ⟨n, 5, none⟩ = false := row_frozen HNB.out
              have n6 : w6.cell? ⟨n, 6, none⟩ = some (.slice none 0 0) := row_cell HNB.out
              have f6 : w6.frozen? ⟨n, 6, none⟩ = false := row_frozen HNB.out
              have n7 : w6.cell? ⟨n, 7, none⟩ = some (.int .i64 0) := row_cell HNB.out
              have f7 : w6.frozen? ⟨n, 7, none⟩ = false := row_frozen HNB.out
              have m0 : w6.cell? ⟨m, 0, none⟩ = some (.int .i64 (k : Int)) := row_cell HM6.out.mb
              have m1 : w6.cell? ⟨m, 1, none⟩ = some (.string RG) := row_cell HM6.out.mb
              have m2 : w6.cell? ⟨m, 2, none⟩ = some (.string NMB) := row_cell HM6.out.mb
              have m3 : w6.cell? ⟨m, 3, none⟩ = some (.bool ix) := row_cell HM6.out.mb
              have m4 : w6.cell? ⟨m, 4, none⟩ = some (.slice px xn cx) := row_cell HM6.out.mb
              have m5 : w6.cell? ⟨m, 5, none⟩ = some (.slice pb bn cb) := row_cell HM6.out.mb
              have m6 : w6.cell? ⟨m, 6, none⟩ = some (.slice none 0 0) := row_cell HM6.out.mb
              have m7 : w6.cell? ⟨m, 7, none⟩ = some (.int .i64 (t.pos : Int)) := row_cell HM6.out.mb
              have HFIN := Lib.hid (fun W en hW he => ps_fin (w := w) (wx := w6) (W := W) (en := en) (n := n) (m := m) (b := b) (g := g) (d := d) (B := wc.heap.size) (s := ⟨k, rg, nm, ix, xs, bd, .nil, t.pos⟩) (px := px) (cx := cx) (pb := pb) (cb := cb) (pe := none) (ce := 0) (ts := u :: r3)
                (by simp only [HRG.out, HNMB.out, HXN.out, HBN.out]; exact HM6.out) (by have := HWN.out; omega) (by omega) (by omega) (by have := HWN.out; omega) (by omega) HX6.out HP6.out (PtV.none _ _) hW he)
              unfold set8 stv at HFIN
              simp only [Pt.len, HRG.out, HNMB.out, HXN.out, HBN.out] at HFIN
              go_wp2
              exact bodyPost_ret (v := .agg #[.int .i64 (k : Int), .string RG, .string NMB, .bool ix, .slice px xn cx, .slice pb bn cb, .slice none 0 0, .int .i64 (t.pos : Int)]) (by simp [results, Tryz.results143, go_sem, n0, n1, n2, n3, n4, n5, n6, n7]) rfl (HFIN.out _ _ rfl rfl)
end Go.Proofs.YtgiioflkclkioaaGreatDoor
