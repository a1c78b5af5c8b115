/- A statement's expression: read, and not too deep. -/
import Derived.Test.YtgiioflkclkioaaGreatDoorDd
set_option linter.unusedSimpArgs false
set_option linter.unusedVariables false
namespace Go.Proofs.YtgiioflkclkioaaGreatDoor
open Go.RowKit Ieee

theorem dep_eq (e : Ex) : dep e = depth e := by
  induction e with
  | num _ _ => rfl
  | reg _ => rfl
  | one _ a ih => simp [dep, depth, ih]
  | two _ a b iha ihb => simp [dep, depth, iha, ihb]
theorem dep_nd (e : Ex) : dep e ≤ nd e := by
  induction e with
  | num _ _ => simp [dep, nd]
  | reg _ => simp [dep, nd]
  | one _ a ih => simp [dep, nd]; omega
  | two _ a b iha ihb => simp [dep, nd]; omega
/-- No more nodes than tokens were taken. -/
def Few (p : List Tk → Rd Ex) : Prop := ∀ ts x r, p ts = .ok (x, r) → nd x + r.length ≤ ts.length
theorem chainP_few {ops : List UInt8 → Option Nat} {p : List Tk → Rd Ex} (hp : Few p) : ∀ (n : Nat) (e : Ex) (ts : List Tk) (x : Ex) (r : List Tk), chainP ops p n e ts = .ok (x, r) → nd x + r.length ≤ nd e + ts.length := by
  intro n
  induction n with
  | zero =>
    intro e ts x r he
    cases ts with
    | nil => rw [chainP] at he; injection he with he; injection he with h1 h2; subst h1 h2; simp
    | cons t ts =>
      rw [chainP] at he
      · injection he with he; injection he with h1 h2; subst h1 h2; exact Nat.le_refl _
      · simp
  | succ n ih =>
    intro e ts x r he
    cases ts with
    | nil => rw [chainP] at he; injection he with he; injection he with h1 h2; subst h1 h2; simp
    | cons t ts =>
      rw [chainP] at he
      split at he
      · injection he with he; injection he with h1 h2; subst h1 h2; exact Nat.le_refl _
      · split at he
        · cases he
        · rename_i y r1 hy
          have h1 := hp _ _ _ hy
          have h2 := ih _ _ _ _ he
          simp only [nd, List.length_cons] at h2 ⊢
          omega
theorem prodP_few {one : List Tk → Rd Ex} (hp : Few one) : Few (prodP one) := by
  intro ts x r e
  unfold prodP at e
  split at e
  · cases e
  · rename_i y r1 hy
    have h1 := hp _ _ _ hy
    have h2 := chainP_few hp _ _ _ _ _ e
    omega
theorem sumP_few {one : List Tk → Rd Ex} (hp : Few one) : Few (sumP one) := by
  intro ts x r e
  unfold sumP at e
  split at e
  · cases e
  · rename_i y r1 hy
    have h1 := prodP_few hp _ _ _ hy
    have h2 := chainP_few (prodP_few hp) _ _ _ _ _ e
    omega
theorem exprP_few {one : List Tk → Rd Ex} (hp : Few one) : Few (exprP one) := by
  intro ts x r e
  unfold exprP at e
  split at e
  · cases e
  · rename_i y hy
    injection e with e; injection e with h1 h2; subst h1 h2
    exact sumP_few hp _ _ _ hy
  · rename_i y t r1 hy
    have h1 := sumP_few hp _ _ _ hy
    split at e
    · injection e with e; injection e with h1 h2; subst h1 h2; exact sumP_few hp _ _ _ hy
    · split at e
      · cases e
      · rename_i z r2 hz
        injection e with e; injection e with h3 h4; subst h3 h4
        have h2 := sumP_few hp _ _ _ hz
        simp only [nd, List.length_cons] at h1 ⊢
        omega
theorem oneP_few : ∀ f, Few (oneP f) := by
  intro f
  induction f with
  | zero =>
    intro ts x r e
    cases ts with
    | nil => rw [oneP] at e; cases e
    | cons t ts =>
      rw [oneP] at e
      · cases e
      · simp
  | succ f ih =>
    intro ts x r e
    cases ts with
    | nil => rw [oneP] at e; cases e
    | cons t ts =>
      rw [oneP] at e
      split at e
      · injection e with e; injection e with h1 h2; subst h1 h2; simp [nd]; omega
      · split at e
        · split at e
          · cases e
          · rename_i y r1 hy
            injection e with e; injection e with h1 h2; subst h1 h2
            have := ih _ _ _ hy
            simp only [nd, List.length_cons]; omega
        · split at e
          · split at e
            · cases e
            · rename_i y r1 hy
              split at e
              · cases e
              · rename_i r2 hr
                injection e with e; injection e with h1 h2; subst h1 h2
                have h1 := exprP_few ih _ _ _ hy
                have h2 : r2.length ≤ r1.length := by
                  cases r1 with
                  | nil => rw [must] at hr; cases hr
                  | cons u r1 =>
                    rw [must] at hr
                    split at hr
                    · injection hr with hr; subst hr; simp
                    · cases hr
                simp only [List.length_cons]; omega
          · split at e
            · injection e with e; injection e with h1 h2; subst h1 h2; simp [nd]; omega
            · cases e
theorem exprR_few (f : Nat) : Few (exprP (oneP f)) := exprP_few (oneP_few f)

set_option maxRecDepth 100000 in
set_option maxHeartbeats 3200000 in
theorem whole_any (b g : Nat) (ts : List Tk) (d : Nat) (w : World) (hrd : Rdr w b g ts d) (hok : Okt ts) (hl : ts.length ≤ 20000) : Calls Tryz.prog 184 #[.pointer (some ⟨b, 0, none⟩)] w (PE b g w d (wholeP ts)) := by
  have hst := store_cx
  have hfP := fldP
  have hbw : b < w.heap.size := hrd.lt
  have hgw : g < w.heap.size := hrd.1
  have hlo : 13 ≤ b := by obtain ⟨_, _, _, R⟩ := hrd; exact R.lo
  have hlow : 13 ≤ w.heap.size := hrd.lkk.sz
  have HRD := Lib.hid hrd
  have HX := Lib.hid (fun w' (h : Rdr w' b g ts d) => exprR_any ts.length b g ts d w' h hok (Nat.le_refl _))
  obtain ⟨t, r, hts⟩ := hok.ne
  have hpos : hpos ts = t.pos := by rw [hts]; rfl
  have HN := Lib.hid (fun w' (hb : Below w.heap.size w w') => next_any b g t r d w' (by rw [← hts]; exact hrd.on hb))
  unfold tv at HN
  have hfew := exprR_few ts.length ts
  obtain ⟨n, hn⟩ : ∃ n, w.heap.size = n := ⟨_, rfl⟩
  have HWN := Lib.hid hn
  rw [hn] at hbw hgw hlow
  obtain ⟨w0, hw0⟩ : ∃ w0, w.alloc (.cells #[.string ⟨#[]⟩, .complex .f64 0 0, .string ⟨#[]⟩, .slice none 0 0] 159) = w0 := ⟨_, rfl⟩
  have HB0 : Hid (Below w.heap.size w w0) := Lib.hid (by rw [← hw0]; exact below_alloc _ _)
  have HNB0 : Hid (w0.heap[n]? = some (.cells zex 159 (0, 0))) := Lib.hid (by rw [← hw0]; exact alloc_at hn _)
  have hn0 : n < w0.heap.size := lt_of_row HNB0.out
  unfold wholeP
  clear hrd
  generalize (⟨t.text.toArray⟩ : ByteArray) = TT at *
  cases hx : exprP (oneP ts.length) ts with
  | error er =>
    obtain ⟨pp, cc⟩ := er
    rw [hx] at HX
    unfold PE at HX ⊢
    simp only at HX ⊢
    unfold pan at HX ⊢
    clear hfew hx hts hpos
    go_enter Tryz.func184, Tryz.ntmps184
    go_wp2_with fail
    clear hw0 hn
    refine (HN.out _ HB0.out).mono ?_
    rintro en w1 ⟨rfl, hb1⟩
    have HB1 := Lib.hid (below_tr HB0.out hb1)
    clear hb1
    go_wp2_with fail
    refine (HX.out _ (HRD.out.on HB1.out)).mono ?_
    rintro en w2 ⟨rfl, hk2⟩
    have HK2 := Lib.hid hk2
    clear hk2
    go_wp2
    exact ⟨rfl, rfl, (Kx.of HB1.out).tr HK2.out⟩
  | ok xr =>
    obtain ⟨x, r1⟩ := xr
    rw [hx] at HX
    have hnd : nd x ≤ 100000 := by have := hfew _ _ hx; omega
    have hdp : dep x ≤ 100000 := by have := dep_nd x; omega
    have HDE := Lib.hid (dep_eq x)
    have HDP := Lib.hid (fun p w' h => depth_any x p w' h hnd hdp)
    unfold PE at HX
    simp only at HX ⊢
    rw [hpos]
    clear hfew hx hts hpos hnd
    rw [HDE.out] at HDP hdp
    obtain ⟨D, hD⟩ : ∃ D, depth x = D := ⟨_, rfl⟩
    rw [hD] at HDP hdp ⊢
    clear hD HDE
    by_cases h12 : 12 < D
    · rw [if_pos h12]
      have h12' : (12 : Int) < (D : Int) := by omega
      unfold PE pan
      go_enter Tryz.func184, Tryz.ntmps184
      go_wp2_with fail
      clear hw0 hn
      refine (HN.out _ HB0.out).mono ?_
      rintro en w1 ⟨rfl, hb1⟩
      have HB1 := Lib.hid (below_tr HB0.out hb1)
      clear hb1
      go_wp2_with fail
      refine (HX.out _ (HRD.out.on HB1.out)).mono ?_
      rintro en w2 ⟨p, rfl, hpx, hrd2, hk2⟩
      have HK2 := Lib.hid hk2
      have HPX := Lib.hid hpx
      have HDC := Lib.hid (HDP.out p (w2.alloc (.cells (exb x p) 159)) (hpx.on (Same.below (below_alloc _ _) fun i hi => hi.2) (fun i hi => by have := hi.2; simp; omega)))
      unfold exb exv at HDC
      unfold exv
      clear hrd2 hk2 hpx
      generalize opB x = z0 at *
      generalize nxB x = z1 at *
      generalize nyB x = z2 at *
      generalize nmB x = z3 at *
      generalize npB x = z4 at *
      go_wp2_with fail
      refine HDC.out.mono ?_
      rintro en w3 ⟨rfl, hb3⟩
      have HB3 := Lib.hid (below_new hb3)
      clear hb3
      go_wp2
      exact ⟨rfl, rfl, ((Kx.of HB1.out).tr HK2.out).bel HB3.out⟩
    · rw [if_neg h12]
      have h12' : ¬ (12 : Int) < (D : Int) := by omega
      go_enter Tryz.func184, Tryz.ntmps184
      go_wp2_with fail
      clear hw0 hn
      refine (HN.out _ HB0.out).mono ?_
      rintro en w1 ⟨rfl, hb1⟩
      have HB1 := Lib.hid hb1
      clear hb1
      go_wp2_with fail
      refine (HX.out _ (HRD.out.on (below_tr HB0.out HB1.out))).mono ?_
      rintro en w2 ⟨p, rfl, hpx, hrd2, hk2⟩
      obtain ⟨m, hm⟩ : ∃ m, w2.heap.size = m := ⟨_, rfl⟩
      have k02 : Kx (· = b) w0 w2 := (Kx.of HB1.out).tr hk2
      have hz : w0.heap.size ≤ w1.heap.size := HB1.out.size
      have hz2 : w1.heap.size ≤ w2.heap.size := hk2.size
      have hnm : n < m := by omega
      have HNB2 : Hid (w2.heap[n]? = some (.cells zex 159 (0, 0))) := Lib.hid ((k02.block n hn0 (by omega)).trans HNB0.out)
      have HDC := Lib.hid (HDP.out p (w2.alloc (.cells (exb x p) 159)) (hpx.on (Same.below (below_alloc _ _) fun i hi => hi.2) (fun i hi => by have := hi.2; simp; omega)))
      have HFI : Hid (∀ w3, Below (w2.alloc (.cells (exb x p) 159)).heap.size (w2.alloc (.cells (exb x p) 159)) w3 → w3.heap[m]? = some (.cells (exb x p) 159 (0, 0)) ∧ w3.heap[n]? = some (.cells zex 159 (0, 0)) ∧ ∀ W en, W = (((w3.setCell ⟨n, 0, none⟩ (.string (opB x))).setCell ⟨n, 1, none⟩ (.complex .f64 (nxB x) (nyB x))).setCell ⟨n, 2, none⟩ (.string (nmB x))).setCell ⟨n, 3, none⟩ (.slice p (npB x) (npB x)) → en = .returned (exv x p) → PE b g w d (.ok (x, r1)) en W) := Lib.hid (fun w3 h3 => by
        have hb : Below w2.heap.size w2 w3 := below_new h3
        refine ⟨by rw [← hm]; exact nb_row h3, (hb.block n (by omega)).trans HNB2.out, fun W en hW he => ?_⟩
        refine pe_fin (n := n) (w2 := w3) (by have := HWN.out; omega) (by omega) (by omega) (by have := HWN.out; omega) (((Kx.of HB0.out).tr k02).bel hb) ?_ (hrd2.on hb) hW he
        exact hpx.on (Same.below hb fun i hi => hi.2) (fun i hi => ⟨by have := hi.1; omega, Nat.lt_of_lt_of_le hi.2 hb.size⟩))
      unfold exb exv at HDC
      unfold exb exv at HFI
      unfold exv
      clear hrd2 hk2 hpx k02
      generalize opB x = z0 at *
      generalize nxB x = z1 at *
      generalize nyB x = z2 at *
      generalize nmB x = z3 at *
      generalize npB x = z4 at *
      go_wp2_with fail
      clear hm
      refine HDC.out.mono ?_
      rintro en w3 ⟨rfl, hb3⟩
      obtain ⟨q1, q2, q3⟩ := HFI.out _ hb3
      have HFIN := Lib.hid q3
      have m0 : w3.cell? ⟨m, 0, none⟩ = some (.string z0) := row_cell q1
      have m1 : w3.cell? ⟨m, 1, none⟩ = some (.complex .f64 z1 z2) := row_cell q1
      have m2 : w3.cell? ⟨m, 2, none⟩ = some (.string z3) := row_cell q1
      have m3 : w3.cell? ⟨m, 3, none⟩ = some (.slice p z4 z4) := row_cell q1
      have n0 : w3.cell? ⟨n, 0, none⟩ = some (.string ⟨#[]⟩) := row_cell q2
      have n1 : w3.cell? ⟨n, 1, none⟩ = some (.complex .f64 0 0) := row_cell q2
      have n2 : w3.cell? ⟨n, 2, none⟩ = some (.string ⟨#[]⟩) := row_cell q2
      have n3 : w3.cell? ⟨n, 3, none⟩ = some (.slice none 0 0) := row_cell q2
      have f0 : w3.frozen? ⟨n, 0, none⟩ = false := row_frozen q2
      have f1 : w3.frozen? ⟨n, 1, none⟩ = false := row_frozen q2
      have f2 : w3.frozen? ⟨n, 2, none⟩ = false := row_frozen q2
      have f3 : w3.frozen? ⟨n, 3, none⟩ = false := row_frozen q2
      clear hb3 q1 q2 q3
      go_wp2
      exact bodyPost_ret (v := .agg #[.string z0, .complex .f64 z1 z2, .string z3, .slice p z4 z4]) (by simp [results, Tryz.results184, go_sem, n0, n1, n2, n3]) rfl (HFIN.out _ _ rfl rfl)
end Go.Proofs.YtgiioflkclkioaaGreatDoor
