/- Expressions, once sums are read. -/
import Derived.Test.YtgiioflkclkioaaGreatDoorRq
set_option linter.unusedSimpArgs false
set_option linter.unusedVariables false
namespace Go.Proofs.YtgiioflkclkioaaGreatDoor
open Go.RowKit Ieee

theorem pe_fin {b g n d : Nat} {w w2 W : World} {e : Ex} {p : Option Addr} {r : List Tk} {en : Ending} (hn : w.heap.size ≤ n) (hb : b ≠ n) (hg : g ≠ n) (h13 : 13 ≤ w.heap.size) (hk : Kx (· = b) w w2) (hp : Px w2 (fun i => n < i ∧ i < w2.heap.size) e p) (hr : Rdr w2 b g r d)
    (hW : W = (((w2.setCell ⟨n, 0, none⟩ (.string (opB e))).setCell ⟨n, 1, none⟩ (.complex .f64 (nxB e) (nyB e))).setCell ⟨n, 2, none⟩ (.string (nmB e))).setCell ⟨n, 3, none⟩ (.slice p (npB e) (npB e)))
    (he : en = .returned (exv e p)) : PE b g w d (.ok (e, r)) en W := by
  subst hW he
  have k2 : Kx (fun i => i = n) w2 ((((w2.setCell ⟨n, 0, none⟩ (.string (opB e))).setCell ⟨n, 1, none⟩ (.complex .f64 (nxB e) (nyB e))).setCell ⟨n, 2, none⟩ (.string (nmB e))).setCell ⟨n, 3, none⟩ (.slice p (npB e) (npB e))) := kx_set4 (X := fun i => i = n) (Kx.refl _ _) (.inl rfl) _ _ _ _
  refine ⟨p, rfl, ?_, hr.kx k2 hb hg (fun i hi => by omega), kx_set4 hk (.inr hn) _ _ _ _⟩
  exact hp.on (Same.kx k2 fun i hi => ⟨hi.2, by omega⟩) (fun i hi => ⟨by omega, by simp only [World.size_setCell]; omega⟩)

set_option maxRecDepth 100000 in
set_option maxHeartbeats 3200000 in
theorem expr_any (f : Nat) (one : List Tk → Rd Ex) (he : Eats one) (hone : ExOk 213 f (sumP one)) : ExOk 198 f (exprP one) := by
  intro b g ts d w hrd hok hf
  have hst := store_cx
  have hfT := fldT
  have HOK := Lib.hid hok
  have HONE := Lib.hid hone
  have HE := Lib.hid (sumP_eats he)
  have hbw : b < w.heap.size := hrd.lt
  have hgw : g < w.heap.size := hrd.1
  have hlo : 13 ≤ b := by obtain ⟨_, _, _, R⟩ := hrd; exact R.lo
  have hlow : 13 ≤ w.heap.size := hrd.lkk.sz
  obtain ⟨R, hR⟩ : ∃ R, exprP one ts = R := ⟨_, rfl⟩
  rw [hR]
  have HR := Lib.hid hR
  have H1 := Lib.hid (fun o => hone b g ts d (w.alloc o) (hrd.on (below_alloc _ _)) hok hf)
  clear hrd hok hone he hR
  cases h1 : sumP one ts with
  | error er =>
    obtain ⟨p, c⟩ := er
    have hRe : R = .error (p, c) := by rw [← HR.out, exprP, h1]
    subst hRe
    rw [h1] at H1
    clear h1
    unfold PE at H1 ⊢
    simp only at H1 ⊢
    unfold pan at H1 ⊢
    go_enter Tryz.func198, Tryz.ntmps198
    go_wp2_with fail
    refine (H1.out _).mono ?_
    rintro e w1 ⟨rfl, hk⟩
    have HK := Lib.hid hk
    clear hk
    go_wp2
    exact ⟨rfl, rfl, (Kx.of (below_alloc _ _)).tr HK.out⟩
  | ok q =>
    obtain ⟨e, r⟩ := q
    have hx := HE.out _ _ _ HOK.out h1
    have HX := Lib.hid hx
    obtain ⟨t, r1, rfl⟩ := hx.1.ne
    have hres : R = match opE t.text with
        | none => .ok (e, t :: r1)
        | some k => match sumP one r1 with
          | .error er => .error er
          | .ok (x, r') => .ok (.two k e x, r') := by
      rw [← HR.out, exprP, h1]
      rfl
    have HRES := Lib.hid hres
    rw [h1] at H1
    have hrl := hx.2
    simp only [List.length_cons] at hrl
    clear h1 hres hx
    unfold PE at H1
    simp only at H1
    go_enter Tryz.func198, Tryz.ntmps198
    go_wp2_with fail
    refine (H1.out _).mono ?_
    rintro en w1 ⟨p, rfl, hpx, hrd, hk⟩
    obtain ⟨n, hn⟩ : ∃ n, w.heap.size = n := ⟨_, rfl⟩
    have HWN := Lib.hid hn
    have hnb : w1.heap[n]? = some (.cells zex 159 (0, 0)) := by
      rw [← hn, hk.block w.heap.size (by simp) (by omega)]; exact heap_alloc_new _ _
    obtain ⟨m, hm⟩ : ∃ m, w1.heap.size = m := ⟨_, rfl⟩
    have hnm : n < m := by have := lt_of_row hnb; omega
    obtain ⟨wr, hwr⟩ : ∃ wr, w1.alloc (.cells (exb e p) 159) = wr := ⟨_, rfl⟩
    have HRD : Hid (Rdr wr b g (t :: r1) d) := Lib.hid (by rw [← hwr]; exact hrd.on (below_alloc _ _))
    have HKX : Hid (Kx (· = b) w wr) := Lib.hid (by rw [← hwr]; exact ((Kx.of (below_alloc _ _)).tr hk).alloc _)
    have HNB0 : Hid (wr.heap[n]? = some (.cells zex 159 (0, 0))) := Lib.hid (by rw [← hwr, Below.heap_alloc _ _ _ (by omega)]; exact hnb)
    have HM0 : Hid (wr.heap[m]? = some (.cells (exb e p) 159 (0, 0))) := Lib.hid (by rw [← hwr]; exact alloc_at hm _)
    have HPX0 : Hid (Px wr (fun i => n < i ∧ i ≠ m ∧ i < wr.heap.size) e p) := Lib.hid (by
      rw [← hwr]
      refine hpx.on (Same.below (below_alloc _ _) (fun g hg => hg.2)) (fun g hg => ?_)
      obtain ⟨h1, h2⟩ := hg
      simp at h1
      simp
      omega)
    unfold exb at hwr
    rw [hn] at hbw hgw hlow
    unfold exv
    go_wp2_with fail
    clear hpx hrd hk hnb hwr hm hn H1
    have HNX := Lib.hid (isNext_any b g t r1 d [[61, 61], [33, 61], [60]] wr.heap.size 3 (wr.alloc (.cells #[.string ⟨#[61, 61]⟩, .string ⟨#[33, 61]⟩, .string ⟨#[60]⟩] 9)) (HRD.out.on (below_alloc _ _)) (by simp) (by
      intro i s hs
      have hi := (List.getElem?_eq_some_iff.1 hs).1
      simp only [List.length_cons, List.length_nil] at hi
      rw [row_cell (heap_alloc_new _ _)]
      obtain rfl | rfl | rfl : i = 0 ∨ i = 1 ∨ i = 2 := by omega
      · simp at hs; subst hs; rfl
      · simp at hs; subst hs; rfl
      · simp at hs; subst hs; rfl))
    rw [← opE_mem] at HNX
    simp only [List.length_cons, List.length_nil, Nat.zero_add, Nat.reduceAdd] at HNX
    have hmn : n ≠ m := by omega
    have hmw : m < wr.heap.size := lt_of_row HM0.out
    have hnw : n < wr.heap.size := lt_of_row HNB0.out

    cases hop : opE t.text with
      | none =>
        have hRe : R = .ok (e, t :: r1) := by rw [HRES.out, hop]
        subst hRe
        rw [hop] at HNX
        simp only [Option.isSome_none] at HNX
        clear hop
        refine HNX.out.mono ?_
        rintro e1 w2 ⟨rfl, hb2⟩
        have HB2 := Lib.hid (below_new hb2)
        have HM : Hid (w2.heap[m]? = some (.cells (exb e p) 159 (0, 0))) := Lib.hid ((HB2.out.block m hmw).trans HM0.out)
        have HNB : Hid (w2.heap[n]? = some (.cells zex 159 (0, 0))) := Lib.hid ((HB2.out.block n hnw).trans HNB0.out)
        clear hb2
        have m0 : w2.cell? ⟨m, 0, none⟩ = some (.string (opB e)) := row_cell HM.out
        have m1 : w2.cell? ⟨m, 1, none⟩ = some (.complex .f64 (nxB e) (nyB e)) := row_cell HM.out
        have m2 : w2.cell? ⟨m, 2, none⟩ = some (.string (nmB e)) := row_cell HM.out
        have m3 : w2.cell? ⟨m, 3, none⟩ = some (.slice p (npB e) (npB e)) := row_cell HM.out
        have n0 : w2.cell? ⟨n, 0, none⟩ = some (.string ⟨#[]⟩) := row_cell HNB.out
        have n1 : w2.cell? ⟨n, 1, none⟩ = some (.complex .f64 0 0) := row_cell HNB.out
        have n2 : w2.cell? ⟨n, 2, none⟩ = some (.string ⟨#[]⟩) := row_cell HNB.out
        have n3 : w2.cell? ⟨n, 3, none⟩ = some (.slice none 0 0) := row_cell HNB.out
        have f0 : w2.frozen? ⟨n, 0, none⟩ = false := row_frozen HNB.out
        have f1 : w2.frozen? ⟨n, 1, none⟩ = false := row_frozen HNB.out
        have f2 : w2.frozen? ⟨n, 2, none⟩ = false := row_frozen HNB.out
        have f3 : w2.frozen? ⟨n, 3, none⟩ = false := row_frozen HNB.out
        have HFIN := Lib.hid (fun W en hW he => pe_fin (w := w) (W := W) (en := en) (n := n) (b := b) (g := g) (d := d) (r := t :: r1) (e := e) (p := p) (w2 := w2) (by have := HWN.out; omega) (by omega) (by omega) (by have := HWN.out; omega) (HKX.out.bel HB2.out) (HPX0.out.on (Same.below HB2.out fun g hg => hg.2.2) (fun i hi => ⟨hi.1, Nat.lt_of_lt_of_le hi.2.2 HB2.out.size⟩)) (HRD.out.on HB2.out) hW he)
        unfold exv at HFIN
        clear HM HNB HNX
        generalize opB e = y0 at *
        generalize nxB e = y1 at *
        generalize nyB e = y2 at *
        generalize nmB e = y3 at *
        generalize npB e = y4 at *
        go_wp2
        exact bodyPost_ret (v := .agg #[.string y0, .complex .f64 y1 y2, .string y3, .slice p y4 y4]) (by simp [results, Tryz.results198, go_sem, n0, n1, n2, n3]) rfl (HFIN.out _ _ rfl rfl)
      | some j =>
        have hj := opE_some hop
        have htl1 := HX.out.1.tl (opE_ne hop)
        have HTL := Lib.hid htl1
        have hRe : R = match sumP one r1 with | .error er => .error er | .ok (x, r') => .ok (.two j e x, r') := by rw [HRES.out, hop]
        have HRE := Lib.hid hRe
        have HJ := Lib.hid hj
        rw [hop] at HNX
        simp only [Option.isSome_some] at HNX
        clear hRe hop hj htl1
        have HT := Lib.hid (fun w' (hb : Below wr.heap.size wr w') => take_any b g t r1 d w' (HRD.out.on hb) HTL.out.2.2)
        unfold tv at HT
        rw [← HJ.out.2] at HT
        refine HNX.out.mono ?_
        rintro e1 w2 ⟨rfl, hb2⟩
        have HB2 := Lib.hid (below_new hb2)
        clear hb2
        go_wp2_with fail
        refine (HT.out _ HB2.out).mono ?_
        rintro e1 w3 ⟨rfl, hrd3, hk3⟩
        have HK3 : Hid (Kx (· = b) wr w3) := Lib.hid ((Kx.of HB2.out).tr hk3)
        have HRD3 := Lib.hid hrd3
        have HM : Hid (w3.heap[m]? = some (.cells (exb e p) 159 (0, 0))) := Lib.hid ((HK3.out.block m hmw (by omega)).trans HM0.out)
        have HNB : Hid (w3.heap[n]? = some (.cells zex 159 (0, 0))) := Lib.hid ((HK3.out.block n hnw (by omega)).trans HNB0.out)
        have HPX : Hid (Px w3 (fun g => n < g ∧ g ≠ m ∧ g < w3.heap.size) e p) := Lib.hid (HPX0.out.on (Same.kx HK3.out fun g hg => ⟨hg.2.2, by omega⟩) (fun g hg => ⟨hg.1, hg.2.1, Nat.lt_of_lt_of_le hg.2.2 HK3.out.size⟩))
        have HKW : Hid (Kx (· = b) w w3) := Lib.hid (HKX.out.tr HK3.out)
        clear hk3 hrd3
        have hm3 : m < w3.heap.size := lt_of_row HM.out
        have hn3 : n < w3.heap.size := lt_of_row HNB.out
        have m0 : w3.cell? ⟨m, 0, none⟩ = some (.string (opB e)) := row_cell HM.out
        have m1 : w3.cell? ⟨m, 1, none⟩ = some (.complex .f64 (nxB e) (nyB e)) := row_cell HM.out
        have m2 : w3.cell? ⟨m, 2, none⟩ = some (.string (nmB e)) := row_cell HM.out
        have m3 : w3.cell? ⟨m, 3, none⟩ = some (.slice p (npB e) (npB e)) := row_cell HM.out
        have HO := Lib.hid (HONE.out b g r1 d w3.drew (rdr_drew HRD3.out) HTL.out.1 (by omega))
        have HPR := Lib.hid (fun x p' S w4 hS ha hb => pair_any j e x p p' S w4 hS ha hb)
        have HOB : Hid (∀ x, opB (.two j e x) = ⟨(op2 j).toArray⟩) := Lib.hid (fun _ => rfl)
        generalize (⟨(op2 j).toArray⟩ : ByteArray) = OB at *
        unfold exb at HM
        unfold exv at HPR
        generalize opB e = y0 at *
        generalize nxB e = y1 at *
        generalize nyB e = y2 at *
        generalize nmB e = y3 at *
        generalize npB e = y4 at *
        go_wp2
        refine wp_region_lapse (by kernel_rfl) (fun w' => w'.cell? ⟨m, 0, none⟩ = some (.string y0) ∧ w'.cell? ⟨m, 1, none⟩ = some (.complex .f64 y1 y2) ∧ w'.cell? ⟨m, 2, none⟩ = some (.string y3) ∧ w'.cell? ⟨m, 3, none⟩ = some (.slice p y4 y4)) 5 ?_
        have hS0 : w3.drew.cell? ⟨m, 0, none⟩ = some (.string y0) ∧ w3.drew.cell? ⟨m, 1, none⟩ = some (.complex .f64 y1 y2) ∧ w3.drew.cell? ⟨m, 2, none⟩ = some (.string y3) ∧ w3.drew.cell? ⟨m, 3, none⟩ = some (.slice p y4 y4) := ⟨m0, m1, m2, m3⟩
        refine wpAnyF_take (i := 0) (v := ?v0e) rfl (by kernel_rfl) (by kernel_rfl) (by kernel_rfl) (by kernel_rfl) (fun _ _ _ h => h) (Or.inl ⟨by rfl, ?h0e⟩) hS0 ?_
        case h0e => (intro w hSw; (try dsimp only at hSw); go_simp; try with_reducible rfl)
        simp only [Act.put, List.setIfInBounds_toArray, List.set_cons_zero, List.set_cons_succ]
        refine wpAnyF_take (i := 1) (v := ?v1e) rfl (by kernel_rfl) (by kernel_rfl) (by kernel_rfl) (by kernel_rfl) (fun _ _ _ h => h) (Or.inl ⟨by rfl, ?h1e⟩) hS0 ?_
        case h1e => (intro w hSw; (try dsimp only at hSw); obtain ⟨a0, a1, a2, a3⟩ := hSw; go_simp; try with_reducible rfl)
        simp only [Act.put, List.setIfInBounds_toArray, List.set_cons_zero, List.set_cons_succ]
        refine wpAnyF_take (i := 2) (v := ?v2e) rfl (by kernel_rfl) (by kernel_rfl) (by kernel_rfl) (by kernel_rfl) (fun _ _ _ h => h) (Or.inl ⟨by rfl, ?h2e⟩) hS0 ?_
        case h2e => (intro w hSw; (try dsimp only at hSw); go_simp; try with_reducible rfl)
        simp only [Act.put, List.setIfInBounds_toArray, List.set_cons_zero, List.set_cons_succ]
        clear hS0
        refine wpAnyF_one (i := 3) (by kernel_rfl) rfl (fun K hK => ?_)
        go_simp
        go_at_call 213
        refine HO.out.mono ?_
        cases h1 : sumP one r1 with
        | error er =>
          obtain ⟨pp, cc⟩ := er
          have hRe : R = .error (pp, cc) := by rw [HRE.out, h1]
          subst hRe
          unfold PE pan
          rintro e1 w4 ⟨rfl, hk4⟩
          have HK4 := Lib.hid hk4
          clear hk4
          go_simp
          exact ⟨rfl, rfl, (HKW.out.tr (kx_drew _ _)).tr HK4.out⟩
        | ok xr =>
          obtain ⟨x, r2⟩ := xr
          have hRe : R = .ok (.two j e x, r2) := by rw [HRE.out, h1]
          subst hRe
          clear h1
          unfold PE
          rintro e1 w4 ⟨p2, rfl, hpx4, hrd4, hk4'⟩
          have hk4 : Kx (· = b) w3 w4 := (kx_drew _ _).tr hk4'
          have hm4 : m < w4.heap.size := Nat.lt_of_lt_of_le hm3 hk4.size
          have hn4 : n < w4.heap.size := Nat.lt_of_lt_of_le hn3 hk4.size
          have HRD4 := Lib.hid hrd4
          have HK4 := Lib.hid hk4
          have HA4 : Hid (Px w4 (fun g => n < g ∧ g ≠ m ∧ g < w4.heap.size) e p) := Lib.hid (HPX.out.on (Same.kx hk4 fun g hg => ⟨hg.2.2, by omega⟩) (fun g hg => ⟨hg.1, hg.2.1, Nat.lt_of_lt_of_le hg.2.2 hk4.size⟩))
          have HB4 : Hid (Px w4 (fun g => n < g ∧ g ≠ m ∧ g < w4.heap.size) x p2) := Lib.hid (hpx4.on (fun _ _ _ => rfl) (fun g hg => by
            obtain ⟨h1, h2⟩ := hg
            have h1' : w3.heap.size ≤ g := h1
            omega))
          have hM4 : w4.heap[m]? = some (.cells #[.string y0, .complex .f64 y1 y2, .string y3, .slice p y4 y4] 159 (0, 0)) := (hk4.block m hm3 (by omega)).trans HM.out
          have hS4 : w4.cell? ⟨m, 0, none⟩ = some (.string y0) ∧ w4.cell? ⟨m, 1, none⟩ = some (.complex .f64 y1 y2) ∧ w4.cell? ⟨m, 2, none⟩ = some (.string y3) ∧ w4.cell? ⟨m, 3, none⟩ = some (.slice p y4 y4) := ⟨row_cell hM4, row_cell hM4, row_cell hM4, row_cell hM4⟩
          have HPC := Lib.hid (HPR.out x p2 _ w4 (fun g hg => hg.2.2) HA4.out HB4.out)
          have HM4 := Lib.hid hM4
          have HNB4 : Hid (w4.heap[n]? = some (.cells zex 159 (0, 0))) := Lib.hid ((hk4.block n hn3 (by omega)).trans HNB.out)
          clear hpx4 hrd4 hk4 hk4' hM4
          unfold exv
          generalize opB x = z0 at *
          generalize nxB x = z1 at *
          generalize nyB x = z2 at *
          generalize nmB x = z3 at *
          generalize npB x = z4 at *
          go_simp
          refine hK.out _ _ (fun hne => hS4) ?_
          clear hK K
          try simp only [Act.put, List.setIfInBounds_toArray, List.set_cons_zero, List.set_cons_succ]
          refine wpAnyF_one (i := 4) (by kernel_rfl) rfl (fun K hK => ?_)
          go_simp
          go_at_call 215
          refine HPC.out.mono ?_
          rintro e1 w5 ⟨p5, rfl, hpx5, hb5⟩
          have hM5 : w5.heap[m]? = some (.cells #[.string y0, .complex .f64 y1 y2, .string y3, .slice p y4 y4] 159 (0, 0)) := (hb5.block m hm4).trans HM4.out
          have hS5 : w5.cell? ⟨m, 0, none⟩ = some (.string y0) ∧ w5.cell? ⟨m, 1, none⟩ = some (.complex .f64 y1 y2) ∧ w5.cell? ⟨m, 2, none⟩ = some (.string y3) ∧ w5.cell? ⟨m, 3, none⟩ = some (.slice p y4 y4) := ⟨row_cell hM5, row_cell hM5, row_cell hM5, row_cell hM5⟩
          have HNB : Hid (w5.heap[n]? = some (.cells zex 159 (0, 0))) := Lib.hid ((hb5.block n hn4).trans HNB4.out)
          have n0 : w5.cell? ⟨n, 0, none⟩ = some (.string ⟨#[]⟩) := row_cell HNB.out
          have n1 : w5.cell? ⟨n, 1, none⟩ = some (.complex .f64 0 0) := row_cell HNB.out
          have n2 : w5.cell? ⟨n, 2, none⟩ = some (.string ⟨#[]⟩) := row_cell HNB.out
          have n3 : w5.cell? ⟨n, 3, none⟩ = some (.slice none 0 0) := row_cell HNB.out
          have f0 : w5.frozen? ⟨n, 0, none⟩ = false := row_frozen HNB.out
          have f1 : w5.frozen? ⟨n, 1, none⟩ = false := row_frozen HNB.out
          have f2 : w5.frozen? ⟨n, 2, none⟩ = false := row_frozen HNB.out
          have f3 : w5.frozen? ⟨n, 3, none⟩ = false := row_frozen HNB.out
          have HFIN := Lib.hid (fun W en hW he => pe_fin (w := w) (W := W) (en := en) (n := n) (b := b) (g := g) (d := d) (r := r2) (e := .two j e x) (p := p5) (w2 := w5) (by have := HWN.out; omega) (by omega) (by omega) (by have := HWN.out; omega) ((HKW.out.tr HK4.out).bel hb5) (hpx5.on (fun _ _ _ => rfl) (fun i hi => by
            have := hb5.size
            rcases hi with hi | hi <;> constructor <;> omega)) (HRD4.out.on hb5) hW he)
          clear hpx5 hb5 hM5
          have q1 : opB (.two j e x) = OB := HOB.out x
          have q2 : nxB (.two j e x) = 0 := rfl
          have q3 : nyB (.two j e x) = 0 := rfl
          have q4 : nmB (.two j e x) = ⟨#[]⟩ := rfl
          have q5 : npB (.two j e x) = 2 := rfl
          unfold exv at HFIN
          rw [q1, q2, q3, q4, q5] at HFIN ⊢
          clear q1 q2 q3 q4 q5
          go_simp
          refine hK.out _ _ (fun hne => hS5) ?_
          clear hK K
          try simp only [Act.put, List.setIfInBounds_toArray, List.set_cons_zero, List.set_cons_succ]
          refine wpAnyF_one (i := 5) (by kernel_rfl) rfl (fun K hK => ?_)
          go_simp
          refine hK.out _ _ (fun hne => absurd rfl hne) ?_
          clear hK K
          try simp only [Act.put, List.setIfInBounds_toArray, List.set_cons_zero, List.set_cons_succ]
          refine wpAnyF_done (by kernel_rfl) ?_ _
          go_wp2
          exact bodyPost_ret (v := .agg #[.string OB, .complex .f64 0 0, .string ⟨#[]⟩, .slice p5 2 2]) (by simp [results, Tryz.results198, go_sem, n0, n1, n2, n3]) rfl (HFIN.out _ _ rfl rfl)
end Go.Proofs.YtgiioflkclkioaaGreatDoor
