/- Products and sums, once what they are made of is read. -/
import Derived.Test.YtgiioflkclkioaaGreatDoorRn
import Derived.Test.YtgiioflkclkioaaGreatDoorHl
import Derived.Deep.RegionHeld3
set_option linter.unusedSimpArgs false
set_option linter.unusedVariables false
namespace Go.Proofs.YtgiioflkclkioaaGreatDoor
open Go.RowKit Ieee

/-- An expression's value in a variable. -/
def exb (e : Ex) (p : Option Addr) : Array Value := #[.string (opB e), .complex .f64 (nxB e) (nyB e), .string (nmB e), .slice p (npB e) (npB e)]
def zex : Array Value := #[.string ⟨#[]⟩, .complex .f64 0 0, .string ⟨#[]⟩, .slice none 0 0]
/-- What holds at the loop's head: n the result's variable, m the expression's. -/
structure Ch (R : Rd Ex) (ops : List UInt8 → Option Nat) (one : List Tk → Rd Ex) (b g d n m : Nat) (w wr : World) (e : Ex) (p : Option Addr) (k : Nat) (ts : List Tk) : Prop where
  rd : Rdr wr b g ts d
  ok : Okt ts
  kx : Kx (· = b) w wr
  nb : wr.heap[n]? = some (.cells zex 159 (0, 0))
  mb : wr.heap[m]? = some (.cells (exb e p) 159 (0, 0))
  px : Px wr (fun g => n < g ∧ g ≠ m ∧ g < wr.heap.size) e p
  res : R = chainP ops one k e ts
  fuel : ts.length ≤ k
/-- Reads as a list of tokens of no more than f. -/
def ExOk (fn : Nat) (f : Nat) (p : List Tk → Rd Ex) : Prop := ∀ (b g : Nat) (ts : List Tk) (d : Nat) (w : World), Rdr w b g ts d → Okt ts → ts.length ≤ f → Calls Tryz.prog fn #[.pointer (some ⟨b, 0, none⟩)] w (PE b g w d (p ts))
/-- Four cells stored into a block of four. -/
theorem blk_set4 {w : World} {g : Nat} {c0 c1 c2 c3 a b c d : Value} {t : TypeId} (h : w.heap[g]? = some (.cells #[c0, c1, c2, c3] t (0, 0))) :
    ((((w.setCell ⟨g, 0, Option.none⟩ a).setCell ⟨g, 1, Option.none⟩ b).setCell ⟨g, 2, Option.none⟩ c).setCell ⟨g, 3, Option.none⟩ d).heap[g]? = some (.cells #[a, b, c, d] t (0, 0)) := by
  rw [heap_setCell_same _ g 3 _ t d (heap_setCell_same _ g 2 _ t c (heap_setCell_same _ g 1 _ t b (heap_setCell_same _ g 0 _ t a h)))]
  rfl
theorem kx_set4 {X : Nat → Prop} {a w : World} (h : Kx X a w) {g : Nat} (hp : X g ∨ a.heap.size ≤ g) (u v x y : Value) : Kx X a ((((w.setCell ⟨g, 0, Option.none⟩ u).setCell ⟨g, 1, Option.none⟩ v).setCell ⟨g, 2, Option.none⟩ x).setCell ⟨g, 3, Option.none⟩ y) :=
  (((h.setCell (p := ⟨g, 0, none⟩) hp _).setCell (p := ⟨g, 1, none⟩) hp _).setCell (p := ⟨g, 2, none⟩) hp _).setCell (p := ⟨g, 3, none⟩) hp _
theorem kx_drew (X : Nat → Prop) (w : World) : Kx X w w.drew := ⟨rfl, rfl, rfl, Nat.le_refl _, fun _ _ _ => rfl⟩
theorem rdr_drew {w : World} {b g d : Nat} {ts : List Tk} (h : Rdr w b g ts d) : Rdr w.drew b g ts d := h.kx (X := fun _ => False) (kx_drew _ w) (fun f => f) (fun f => f) (fun _ _ f => f)
theorem px_drew {w : World} {S : Nat → Prop} {e : Ex} {p : Option Addr} (h : Px w S e p) : Px w.drew S e p := @Px.on S S w w.drew (fun _ _ _ => rfl) (fun _ h => h) e p h

set_option maxRecDepth 100000 in
set_option maxHeartbeats 3200000 in
theorem prod_any (f : Nat) (one : List Tk → Rd Ex) (he : Eats one) (hone : ExOk 222 f one) : ExOk 219 f (prodP one) := by
  intro b g ts d w hrd hok hf
  have hst := store_cx
  have hfT := fldT
  have HOK := Lib.hid hok
  have HONE := Lib.hid hone
  have HE := Lib.hid (id he)
  have hbw : b < w.heap.size := hrd.lt
  have hgw : g < w.heap.size := hrd.1
  have hlo : 13 ≤ b := by obtain ⟨_, _, _, R⟩ := hrd; exact R.lo
  have hlow : 13 ≤ w.heap.size := hrd.lkk.sz
  obtain ⟨R, hR⟩ : ∃ R, prodP one ts = R := ⟨_, rfl⟩
  rw [hR]
  have HR := Lib.hid hR
  have H1 := Lib.hid (fun o => hone b g ts d (w.alloc o) (hrd.on (below_alloc _ _)) hok hf)
  clear hrd hok hone he hR
  cases h1 : one ts with
  | error er =>
    obtain ⟨p, c⟩ := er
    have hRe : R = .error (p, c) := by rw [← HR.out, prodP, h1]
    subst hRe
    rw [h1] at H1
    clear h1
    unfold PE at H1 ⊢
    simp only at H1 ⊢
    unfold pan at H1 ⊢
    go_enter Tryz.func219, Tryz.ntmps219
    go_wp2_with fail
    refine (H1.out _).mono ?_
    rintro e w1 ⟨rfl, hk⟩
    have HK := Lib.hid hk
    clear hk
    go_wp2
    exact ⟨rfl, rfl, (Kx.of (below_alloc _ _)).tr HK.out⟩
  | ok q =>
    obtain ⟨x, r⟩ := q
    have hres : R = chainP opP one r.length x r := by rw [← HR.out, prodP, h1]
    have hx := HE.out _ _ _ HOK.out h1
    have HRES := Lib.hid hres
    have HX := Lib.hid hx
    rw [h1] at H1
    clear h1 hres hx
    unfold PE at H1
    simp only at H1
    go_enter Tryz.func219, Tryz.ntmps219
    go_wp2_with fail
    refine (H1.out _).mono ?_
    rintro e w1 ⟨p, rfl, hpx, hrd, hk⟩
    have hnb : w1.heap[w.heap.size]? = some (.cells zex 159 (0, 0)) := by
      rw [hk.block w.heap.size (by simp) (by omega)]; exact heap_alloc_new _ _
    have hnm : w.heap.size < w1.heap.size := lt_of_row hnb
    have HCH : Hid (Ch R opP one b g d w.heap.size w1.heap.size w (w1.alloc (.cells (exb x p) 159)) x p r.length r) := Lib.hid (by
      refine ⟨hrd.on (below_alloc _ _), HX.out.1, ((Kx.of (below_alloc _ _)).tr hk).alloc _, ?_, heap_alloc_new _ _, ?_, HRES.out, Nat.le_refl _⟩
      · rw [Below.heap_alloc _ _ _ hnm]; exact hnb
      · refine hpx.on (Same.below (below_alloc _ _) (fun g hg => hg.2)) (fun g hg => ?_)
        obtain ⟨h1, h2⟩ := hg
        simp at h1
        simp
        omega)
    clear hpx hrd hk hnb
    have hrl : r.length < f := by have := HX.out.2; omega
    unfold exb at HCH
    unfold exv
    generalize opB x = x0 at *
    generalize nxB x = x1 at *
    generalize nyB x = x2 at *
    generalize nmB x = x3 at *
    generalize npB x = x4 at *
    obtain ⟨m, hm⟩ : ∃ m, w1.heap.size = m := ⟨_, rfl⟩
    obtain ⟨n, hn⟩ : ∃ n, w.heap.size = n := ⟨_, rfl⟩
    have HWN := Lib.hid hn
    rw [hn] at hnm hbw hgw hlow
    rw [hm] at hnm
    rw [hn, hm] at HCH
    go_wp2
    clear hm hn
    go_loopw [] (fun wr => ∃ e p k ts, Ch R opP one b g d n m w wr e p k ts ∧ ts.length ≤ r.length) (fun wr => slen (wr.cell? ⟨b, 0, none⟩))
    case atStart => exact ⟨_, _, _, _, HCH.out, Nat.le_refl _⟩
    case round =>
      obtain ⟨e, q, k, ts, hC, htl⟩ := hrel
      have HC := Lib.hid hC
      obtain ⟨t, r1, rfl⟩ := hC.ok.ne
      have HNX := Lib.hid (isNext_any b g t r1 d [[42]] wr.heap.size 1 (wr.alloc (.cells #[.string ⟨#[42]⟩] 9)) (hC.rd.on (below_alloc _ _)) (by simp) (by
        intro i s hs
        have hi := (List.getElem?_eq_some_iff.1 hs).1
        simp only [List.length_cons, List.length_nil] at hi
        rw [row_cell (heap_alloc_new _ _)]
        obtain rfl : i = 0 := by omega
        simp at hs; subst hs; rfl))
      rw [← opP_mem] at HNX
      simp only [List.length_cons, List.length_nil, Nat.zero_add, Nat.reduceAdd] at HNX
      have hmn : n ≠ m := by omega
      have hmw : m < wr.heap.size := lt_of_row hC.mb
      have hnw : n < wr.heap.size := lt_of_row hC.nb
      have hbr : b < wr.heap.size := hC.rd.lt
      cases hop : opP t.text with
      | none =>
        have hRe : R = .ok (e, t :: r1) := by
          rw [HC.out.res]
          obtain ⟨k', rfl⟩ : ∃ k', k = k' + 1 := ⟨k - 1, by have := HC.out.fuel; simp at this; omega⟩
          rw [chainP, hop]
        have HRE := Lib.hid hRe
        rw [hop] at HNX
        simp only [Option.isSome_none] at HNX
        clear hRe hop hC
        go_wp2_with fail
        refine HNX.out.mono ?_
        rintro e1 w2 ⟨rfl, hb2⟩
        have HB2 := Lib.hid (below_new hb2)
        have HM : Hid (w2.heap[m]? = some (.cells (exb e q) 159 (0, 0))) := Lib.hid ((HB2.out.block m hmw).trans HC.out.mb)
        have HNB : Hid (w2.heap[n]? = some (.cells zex 159 (0, 0))) := Lib.hid ((HB2.out.block n hnw).trans HC.out.nb)
        clear hb2
        have m0 : w2.cell? ⟨m, 0, none⟩ = some (.string (opB e)) := row_cell HM.out
        have m1 : w2.cell? ⟨m, 1, none⟩ = some (.complex .f64 (nxB e) (nyB e)) := row_cell HM.out
        have m2 : w2.cell? ⟨m, 2, none⟩ = some (.string (nmB e)) := row_cell HM.out
        have m3 : w2.cell? ⟨m, 3, none⟩ = some (.slice q (npB e) (npB e)) := row_cell HM.out
        have n0 : w2.cell? ⟨n, 0, none⟩ = some (.string ⟨#[]⟩) := row_cell HNB.out
        have n1 : w2.cell? ⟨n, 1, none⟩ = some (.complex .f64 0 0) := row_cell HNB.out
        have n2 : w2.cell? ⟨n, 2, none⟩ = some (.string ⟨#[]⟩) := row_cell HNB.out
        have n3 : w2.cell? ⟨n, 3, none⟩ = some (.slice none 0 0) := row_cell HNB.out
        have f0 : w2.frozen? ⟨n, 0, none⟩ = false := row_frozen HNB.out
        have f1 : w2.frozen? ⟨n, 1, none⟩ = false := row_frozen HNB.out
        have f2 : w2.frozen? ⟨n, 2, none⟩ = false := row_frozen HNB.out
        have f3 : w2.frozen? ⟨n, 3, none⟩ = false := row_frozen HNB.out
        have HFIN : Hid (∀ W, W = (((w2.setCell ⟨n, 0, none⟩ (.string (opB e))).setCell ⟨n, 1, none⟩ (.complex .f64 (nxB e) (nyB e))).setCell ⟨n, 2, none⟩ (.string (nmB e))).setCell ⟨n, 3, none⟩ (.slice q (npB e) (npB e)) → ∀ en, en = .returned (.agg #[.string (opB e), .complex .f64 (nxB e) (nyB e), .string (nmB e), .slice q (npB e) (npB e)]) → PE b g w d R en W) := Lib.hid (by
          rintro W rfl en rfl
          rw [HRE.out]
          have k1 : Kx (· = b) w w2 := HC.out.kx.bel HB2.out
          have k2 : Kx (fun i => i = n) w2 ((((w2.setCell ⟨n, 0, none⟩ (.string (opB e))).setCell ⟨n, 1, none⟩ (.complex .f64 (nxB e) (nyB e))).setCell ⟨n, 2, none⟩ (.string (nmB e))).setCell ⟨n, 3, none⟩ (.slice q (npB e) (npB e))) := kx_set4 (X := fun i => i = n) (Kx.refl _ _) (.inl rfl) _ _ _ _
          refine ⟨q, rfl, ?_, ?_, kx_set4 k1 (.inr (by have := HWN.out; omega)) _ _ _ _⟩
          · refine Px.on (S := fun g => n < g ∧ g ≠ m ∧ g < wr.heap.size) (w := w2) (Same.kx k2 fun g hg => ⟨Nat.lt_of_lt_of_le hg.2.2 HB2.out.size, by omega⟩) (fun g hg => ⟨by have := HWN.out; omega, by simp only [World.size_setCell]; have := HB2.out.size; omega⟩) ?_
            exact HC.out.px.on (Same.below HB2.out fun g hg => hg.2.2) (fun _ h => h)
          · refine (HC.out.rd.on HB2.out).kx k2 (by omega) (by omega) (fun i hi => by omega))
        clear HM HNB HRE HNX
        generalize opB e = y0 at *
        generalize nxB e = y1 at *
        generalize nyB e = y2 at *
        generalize nmB e = y3 at *
        generalize npB e = y4 at *
        go_wp2
        exact bodyPost_ret (v := .agg #[.string y0, .complex .f64 y1 y2, .string y3, .slice q y4 y4]) (by simp [results, Tryz.results219, go_sem, n0, n1, n2, n3]) rfl (HFIN.out _ rfl _ rfl)
      | some j =>
        have hj := opP_some hop
        have htl1 := hC.ok.tl (opP_ne hop)
        have HTL := Lib.hid htl1
        obtain ⟨k', hk'⟩ : ∃ k', k = k' + 1 := ⟨k - 1, by have := hC.fuel; simp at this; omega⟩
        have hfu := hC.fuel
        simp only [List.length_cons] at hfu htl
        have hRe : R = match one r1 with | .error er => .error er | .ok (x, r') => chainP opP one k' (.two j e x) r' := by
          rw [HC.out.res, hk', chainP, hop]
          rfl
        have HRE := Lib.hid hRe
        have HJ := Lib.hid hj
        rw [hop] at HNX
        simp only [Option.isSome_some] at HNX
        clear hRe hop hj htl1
        have HT := Lib.hid (fun w' (hb : Below wr.heap.size wr w') => take_any b g t r1 d w' (hC.rd.on hb) HTL.out.2.2)
        unfold tv at HT
        rw [← HJ.out.2] at HT
        clear hC
        go_wp2_with fail
        refine HNX.out.mono ?_
        rintro e1 w2 ⟨rfl, hb2⟩
        have HB2 := Lib.hid (below_new hb2)
        clear hb2
        go_wp2_with fail
        refine (HT.out _ HB2.out).mono ?_
        rintro e1 w3 ⟨rfl, hrd3, hk3⟩
        have HK3 : Hid (Kx (· = b) wr w3) := Lib.hid ((Kx.of HB2.out).tr hk3)
        have HRD3 := Lib.hid hrd3
        have HM : Hid (w3.heap[m]? = some (.cells (exb e q) 159 (0, 0))) := Lib.hid ((HK3.out.block m hmw (by omega)).trans HC.out.mb)
        have HNB : Hid (w3.heap[n]? = some (.cells zex 159 (0, 0))) := Lib.hid ((HK3.out.block n hnw (by omega)).trans HC.out.nb)
        have HPX : Hid (Px w3 (fun g => n < g ∧ g ≠ m ∧ g < w3.heap.size) e q) := Lib.hid (HC.out.px.on (Same.kx HK3.out fun g hg => ⟨hg.2.2, by omega⟩) (fun g hg => ⟨hg.1, hg.2.1, Nat.lt_of_lt_of_le hg.2.2 HK3.out.size⟩))
        have HKW : Hid (Kx (· = b) w w3) := Lib.hid (HC.out.kx.tr HK3.out)
        clear hk3 hrd3
        have hm3 : m < w3.heap.size := lt_of_row HM.out
        have hn3 : n < w3.heap.size := lt_of_row HNB.out
        have m0 : w3.cell? ⟨m, 0, none⟩ = some (.string (opB e)) := row_cell HM.out
        have m1 : w3.cell? ⟨m, 1, none⟩ = some (.complex .f64 (nxB e) (nyB e)) := row_cell HM.out
        have m2 : w3.cell? ⟨m, 2, none⟩ = some (.string (nmB e)) := row_cell HM.out
        have m3 : w3.cell? ⟨m, 3, none⟩ = some (.slice q (npB e) (npB e)) := row_cell HM.out
        have HO := Lib.hid (HONE.out b g r1 d w3.drew (rdr_drew HRD3.out) HTL.out.1 (by omega))
        have HPR := Lib.hid (fun x p' S w4 hS ha hb => pair_any j e x q p' S w4 hS ha hb)
        have HOB : Hid (∀ x, opB (.two j e x) = ⟨(op2 j).toArray⟩) := Lib.hid (fun _ => rfl)
        generalize (⟨(op2 j).toArray⟩ : ByteArray) = OB at *
        unfold exb at HM
        unfold exv at HPR
        generalize opB e = y0 at *
        generalize nxB e = y1 at *
        generalize nyB e = y2 at *
        generalize nmB e = y3 at *
        generalize npB e = y4 at *
        go_wp2
        refine wp_region_lapse (by kernel_rfl) (fun w' => w'.cell? ⟨m, 0, none⟩ = some (.string y0) ∧ w'.cell? ⟨m, 1, none⟩ = some (.complex .f64 y1 y2) ∧ w'.cell? ⟨m, 2, none⟩ = some (.string y3) ∧ w'.cell? ⟨m, 3, none⟩ = some (.slice q y4 y4)) 5 ?_
        have hS0 : w3.drew.cell? ⟨m, 0, none⟩ = some (.string y0) ∧ w3.drew.cell? ⟨m, 1, none⟩ = some (.complex .f64 y1 y2) ∧ w3.drew.cell? ⟨m, 2, none⟩ = some (.string y3) ∧ w3.drew.cell? ⟨m, 3, none⟩ = some (.slice q y4 y4) := ⟨m0, m1, m2, m3⟩
        refine wpAnyF_take (i := 0) (v := ?v0prod) rfl (by kernel_rfl) (by kernel_rfl) (by kernel_rfl) (by kernel_rfl) (fun _ _ _ h => h) (Or.inl ⟨by rfl, ?h0prod⟩) hS0 ?_
        case h0prod => (intro w hSw; (try dsimp only at hSw); go_simp; try with_reducible rfl)
        simp only [Act.put, List.setIfInBounds_toArray, List.set_cons_zero, List.set_cons_succ]
        refine wpAnyF_take (i := 1) (v := ?v1prod) rfl (by kernel_rfl) (by kernel_rfl) (by kernel_rfl) (by kernel_rfl) (fun _ _ _ h => h) (Or.inl ⟨by rfl, ?h1prod⟩) hS0 ?_
        case h1prod => (intro w hSw; (try dsimp only at hSw); obtain ⟨a0, a1, a2, a3⟩ := hSw; go_simp; try with_reducible rfl)
        simp only [Act.put, List.setIfInBounds_toArray, List.set_cons_zero, List.set_cons_succ]
        refine wpAnyF_take (i := 2) (v := ?v2prod) rfl (by kernel_rfl) (by kernel_rfl) (by kernel_rfl) (by kernel_rfl) (fun _ _ _ h => h) (Or.inl ⟨by rfl, ?h2prod⟩) hS0 ?_
        case h2prod => (intro w hSw; (try dsimp only at hSw); go_simp; try with_reducible rfl)
        simp only [Act.put, List.setIfInBounds_toArray, List.set_cons_zero, List.set_cons_succ]
        clear hS0
        refine wpAnyF_one (i := 3) (by kernel_rfl) rfl (fun K hK => ?_)
        go_simp
        go_at_call 222
        refine HO.out.mono ?_
        cases h1 : one r1 with
        | error er =>
          obtain ⟨pp, cc⟩ := er
          have hRe : R = .error (pp, cc) := by rw [HRE.out, h1]
          subst hRe
          unfold PE pan
          rintro e1 w4 ⟨rfl, hk4⟩
          have HK4 := Lib.hid hk4
          clear hk4
          go_simp
          exact ⟨rfl, rfl, (HKW.out.tr (kx_drew _ _)).tr HK4.out⟩
        | ok xr =>
          obtain ⟨x, r2⟩ := xr
          have HEAT := Lib.hid (HE.out _ _ _ HTL.out.1 h1)
          have HRES2 : Hid (R = chainP opP one k' (.two j e x) r2) := Lib.hid (by rw [HRE.out, h1])
          clear h1
          unfold PE
          rintro e1 w4 ⟨p2, rfl, hpx4, hrd4, hk4'⟩
          have hk4 : Kx (· = b) w3 w4 := (kx_drew _ _).tr hk4'
          have hm4 : m < w4.heap.size := Nat.lt_of_lt_of_le hm3 hk4.size
          have hn4 : n < w4.heap.size := Nat.lt_of_lt_of_le hn3 hk4.size
          have HRD4 := Lib.hid hrd4
          have HK4 := Lib.hid hk4
          have HA4 : Hid (Px w4 (fun g => n < g ∧ g ≠ m ∧ g < w4.heap.size) e q) := Lib.hid (HPX.out.on (Same.kx hk4 fun g hg => ⟨hg.2.2, by omega⟩) (fun g hg => ⟨hg.1, hg.2.1, Nat.lt_of_lt_of_le hg.2.2 hk4.size⟩))
          have HB4 : Hid (Px w4 (fun g => n < g ∧ g ≠ m ∧ g < w4.heap.size) x p2) := Lib.hid (hpx4.on (fun _ _ _ => rfl) (fun g hg => by
            obtain ⟨h1, h2⟩ := hg
            have h1' : w3.heap.size ≤ g := h1
            omega))
          have hM4 : w4.heap[m]? = some (.cells #[.string y0, .complex .f64 y1 y2, .string y3, .slice q y4 y4] 159 (0, 0)) := (hk4.block m hm3 (by omega)).trans HM.out
          have hS4 : w4.cell? ⟨m, 0, none⟩ = some (.string y0) ∧ w4.cell? ⟨m, 1, none⟩ = some (.complex .f64 y1 y2) ∧ w4.cell? ⟨m, 2, none⟩ = some (.string y3) ∧ w4.cell? ⟨m, 3, none⟩ = some (.slice q y4 y4) := ⟨row_cell hM4, row_cell hM4, row_cell hM4, row_cell hM4⟩
          have HPC := Lib.hid (HPR.out x p2 _ w4 (fun g hg => hg.2.2) HA4.out HB4.out)
          have HM4 := Lib.hid hM4
          clear hpx4 hrd4 hk4 hk4' hM4
          unfold exv
          generalize opB x = z0 at *
          generalize nxB x = z1 at *
          generalize nyB x = z2 at *
          generalize nmB x = z3 at *
          generalize npB x = z4 at *
          go_simp
          refine hK.out _ _ (fun hne => hS4) ?_
          clear hK K
          try simp only [Act.put, List.setIfInBounds_toArray, List.set_cons_zero, List.set_cons_succ]
          refine wpAnyF_one (i := 4) (by kernel_rfl) rfl (fun K hK => ?_)
          go_simp
          go_at_call 215
          refine HPC.out.mono ?_
          rintro e1 w5 ⟨p5, rfl, hpx5, hb5⟩
          have hM5 : w5.heap[m]? = some (.cells #[.string y0, .complex .f64 y1 y2, .string y3, .slice q y4 y4] 159 (0, 0)) := (hb5.block m hm4).trans HM4.out
          have hS5 : w5.cell? ⟨m, 0, none⟩ = some (.string y0) ∧ w5.cell? ⟨m, 1, none⟩ = some (.complex .f64 y1 y2) ∧ w5.cell? ⟨m, 2, none⟩ = some (.string y3) ∧ w5.cell? ⟨m, 3, none⟩ = some (.slice q y4 y4) := ⟨row_cell hM5, row_cell hM5, row_cell hM5, row_cell hM5⟩
          have f0 : w5.frozen? ⟨m, 0, none⟩ = false := row_frozen hM5
          have f1 : w5.frozen? ⟨m, 1, none⟩ = false := row_frozen hM5
          have f2 : w5.frozen? ⟨m, 2, none⟩ = false := row_frozen hM5
          have f3 : w5.frozen? ⟨m, 3, none⟩ = false := row_frozen hM5
          obtain ⟨g0, g1, g2, g3⟩ := id hS5
          have HPX5 := Lib.hid hpx5
          have HB5 := Lib.hid hb5
          have HM5 := Lib.hid hM5
          clear hpx5 hb5 hM5
          have HFIN : Hid (∀ W, W = (((w5.setCell ⟨m, 0, none⟩ (.string (opB (.two j e x)))).setCell ⟨m, 1, none⟩ (.complex .f64 (nxB (.two j e x)) (nyB (.two j e x)))).setCell ⟨m, 2, none⟩ (.string (nmB (.two j e x)))).setCell ⟨m, 3, none⟩ (.slice p5 (npB (.two j e x)) (npB (.two j e x))) → Ch R opP one b g d n m w W (.two j e x) p5 k' r2) := Lib.hid (by
            rintro W rfl
            have k1 : Kx (· = b) w w5 := (HKW.out.tr HK4.out).bel HB5.out
            have k2 : Kx (fun i => i = m) w5 ((((w5.setCell ⟨m, 0, none⟩ (.string (opB (.two j e x)))).setCell ⟨m, 1, none⟩ (.complex .f64 (nxB (.two j e x)) (nyB (.two j e x)))).setCell ⟨m, 2, none⟩ (.string (nmB (.two j e x)))).setCell ⟨m, 3, none⟩ (.slice p5 (npB (.two j e x)) (npB (.two j e x)))) := kx_set4 (X := fun i => i = m) (Kx.refl _ _) (.inl rfl) _ _ _ _
            refine ⟨(HRD4.out.on HB5.out).kx k2 (by omega) (by omega) (fun i hi => by omega), HEAT.out.1, kx_set4 k1 (.inr (by have := HWN.out; omega)) _ _ _ _, ?_, blk_set4 HM5.out, ?_, HRES2.out, by have := HEAT.out.2; omega⟩
            · rw [k2.block n (Nat.lt_of_lt_of_le hn4 HB5.out.size) (by omega), HB5.out.block n hn4, HK4.out.block n hn3 (by omega)]; exact HNB.out
            · refine HPX5.out.on (Same.kx k2 fun g hg => ?_) (fun g hg => ?_)
              · rcases hg with hg | hg
                · exact ⟨Nat.lt_of_lt_of_le hg.2.2 HB5.out.size, by omega⟩
                · exact ⟨hg.2, by omega⟩
              · simp only [World.size_setCell]
                have := HB5.out.size
                omega)
          have HLEN : Hid (r2.length ≤ r.length) := Lib.hid (by have := HEAT.out.2; omega)
          have hdec : Hid (∀ W, Ch R opP one b g d n m w W (.two j e x) p5 k' r2 → slen (W.cell? ⟨b, 0, none⟩) < slen (wr.cell? ⟨b, 0, none⟩)) := Lib.hid (fun W h => by
            rw [h.rd.slen, HC.out.rd.slen]; have := HEAT.out.2; simp only [List.length_cons]; omega)
          have q1 : opB (.two j e x) = OB := HOB.out x
          have q2 : nxB (.two j e x) = 0 := rfl
          have q3 : nyB (.two j e x) = 0 := rfl
          have q4 : nmB (.two j e x) = ⟨#[]⟩ := rfl
          have q5 : npB (.two j e x) = 2 := rfl
          rw [q1, q2, q3, q4, q5] at HFIN ⊢
          clear q1 q2 q3 q4 q5
          go_simp
          refine hK.out _ _ (fun hne => hS5) ?_
          clear hK K
          try simp only [Act.put, List.setIfInBounds_toArray, List.set_cons_zero, List.set_cons_succ]
          refine wpAnyF_one (i := 5) (by kernel_rfl) rfl (fun K hK => ?_)
          go_simp
          refine hK.out _ _ (fun hne => absurd rfl hne) ?_
          clear hK K
          try simp only [Act.put, List.setIfInBounds_toArray, List.set_cons_zero, List.set_cons_succ]
          refine wpAnyF_done (by kernel_rfl) ?_ _
          go_wp2_with fail
          go_roundw
          case rel => exact ⟨_, _, _, _, HFIN.out _ rfl, HLEN.out⟩
          case measure => exact hdec.out _ (HFIN.out _ rfl)

set_option maxRecDepth 100000 in
set_option maxHeartbeats 3200000 in
theorem sum_any (f : Nat) (one : List Tk → Rd Ex) (he : Eats one) (hone : ExOk 219 f (prodP one)) : ExOk 213 f (sumP one) := by
  intro b g ts d w hrd hok hf
  have hst := store_cx
  have hfT := fldT
  have HOK := Lib.hid hok
  have HONE := Lib.hid hone
  have HE := Lib.hid (prodP_eats he)
  have hbw : b < w.heap.size := hrd.lt
  have hgw : g < w.heap.size := hrd.1
  have hlo : 13 ≤ b := by obtain ⟨_, _, _, R⟩ := hrd; exact R.lo
  have hlow : 13 ≤ w.heap.size := hrd.lkk.sz
  obtain ⟨R, hR⟩ : ∃ R, sumP one ts = R := ⟨_, rfl⟩
  rw [hR]
  have HR := Lib.hid hR
  have H1 := Lib.hid (fun o => hone b g ts d (w.alloc o) (hrd.on (below_alloc _ _)) hok hf)
  clear hrd hok hone he hR
  cases h1 : (prodP one) ts with
  | error er =>
    obtain ⟨p, c⟩ := er
    have hRe : R = .error (p, c) := by rw [← HR.out, sumP, h1]
    subst hRe
    rw [h1] at H1
    clear h1
    unfold PE at H1 ⊢
    simp only at H1 ⊢
    unfold pan at H1 ⊢
    go_enter Tryz.func213, Tryz.ntmps213
    go_wp2_with fail
    refine (H1.out _).mono ?_
    rintro e w1 ⟨rfl, hk⟩
    have HK := Lib.hid hk
    clear hk
    go_wp2
    exact ⟨rfl, rfl, (Kx.of (below_alloc _ _)).tr HK.out⟩
  | ok q =>
    obtain ⟨x, r⟩ := q
    have hres : R = chainP opS (prodP one) r.length x r := by rw [← HR.out, sumP, h1]
    have hx := HE.out _ _ _ HOK.out h1
    have HRES := Lib.hid hres
    have HX := Lib.hid hx
    rw [h1] at H1
    clear h1 hres hx
    unfold PE at H1
    simp only at H1
    go_enter Tryz.func213, Tryz.ntmps213
    go_wp2_with fail
    refine (H1.out _).mono ?_
    rintro e w1 ⟨p, rfl, hpx, hrd, hk⟩
    have hnb : w1.heap[w.heap.size]? = some (.cells zex 159 (0, 0)) := by
      rw [hk.block w.heap.size (by simp) (by omega)]; exact heap_alloc_new _ _
    have hnm : w.heap.size < w1.heap.size := lt_of_row hnb
    have HCH : Hid (Ch R opS (prodP one) b g d w.heap.size w1.heap.size w (w1.alloc (.cells (exb x p) 159)) x p r.length r) := Lib.hid (by
      refine ⟨hrd.on (below_alloc _ _), HX.out.1, ((Kx.of (below_alloc _ _)).tr hk).alloc _, ?_, heap_alloc_new _ _, ?_, HRES.out, Nat.le_refl _⟩
      · rw [Below.heap_alloc _ _ _ hnm]; exact hnb
      · refine hpx.on (Same.below (below_alloc _ _) (fun g hg => hg.2)) (fun g hg => ?_)
        obtain ⟨h1, h2⟩ := hg
        simp at h1
        simp
        omega)
    clear hpx hrd hk hnb
    have hrl : r.length < f := by have := HX.out.2; omega
    unfold exb at HCH
    unfold exv
    generalize opB x = x0 at *
    generalize nxB x = x1 at *
    generalize nyB x = x2 at *
    generalize nmB x = x3 at *
    generalize npB x = x4 at *
    obtain ⟨m, hm⟩ : ∃ m, w1.heap.size = m := ⟨_, rfl⟩
    obtain ⟨n, hn⟩ : ∃ n, w.heap.size = n := ⟨_, rfl⟩
    have HWN := Lib.hid hn
    rw [hn] at hnm hbw hgw hlow
    rw [hm] at hnm
    rw [hn, hm] at HCH
    go_wp2
    clear hm hn
    go_loopw [] (fun wr => ∃ e p k ts, Ch R opS (prodP one) b g d n m w wr e p k ts ∧ ts.length ≤ r.length) (fun wr => slen (wr.cell? ⟨b, 0, none⟩))
    case atStart => exact ⟨_, _, _, _, HCH.out, Nat.le_refl _⟩
    case round =>
      obtain ⟨e, q, k, ts, hC, htl⟩ := hrel
      have HC := Lib.hid hC
      obtain ⟨t, r1, rfl⟩ := hC.ok.ne
      have HNX := Lib.hid (isNext_any b g t r1 d [[43], [45]] wr.heap.size 2 (wr.alloc (.cells #[.string ⟨#[43]⟩, .string ⟨#[45]⟩] 9)) (hC.rd.on (below_alloc _ _)) (by simp) (by
        intro i s hs
        have hi := (List.getElem?_eq_some_iff.1 hs).1
        simp only [List.length_cons, List.length_nil] at hi
        rw [row_cell (heap_alloc_new _ _)]
        obtain rfl | rfl : i = 0 ∨ i = 1 := by omega
        · simp at hs; subst hs; rfl
        · simp at hs; subst hs; rfl))
      rw [← opS_mem] at HNX
      simp only [List.length_cons, List.length_nil, Nat.zero_add, Nat.reduceAdd] at HNX
      have hmn : n ≠ m := by omega
      have hmw : m < wr.heap.size := lt_of_row hC.mb
      have hnw : n < wr.heap.size := lt_of_row hC.nb
      have hbr : b < wr.heap.size := hC.rd.lt
      cases hop : opS t.text with
      | none =>
        have hRe : R = .ok (e, t :: r1) := by
          rw [HC.out.res]
          obtain ⟨k', rfl⟩ : ∃ k', k = k' + 1 := ⟨k - 1, by have := HC.out.fuel; simp at this; omega⟩
          rw [chainP, hop]
        have HRE := Lib.hid hRe
        rw [hop] at HNX
        simp only [Option.isSome_none] at HNX
        clear hRe hop hC
        go_wp2_with fail
        refine HNX.out.mono ?_
        rintro e1 w2 ⟨rfl, hb2⟩
        have HB2 := Lib.hid (below_new hb2)
        have HM : Hid (w2.heap[m]? = some (.cells (exb e q) 159 (0, 0))) := Lib.hid ((HB2.out.block m hmw).trans HC.out.mb)
        have HNB : Hid (w2.heap[n]? = some (.cells zex 159 (0, 0))) := Lib.hid ((HB2.out.block n hnw).trans HC.out.nb)
        clear hb2
        have m0 : w2.cell? ⟨m, 0, none⟩ = some (.string (opB e)) := row_cell HM.out
        have m1 : w2.cell? ⟨m, 1, none⟩ = some (.complex .f64 (nxB e) (nyB e)) := row_cell HM.out
        have m2 : w2.cell? ⟨m, 2, none⟩ = some (.string (nmB e)) := row_cell HM.out
        have m3 : w2.cell? ⟨m, 3, none⟩ = some (.slice q (npB e) (npB e)) := row_cell HM.out
        have n0 : w2.cell? ⟨n, 0, none⟩ = some (.string ⟨#[]⟩) := row_cell HNB.out
        have n1 : w2.cell? ⟨n, 1, none⟩ = some (.complex .f64 0 0) := row_cell HNB.out
        have n2 : w2.cell? ⟨n, 2, none⟩ = some (.string ⟨#[]⟩) := row_cell HNB.out
        have n3 : w2.cell? ⟨n, 3, none⟩ = some (.slice none 0 0) := row_cell HNB.out
        have f0 : w2.frozen? ⟨n, 0, none⟩ = false := row_frozen HNB.out
        have f1 : w2.frozen? ⟨n, 1, none⟩ = false := row_frozen HNB.out
        have f2 : w2.frozen? ⟨n, 2, none⟩ = false := row_frozen HNB.out
        have f3 : w2.frozen? ⟨n, 3, none⟩ = false := row_frozen HNB.out
        have HFIN : Hid (∀ W, W = (((w2.setCell ⟨n, 0, none⟩ (.string (opB e))).setCell ⟨n, 1, none⟩ (.complex .f64 (nxB e) (nyB e))).setCell ⟨n, 2, none⟩ (.string (nmB e))).setCell ⟨n, 3, none⟩ (.slice q (npB e) (npB e)) → ∀ en, en = .returned (.agg #[.string (opB e), .complex .f64 (nxB e) (nyB e), .string (nmB e), .slice q (npB e) (npB e)]) → PE b g w d R en W) := Lib.hid (by
          rintro W rfl en rfl
          rw [HRE.out]
          have k1 : Kx (· = b) w w2 := HC.out.kx.bel HB2.out
          have k2 : Kx (fun i => i = n) w2 ((((w2.setCell ⟨n, 0, none⟩ (.string (opB e))).setCell ⟨n, 1, none⟩ (.complex .f64 (nxB e) (nyB e))).setCell ⟨n, 2, none⟩ (.string (nmB e))).setCell ⟨n, 3, none⟩ (.slice q (npB e) (npB e))) := kx_set4 (X := fun i => i = n) (Kx.refl _ _) (.inl rfl) _ _ _ _
          refine ⟨q, rfl, ?_, ?_, kx_set4 k1 (.inr (by have := HWN.out; omega)) _ _ _ _⟩
          · refine Px.on (S := fun g => n < g ∧ g ≠ m ∧ g < wr.heap.size) (w := w2) (Same.kx k2 fun g hg => ⟨Nat.lt_of_lt_of_le hg.2.2 HB2.out.size, by omega⟩) (fun g hg => ⟨by have := HWN.out; omega, by simp only [World.size_setCell]; have := HB2.out.size; omega⟩) ?_
            exact HC.out.px.on (Same.below HB2.out fun g hg => hg.2.2) (fun _ h => h)
          · refine (HC.out.rd.on HB2.out).kx k2 (by omega) (by omega) (fun i hi => by omega))
        clear HM HNB HRE HNX
        generalize opB e = y0 at *
        generalize nxB e = y1 at *
        generalize nyB e = y2 at *
        generalize nmB e = y3 at *
        generalize npB e = y4 at *
        go_wp2
        exact bodyPost_ret (v := .agg #[.string y0, .complex .f64 y1 y2, .string y3, .slice q y4 y4]) (by simp [results, Tryz.results213, go_sem, n0, n1, n2, n3]) rfl (HFIN.out _ rfl _ rfl)
      | some j =>
        have hj := opS_some hop
        have htl1 := hC.ok.tl (opS_ne hop)
        have HTL := Lib.hid htl1
        obtain ⟨k', hk'⟩ : ∃ k', k = k' + 1 := ⟨k - 1, by have := hC.fuel; simp at this; omega⟩
        have hfu := hC.fuel
        simp only [List.length_cons] at hfu htl
        have hRe : R = match (prodP one) r1 with | .error er => .error er | .ok (x, r') => chainP opS (prodP one) k' (.two j e x) r' := by
          rw [HC.out.res, hk', chainP, hop]
          rfl
        have HRE := Lib.hid hRe
        have HJ := Lib.hid hj
        rw [hop] at HNX
        simp only [Option.isSome_some] at HNX
        clear hRe hop hj htl1
        have HT := Lib.hid (fun w' (hb : Below wr.heap.size wr w') => take_any b g t r1 d w' (hC.rd.on hb) HTL.out.2.2)
        unfold tv at HT
        rw [← HJ.out.2] at HT
        clear hC
        go_wp2_with fail
        refine HNX.out.mono ?_
        rintro e1 w2 ⟨rfl, hb2⟩
        have HB2 := Lib.hid (below_new hb2)
        clear hb2
        go_wp2_with fail
        refine (HT.out _ HB2.out).mono ?_
        rintro e1 w3 ⟨rfl, hrd3, hk3⟩
        have HK3 : Hid (Kx (· = b) wr w3) := Lib.hid ((Kx.of HB2.out).tr hk3)
        have HRD3 := Lib.hid hrd3
        have HM : Hid (w3.heap[m]? = some (.cells (exb e q) 159 (0, 0))) := Lib.hid ((HK3.out.block m hmw (by omega)).trans HC.out.mb)
        have HNB : Hid (w3.heap[n]? = some (.cells zex 159 (0, 0))) := Lib.hid ((HK3.out.block n hnw (by omega)).trans HC.out.nb)
        have HPX : Hid (Px w3 (fun g => n < g ∧ g ≠ m ∧ g < w3.heap.size) e q) := Lib.hid (HC.out.px.on (Same.kx HK3.out fun g hg => ⟨hg.2.2, by omega⟩) (fun g hg => ⟨hg.1, hg.2.1, Nat.lt_of_lt_of_le hg.2.2 HK3.out.size⟩))
        have HKW : Hid (Kx (· = b) w w3) := Lib.hid (HC.out.kx.tr HK3.out)
        clear hk3 hrd3
        have hm3 : m < w3.heap.size := lt_of_row HM.out
        have hn3 : n < w3.heap.size := lt_of_row HNB.out
        have m0 : w3.cell? ⟨m, 0, none⟩ = some (.string (opB e)) := row_cell HM.out
        have m1 : w3.cell? ⟨m, 1, none⟩ = some (.complex .f64 (nxB e) (nyB e)) := row_cell HM.out
        have m2 : w3.cell? ⟨m, 2, none⟩ = some (.string (nmB e)) := row_cell HM.out
        have m3 : w3.cell? ⟨m, 3, none⟩ = some (.slice q (npB e) (npB e)) := row_cell HM.out
        have HO := Lib.hid (HONE.out b g r1 d w3.drew (rdr_drew HRD3.out) HTL.out.1 (by omega))
        have HPR := Lib.hid (fun x p' S w4 hS ha hb => pair_any j e x q p' S w4 hS ha hb)
        have HOB : Hid (∀ x, opB (.two j e x) = ⟨(op2 j).toArray⟩) := Lib.hid (fun _ => rfl)
        generalize (⟨(op2 j).toArray⟩ : ByteArray) = OB at *
        unfold exb at HM
        unfold exv at HPR
        generalize opB e = y0 at *
        generalize nxB e = y1 at *
        generalize nyB e = y2 at *
        generalize nmB e = y3 at *
        generalize npB e = y4 at *
        go_wp2
        refine wp_region_lapse (by kernel_rfl) (fun w' => w'.cell? ⟨m, 0, none⟩ = some (.string y0) ∧ w'.cell? ⟨m, 1, none⟩ = some (.complex .f64 y1 y2) ∧ w'.cell? ⟨m, 2, none⟩ = some (.string y3) ∧ w'.cell? ⟨m, 3, none⟩ = some (.slice q y4 y4)) 5 ?_
        have hS0 : w3.drew.cell? ⟨m, 0, none⟩ = some (.string y0) ∧ w3.drew.cell? ⟨m, 1, none⟩ = some (.complex .f64 y1 y2) ∧ w3.drew.cell? ⟨m, 2, none⟩ = some (.string y3) ∧ w3.drew.cell? ⟨m, 3, none⟩ = some (.slice q y4 y4) := ⟨m0, m1, m2, m3⟩
        refine wpAnyF_take (i := 0) (v := ?v0sum) rfl (by kernel_rfl) (by kernel_rfl) (by kernel_rfl) (by kernel_rfl) (fun _ _ _ h => h) (Or.inl ⟨by rfl, ?h0sum⟩) hS0 ?_
        case h0sum => (intro w hSw; (try dsimp only at hSw); go_simp; try with_reducible rfl)
        simp only [Act.put, List.setIfInBounds_toArray, List.set_cons_zero, List.set_cons_succ]
        refine wpAnyF_take (i := 1) (v := ?v1sum) rfl (by kernel_rfl) (by kernel_rfl) (by kernel_rfl) (by kernel_rfl) (fun _ _ _ h => h) (Or.inl ⟨by rfl, ?h1sum⟩) hS0 ?_
        case h1sum => (intro w hSw; (try dsimp only at hSw); obtain ⟨a0, a1, a2, a3⟩ := hSw; go_simp; try with_reducible rfl)
        simp only [Act.put, List.setIfInBounds_toArray, List.set_cons_zero, List.set_cons_succ]
        refine wpAnyF_take (i := 2) (v := ?v2sum) rfl (by kernel_rfl) (by kernel_rfl) (by kernel_rfl) (by kernel_rfl) (fun _ _ _ h => h) (Or.inl ⟨by rfl, ?h2sum⟩) hS0 ?_
        case h2sum => (intro w hSw; (try dsimp only at hSw); go_simp; try with_reducible rfl)
        simp only [Act.put, List.setIfInBounds_toArray, List.set_cons_zero, List.set_cons_succ]
        clear hS0
        refine wpAnyF_one (i := 3) (by kernel_rfl) rfl (fun K hK => ?_)
        go_simp
        go_at_call 219
        refine HO.out.mono ?_
        cases h1 : (prodP one) r1 with
        | error er =>
          obtain ⟨pp, cc⟩ := er
          have hRe : R = .error (pp, cc) := by rw [HRE.out, h1]
          subst hRe
          unfold PE pan
          rintro e1 w4 ⟨rfl, hk4⟩
          have HK4 := Lib.hid hk4
          clear hk4
          go_simp
          exact ⟨rfl, rfl, (HKW.out.tr (kx_drew _ _)).tr HK4.out⟩
        | ok xr =>
          obtain ⟨x, r2⟩ := xr
          have HEAT := Lib.hid (HE.out _ _ _ HTL.out.1 h1)
          have HRES2 : Hid (R = chainP opS (prodP one) k' (.two j e x) r2) := Lib.hid (by rw [HRE.out, h1])
          clear h1
          unfold PE
          rintro e1 w4 ⟨p2, rfl, hpx4, hrd4, hk4'⟩
          have hk4 : Kx (· = b) w3 w4 := (kx_drew _ _).tr hk4'
          have hm4 : m < w4.heap.size := Nat.lt_of_lt_of_le hm3 hk4.size
          have hn4 : n < w4.heap.size := Nat.lt_of_lt_of_le hn3 hk4.size
          have HRD4 := Lib.hid hrd4
          have HK4 := Lib.hid hk4
          have HA4 : Hid (Px w4 (fun g => n < g ∧ g ≠ m ∧ g < w4.heap.size) e q) := Lib.hid (HPX.out.on (Same.kx hk4 fun g hg => ⟨hg.2.2, by omega⟩) (fun g hg => ⟨hg.1, hg.2.1, Nat.lt_of_lt_of_le hg.2.2 hk4.size⟩))
          have HB4 : Hid (Px w4 (fun g => n < g ∧ g ≠ m ∧ g < w4.heap.size) x p2) := Lib.hid (hpx4.on (fun _ _ _ => rfl) (fun g hg => by
            obtain ⟨h1, h2⟩ := hg
            have h1' : w3.heap.size ≤ g := h1
            omega))
          have hM4 : w4.heap[m]? = some (.cells #[.string y0, .complex .f64 y1 y2, .string y3, .slice q y4 y4] 159 (0, 0)) := (hk4.block m hm3 (by omega)).trans HM.out
          have hS4 : w4.cell? ⟨m, 0, none⟩ = some (.string y0) ∧ w4.cell? ⟨m, 1, none⟩ = some (.complex .f64 y1 y2) ∧ w4.cell? ⟨m, 2, none⟩ = some (.string y3) ∧ w4.cell? ⟨m, 3, none⟩ = some (.slice q y4 y4) := ⟨row_cell hM4, row_cell hM4, row_cell hM4, row_cell hM4⟩
          have HPC := Lib.hid (HPR.out x p2 _ w4 (fun g hg => hg.2.2) HA4.out HB4.out)
          have HM4 := Lib.hid hM4
          clear hpx4 hrd4 hk4 hk4' hM4
          unfold exv
          generalize opB x = z0 at *
          generalize nxB x = z1 at *
          generalize nyB x = z2 at *
          generalize nmB x = z3 at *
          generalize npB x = z4 at *
          go_simp
          refine hK.out _ _ (fun hne => hS4) ?_
          clear hK K
          try simp only [Act.put, List.setIfInBounds_toArray, List.set_cons_zero, List.set_cons_succ]
          refine wpAnyF_one (i := 4) (by kernel_rfl) rfl (fun K hK => ?_)
          go_simp
          go_at_call 215
          refine HPC.out.mono ?_
          rintro e1 w5 ⟨p5, rfl, hpx5, hb5⟩
          have hM5 : w5.heap[m]? = some (.cells #[.string y0, .complex .f64 y1 y2, .string y3, .slice q y4 y4] 159 (0, 0)) := (hb5.block m hm4).trans HM4.out
          have hS5 : w5.cell? ⟨m, 0, none⟩ = some (.string y0) ∧ w5.cell? ⟨m, 1, none⟩ = some (.complex .f64 y1 y2) ∧ w5.cell? ⟨m, 2, none⟩ = some (.string y3) ∧ w5.cell? ⟨m, 3, none⟩ = some (.slice q y4 y4) := ⟨row_cell hM5, row_cell hM5, row_cell hM5, row_cell hM5⟩
          have f0 : w5.frozen? ⟨m, 0, none⟩ = false := row_frozen hM5
          have f1 : w5.frozen? ⟨m, 1, none⟩ = false := row_frozen hM5
          have f2 : w5.frozen? ⟨m, 2, none⟩ = false := row_frozen hM5
          have f3 : w5.frozen? ⟨m, 3, none⟩ = false := row_frozen hM5
          obtain ⟨g0, g1, g2, g3⟩ := id hS5
          have HPX5 := Lib.hid hpx5
          have HB5 := Lib.hid hb5
          have HM5 := Lib.hid hM5
          clear hpx5 hb5 hM5
          have HFIN : Hid (∀ W, W = (((w5.setCell ⟨m, 0, none⟩ (.string (opB (.two j e x)))).setCell ⟨m, 1, none⟩ (.complex .f64 (nxB (.two j e x)) (nyB (.two j e x)))).setCell ⟨m, 2, none⟩ (.string (nmB (.two j e x)))).setCell ⟨m, 3, none⟩ (.slice p5 (npB (.two j e x)) (npB (.two j e x))) → Ch R opS (prodP one) b g d n m w W (.two j e x) p5 k' r2) := Lib.hid (by
            rintro W rfl
            have k1 : Kx (· = b) w w5 := (HKW.out.tr HK4.out).bel HB5.out
            have k2 : Kx (fun i => i = m) w5 ((((w5.setCell ⟨m, 0, none⟩ (.string (opB (.two j e x)))).setCell ⟨m, 1, none⟩ (.complex .f64 (nxB (.two j e x)) (nyB (.two j e x)))).setCell ⟨m, 2, none⟩ (.string (nmB (.two j e x)))).setCell ⟨m, 3, none⟩ (.slice p5 (npB (.two j e x)) (npB (.two j e x)))) := kx_set4 (X := fun i => i = m) (Kx.refl _ _) (.inl rfl) _ _ _ _
            refine ⟨(HRD4.out.on HB5.out).kx k2 (by omega) (by omega) (fun i hi => by omega), HEAT.out.1, kx_set4 k1 (.inr (by have := HWN.out; omega)) _ _ _ _, ?_, blk_set4 HM5.out, ?_, HRES2.out, by have := HEAT.out.2; omega⟩
            · rw [k2.block n (Nat.lt_of_lt_of_le hn4 HB5.out.size) (by omega), HB5.out.block n hn4, HK4.out.block n hn3 (by omega)]; exact HNB.out
            · refine HPX5.out.on (Same.kx k2 fun g hg => ?_) (fun g hg => ?_)
              · rcases hg with hg | hg
                · exact ⟨Nat.lt_of_lt_of_le hg.2.2 HB5.out.size, by omega⟩
                · exact ⟨hg.2, by omega⟩
              · simp only [World.size_setCell]
                have := HB5.out.size
                omega)
          have HLEN : Hid (r2.length ≤ r.length) := Lib.hid (by have := HEAT.out.2; omega)
          have hdec : Hid (∀ W, Ch R opS (prodP one) b g d n m w W (.two j e x) p5 k' r2 → slen (W.cell? ⟨b, 0, none⟩) < slen (wr.cell? ⟨b, 0, none⟩)) := Lib.hid (fun W h => by
            rw [h.rd.slen, HC.out.rd.slen]; have := HEAT.out.2; simp only [List.length_cons]; omega)
          have q1 : opB (.two j e x) = OB := HOB.out x
          have q2 : nxB (.two j e x) = 0 := rfl
          have q3 : nyB (.two j e x) = 0 := rfl
          have q4 : nmB (.two j e x) = ⟨#[]⟩ := rfl
          have q5 : npB (.two j e x) = 2 := rfl
          rw [q1, q2, q3, q4, q5] at HFIN ⊢
          clear q1 q2 q3 q4 q5
          go_simp
          refine hK.out _ _ (fun hne => hS5) ?_
          clear hK K
          try simp only [Act.put, List.setIfInBounds_toArray, List.set_cons_zero, List.set_cons_succ]
          refine wpAnyF_one (i := 5) (by kernel_rfl) rfl (fun K hK => ?_)
          go_simp
          refine hK.out _ _ (fun hne => absurd rfl hne) ?_
          clear hK K
          try simp only [Act.put, List.setIfInBounds_toArray, List.set_cons_zero, List.set_cons_succ]
          refine wpAnyF_done (by kernel_rfl) ?_ _
          go_wp2_with fail
          go_roundw
          case rel => exact ⟨_, _, _, _, HFIN.out _ rfl, HLEN.out⟩
          case measure => exact hdec.out _ (HFIN.out _ rfl)
end Go.Proofs.YtgiioflkclkioaaGreatDoor
