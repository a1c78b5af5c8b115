/- event.Clash, event.New: the walks. -/
import Derived.Test.YtcbpkagegdfidaaTg
set_option linter.unusedSimpArgs false
set_option linter.unusedVariables false
namespace Go.Proofs.Ytcbpkagegdfidaa
open Go.RowKit

/-- An event's value. -/
def ev (t : Int) (v : Value) : Value := .agg #[.int .i64 t, v]
theorem row_apart {w : World} {b o g : Nat} {l : List (Int × Bool)} {i : Int} {p : Option Addr} {m k : Nat} {t : TypeId} (hr : Row w b o l) (hne : l ≠ []) (hg : w.heap[g]? = some (.cells #[.int .i64 i, .slice p m k] t (0, 0))) : b ≠ g := by
  rintro rfl
  obtain ⟨x, l, rfl⟩ := List.exists_cons_of_ne_nil hne
  have h := hr 0 x rfl
  rw [cell_of_row w b _ _ _ _ hg, cell_of_row w b _ _ _ _ hg] at h
  match o with
  | 0 => have := h.2; simp at this
  | 1 => have := h.1; simp at this
  | o + 2 => have := h.1; simp at this
set_option maxHeartbeats 1000000 in
theorem new_any (t : Int) (l : List (Int × Bool)) (v : Value) (w : World) (hs : MkS w v l) (hl : l.length ≤ 1000) : Calls Try.prog 22 #[.int .i64 t, v] w fun e w' => ∃ v', e = .returned (.agg #[.int .i64 t, v']) ∧ MkS w' v' (nrm l) ∧ Below w.heap.size w w' := by
  have HT := Lib.hid (fun w' k => together_any l v w' (hs.kept k) hl)
  clear hs hl
  go_enter Try.func22, Try.ntmps22
  go_wp2_with (go_at_call 34; refine Hid.out ?_)
  refine Lib.hid ?_
  refine (HT.out _ ((Below.refl _ w).alloc (Nat.le_refl _) _)).mono ?_
  rintro e w1 ⟨v1, rfl, hm, hb⟩
  have hsz : w.heap.size < (w.alloc (Obj.cells #[Value.int IntKind.i64 0, Value.slice Option.none 0 0] 38)).heap.size := by simp
  have hg := heap_alloc_new w (Obj.cells #[Value.int IntKind.i64 0, Value.slice Option.none 0 0] 38)
  have hg1 := (hb.block _ hsz).trans hg
  have c0 : w1.cell? ⟨w.heap.size, 0, Option.none⟩ = some (.int .i64 0) := by rw [cell_of_row w1 _ 0 _ _ _ hg1]; rfl
  have c1 : w1.cell? ⟨w.heap.size, 1, Option.none⟩ = some (.slice Option.none 0 0) := by rw [cell_of_row w1 _ 1 _ _ _ hg1]; rfl
  have f0 := frozen_of_row w1 w.heap.size 0 _ _ hg1
  have f1 := frozen_of_row w1 w.heap.size 1 _ _ hg1
  have HB : Hid (Below w.heap.size w w1) := Lib.hid (((Below.refl _ w).alloc (Nat.le_refl _) _).trans (hb.mono (by simp)))
  obtain ⟨p, cap, rfl, h2, h3, h4⟩ := hm
  have h4' : (p = Option.none ∧ nrm l = []) ∨ ∃ b o, p = some ⟨b, o, Option.none⟩ ∧ b < w1.heap.size ∧ Row w1 b o (nrm l) := h4
  have hap := fun b o (hr : Row w1 b o (nrm l)) (hne : nrm l ≠ []) => row_apart hr hne hg1
  have H4 := Lib.hid h4'
  have HAP := Lib.hid hap
  clear hb hg hg1 h4 h4' hsz hap
  go_wp2
  have ne : (⟨w.heap.size, 1, Option.none⟩ : Addr) ≠ ⟨w.heap.size, 0, Option.none⟩ := fun e => by have := congrArg Addr.off e; cases this
  have d1 : ((w1.setCell ⟨w.heap.size, 0, Option.none⟩ (.int .i64 t)).setCell ⟨w.heap.size, 1, Option.none⟩ (.slice p (nrm l).length cap)).cell? ⟨w.heap.size, 1, Option.none⟩ = some (.slice p (nrm l).length cap) :=
    World.cell?_setCell_same _ _ _ (u := .slice Option.none 0 0) (by rw [World.cell?_setCell_other _ _ _ _ ne.symm]; exact c1)
  have d0 : ((w1.setCell ⟨w.heap.size, 0, Option.none⟩ (.int .i64 t)).setCell ⟨w.heap.size, 1, Option.none⟩ (.slice p (nrm l).length cap)).cell? ⟨w.heap.size, 0, Option.none⟩ = some (.int .i64 t) := by
    rw [World.cell?_setCell_other _ _ _ _ ne]; exact World.cell?_setCell_same _ _ _ c0
  have HB2 : Hid (Below w.heap.size w ((w1.setCell ⟨w.heap.size, 0, Option.none⟩ (.int .i64 t)).setCell ⟨w.heap.size, 1, Option.none⟩ (.slice p (nrm l).length cap))) := Lib.hid ((HB.out.setCell (Nat.le_refl _) _).setCell (Nat.le_refl _) _)
  have HM : Hid (MkS ((w1.setCell ⟨w.heap.size, 0, Option.none⟩ (.int .i64 t)).setCell ⟨w.heap.size, 1, Option.none⟩ (.slice p (nrm l).length cap)) (.slice p (nrm l).length cap) (nrm l)) := by
    refine Lib.hid ⟨p, cap, rfl, h2, h3, ?_⟩
    rcases H4.out with h | ⟨b, o, rfl, hb, hr⟩
    · exact .inl h
    · refine .inr ⟨b, o, rfl, by simpa using hb, fun i x hx => ?_⟩
      have hne : nrm l ≠ [] := by intro e; rw [e] at hx; simp at hx
      have hbn := HAP.out b o hr hne
      have far : ∀ (q : Nat) (c : Nat), (⟨w.heap.size, q, Option.none⟩ : Addr) ≠ ⟨b, c, Option.none⟩ := fun q c e => hbn (by have := congrArg Addr.block e; exact this.symm)
      rw [World.cell?_setCell_other _ _ _ _ (far _ _), World.cell?_setCell_other _ _ _ _ (far _ _), World.cell?_setCell_other _ _ _ _ (far _ _), World.cell?_setCell_other _ _ _ _ (far _ _)]
      exact hr i x hx
  generalize ((w1.setCell ⟨w.heap.size, 0, Option.none⟩ (.int .i64 t)).setCell ⟨w.heap.size, 1, Option.none⟩ (.slice p (nrm l).length cap)) = X at *
  refine bodyPost_ret (v := .agg #[.int .i64 t, .slice p (nrm l).length cap]) (by simp [results, Try.results22, go_sem, d0, d1]) rfl ⟨_, rfl, HM.out, HB2.out⟩

/-- What is left of a list of marks. -/
theorem MkS.tail {w : World} {p : Option Addr} {cap : Nat} {x : Int × Bool} {l : List (Int × Bool)} (h : MkS w (.slice p (x :: l).length cap) (x :: l)) : ∃ b o, p = some ⟨b, o, Option.none⟩ ∧ b < w.heap.size ∧ Row w b o (x :: l) ∧ Row w b (o + 2) l ∧ (x :: l).length ≤ cap ∧ cap ≤ maxLen := by
  obtain ⟨q, c, he, h2, h3, h4⟩ := h
  simp only [Value.slice.injEq] at he
  obtain ⟨rfl, _, rfl⟩ := he
  rcases h4 with ⟨_, e⟩ | ⟨b, o, hp, hb, hr⟩
  · cases e
  · refine ⟨b, o, hp, hb, hr, fun i y hy => ?_, h2, h3⟩
    have := hr (i + 1) y (by simpa using hy)
    rw [show o + (i + 1) * 2 = o + 2 + i * 2 by omega] at this
    exact this
theorem MkS.rest {w : World} {b o cap : Nat} {x : Int × Bool} {l : List (Int × Bool)} (hb : b < w.heap.size) (hr : Row w b (o + 2) l) (hc : (x :: l).length ≤ cap) (hm : cap ≤ maxLen) : MkS w (.slice (if cap = 1 then some ⟨b, o, Option.none⟩ else some ⟨b, o + 2, Option.none⟩) l.length (cap - 1)) l := by
  by_cases h : cap = 1
  · subst h
    have : l = [] := by cases l with | nil => rfl | cons _ _ => simp at hc
    subst this
    exact ⟨_, 0, rfl, Nat.le_refl _, by omega, .inr ⟨b, o, rfl, hb, fun i y hy => by simp at hy⟩⟩
  · rw [if_neg h]
    exact ⟨_, cap - 1, rfl, by simp at hc; omega, by omega, .inr ⟨b, o + 2, rfl, hb, hr⟩⟩

set_option maxHeartbeats 4000000 in
theorem clash_any (a c : List (Int × Bool)) (v u : Value) (w : World) (ha : MkS w v a) (hc : MkS w u c) (hal : a.length ≤ 1000) (hcl : c.length ≤ 1000) : Calls Try.prog 32 #[v, u] w fun e w' => e = .returned (.bool (clh a c)) ∧ Below w.heap.size w w' := by
  have HA := Lib.hid (arranged_any a v w ha hal)
  have HC := Lib.hid (fun w' (k : Below w.heap.size w w') => arranged_any c u w' (hc.kept k) hcl)
  clear ha hc
  rw [← clh_nrm]
  have la := nrm_len a
  have lc := nrm_len c
  have sa := (nrm_is a).asc
  have sc := (nrm_is c).asc
  generalize nrm a = m at *
  generalize nrm c = n at *
  have SA := Lib.hid sa
  have SC := Lib.hid sc
  clear sa sc
  go_enter Try.func32, Try.ntmps32
  go_wp2_with (go_at_call 42; refine Hid.out ?_)
  refine Lib.hid ?_
  refine HA.out.mono ?_
  rintro e w1 ⟨v1, rfl, hm1, hb1⟩
  have HM1 := Lib.hid hm1
  have HB1 := Lib.hid hb1
  clear hm1 hb1
  go_wp2_with (go_at_call 42; refine Hid.out ?_)
  refine Lib.hid ?_
  refine (HC.out w1 HB1.out).mono ?_
  rintro e w2 ⟨u1, rfl, hm2, hb2⟩
  have HM2 := Lib.hid (HM1.out.kept hb2)
  have HN2 := Lib.hid hm2
  have HB2 := Lib.hid (HB1.out.trans (hb2.mono HB1.out.size))
  clear hm2 hb2 HM1 HB1 HA HC
  go_wp2
  go_loopw [0, 1] (fun s0 s1 wr => ∃ (p q : List (Int × Bool)), MkS wr s0 p ∧ MkS wr s1 q ∧ asc p ∧ asc q ∧ clh p q = clh m n ∧ p.length + q.length ≤ 2000 ∧ Below w.heap.size w wr) (fun s0 s1 _ => match s0, s1 with | .slice _ a _, .slice _ b _ => a + b | _, _ => 0)
  case atStart => exact ⟨m, n, HM2.out, HN2.out, SA.out, SC.out, rfl, by omega, HB2.out⟩
  case round =>
    obtain ⟨xs, ys, hp, hq, sp, sq, hcl, hle, hb⟩ := hrel
    have HB := Lib.hid hb
    have HCL := Lib.hid hcl
    clear hb hcl
    cases xs with
    | nil =>
      obtain ⟨p, k, rfl, _, _, _⟩ := hp
      clear hq
      rw [clh_nil_l] at HCL
      go_wp2
      go_ret
      exact ⟨by rw [← HCL.out]; rfl, HB.out⟩
    | cons x xs =>
      cases ys with
      | nil =>
        obtain ⟨p, k, rfl, _, _, _⟩ := hp
        obtain ⟨q, r, rfl, _, _, _⟩ := hq
        rw [clh_nil_r] at HCL
        obtain ⟨A, hA⟩ : ∃ A, (x :: xs).length = A := ⟨_, rfl⟩
        rw [hA]
        have hA0 : (0 : Int) < (A : Int) := by simp at hA; omega
        clear hA
        go_wp2
        go_ret
        exact ⟨by rw [← HCL.out]; rfl, HB.out⟩
      | cons y ys =>
        obtain ⟨p, k, rfl, k1, k2, k3⟩ := hp
        obtain ⟨b, o, rfl, hb, hr, hr', hk, hkm⟩ := MkS.tail ⟨p, k, rfl, k1, k2, k3⟩
        obtain ⟨q, r, rfl, q1, q2, q3⟩ := hq
        obtain ⟨b', o', rfl, hb', hs, hs', hk', hkm'⟩ := MkS.tail ⟨q, r, rfl, q1, q2, q3⟩
        clear k1 k2 k3 q1 q2 q3
        have HX : Hid (∀ W, Below wr.heap.size wr W → W.cell? ⟨b, o, Option.none⟩ = some (.int .i64 x.1) ∧ W.cell? ⟨b, o + 1, Option.none⟩ = some (.bool x.2)) := Lib.hid fun W k => by have := (hr.kept hb k) 0 x rfl; simpa using this
        have HY : Hid (∀ W, Below wr.heap.size wr W → W.cell? ⟨b', o', Option.none⟩ = some (.int .i64 y.1) ∧ W.cell? ⟨b', o' + 1, Option.none⟩ = some (.bool y.2)) := Lib.hid fun W k => by have := (hs.kept hb' k) 0 y rfl; simpa using this
        have HXR : Hid (∀ W, Below wr.heap.size wr W → MkS W (.slice (if k = 1 then some ⟨b, o, Option.none⟩ else some ⟨b, o + 2, Option.none⟩) xs.length (k - 1)) xs) := Lib.hid fun W kk => (MkS.rest hb hr' hk hkm).kept kk
        have HYR : Hid (∀ W, Below wr.heap.size wr W → MkS W (.slice (if r = 1 then some ⟨b', o', Option.none⟩ else some ⟨b', o' + 2, Option.none⟩) ys.length (r - 1)) ys) := Lib.hid fun W kk => (MkS.rest hb' hs' hk' hkm').kept kk
        have HXA : Hid (∀ W, Below wr.heap.size wr W → MkS W (.slice (some ⟨b, o, Option.none⟩) (x :: xs).length k) (x :: xs)) := Lib.hid fun W kk => MkS.kept ⟨_, _, rfl, hk, hkm, .inr ⟨b, o, rfl, hb, hr⟩⟩ kk
        have HYA : Hid (∀ W, Below wr.heap.size wr W → MkS W (.slice (some ⟨b', o', Option.none⟩) (y :: ys).length r) (y :: ys)) := Lib.hid fun W kk => MkS.kept ⟨_, _, rfl, hk', hkm', .inr ⟨b', o', rfl, hb', hs⟩⟩ kk
        clear hr hr' hs hs' hb hb'
        have sp' := (List.pairwise_cons.1 sp).2
        have sq' := (List.pairwise_cons.1 sq).2
        have SP := Lib.hid sp
        have SQ := Lib.hid sq
        have SP' := Lib.hid sp'
        have SQ' := Lib.hid sq'
        clear sp sq sp' sq'
        rw [List.length_cons] at hk hk' hle ⊢
        rw [List.length_cons] at hle ⊢
        rw [List.length_cons] at HXA HYA
        have C0 := HX.out wr (Below.refl _ _)
        have D0 := HY.out wr (Below.refl _ _)
        obtain ⟨cx0, cx1⟩ := C0
        obtain ⟨cy0, cy1⟩ := D0
        obtain ⟨A, hA⟩ : ∃ A, xs.length = A := ⟨_, rfl⟩
        obtain ⟨C, hC⟩ : ∃ C, ys.length = C := ⟨_, rfl⟩
        rw [hA] at hk hle HXR HXA ⊢
        rw [hC] at hk' hle HYR HYA ⊢
        have hA0 : (0 : Int) < (A : Int) + 1 := by omega
        have hC0 : (0 : Int) < (C : Int) + 1 := by omega
        have HLA := Lib.hid hA
        have HLC := Lib.hid hC
        clear hA hC
        by_cases h1 : x.1 < y.1
        · go_wp2_with fail
          go_quiet (fail)
          have HK : Hid (Below wr.heap.size wr (wr.drewN nq)) := Lib.hid ⟨rfl, rfl, rfl, Nat.le_refl _, fun _ _ => rfl⟩
          clear cx0 cx1 cy0 cy1
          generalize wr.drewN nq = w3 at HK ⊢
          have hb3 := HB.out.trans (HK.out.mono HB.out.size)
          have R1 := HXR.out w3 HK.out
          have R2 := HYA.out w3 HK.out
          have HR := Lib.hid (And.intro hb3 (And.intro R1 R2))
          clear hb3 R1 R2
          go_wp2
          go_roundw
          case rel => exact ⟨xs, y :: ys, HR.out.2.1, HR.out.2.2, SP'.out, SQ.out, by rw [← HCL.out, clh_lt SQ.out h1], by rw [List.length_cons, HLA.out, HLC.out]; omega, HR.out.1⟩
          case measure => simp
        · by_cases h2 : y.1 < x.1
          · go_wp2_with fail
            go_quiet (fail)
            have HK : Hid (Below wr.heap.size wr (wr.drewN nq)) := Lib.hid ⟨rfl, rfl, rfl, Nat.le_refl _, fun _ _ => rfl⟩
            clear cx0 cx1 cy0 cy1
            generalize wr.drewN nq = w3 at HK ⊢
            obtain ⟨cx0, cx1⟩ := HX.out w3 HK.out
            obtain ⟨cy0, cy1⟩ := HY.out w3 HK.out
            go_wp2_with fail
            go_quiet (fail)
            have HK2 : Hid (Below wr.heap.size wr (w3.drewN nq)) := Lib.hid (HK.out.trans ⟨rfl, rfl, rfl, Nat.le_refl _, fun _ _ => rfl⟩)
            clear cx0 cx1 cy0 cy1
            generalize w3.drewN nq = w4 at HK2 ⊢
            have HR := Lib.hid (And.intro (HB.out.trans (HK2.out.mono HB.out.size)) (And.intro (HXA.out w4 HK2.out) (HYR.out w4 HK2.out)))
            go_wp2
            go_roundw
            case rel => exact ⟨x :: xs, ys, HR.out.2.1, HR.out.2.2, SP.out, SQ'.out, by rw [← HCL.out, clh_gt SP.out h2], by rw [List.length_cons, HLA.out, HLC.out]; omega, HR.out.1⟩
            case measure => simp
          · have h3 : x.1 = y.1 := by omega
            have h1' : ¬ x.1 < x.1 := by omega
            have H3 := Lib.hid h3
            rw [← h3] at cy0 HY
            clear h1 h2 h3
            go_wp2_with fail
            go_quiet (fail)
            have HK : Hid (Below wr.heap.size wr (wr.drewN nq)) := Lib.hid ⟨rfl, rfl, rfl, Nat.le_refl _, fun _ _ => rfl⟩
            clear cx0 cx1 cy0 cy1
            generalize wr.drewN nq = w3 at HK ⊢
            obtain ⟨cx0, cx1⟩ := HX.out w3 HK.out
            obtain ⟨cy0, cy1⟩ := HY.out w3 HK.out
            go_wp2_with fail
            go_quiet (fail)
            have HK2 : Hid (Below wr.heap.size wr (w3.drewN nq)) := Lib.hid (HK.out.trans ⟨rfl, rfl, rfl, Nat.le_refl _, fun _ _ => rfl⟩)
            clear cx0 cx1 cy0 cy1
            generalize w3.drewN nq = w4 at HK2 ⊢
            obtain ⟨_, cx1⟩ := HX.out w4 HK2.out
            obtain ⟨_, cy1⟩ := HY.out w4 HK2.out
            have HB4 := Lib.hid (HB.out.trans (HK2.out.mono HB.out.size))
            cases hx : x.2 with
            | true =>
              rw [hx] at cx1
              go_wp2
              go_ret
              exact ⟨by rw [← HCL.out, clh_hit H3.out (by rw [hx]; rfl)]; rfl, HB4.out⟩
            | false =>
              rw [hx] at cx1
              cases hy : y.2 with
              | true =>
                rw [hy] at cy1
                go_wp2
                go_ret
                exact ⟨by rw [← HCL.out, clh_hit H3.out (by rw [hx, hy]; rfl)]; rfl, HB4.out⟩
              | false =>
                rw [hy] at cy1
                have HN : Hid ((x.2 || y.2) = false) := Lib.hid (by rw [hx, hy]; rfl)
                go_wp2_with fail
                go_quiet (fail)
                have HK3 : Hid (Below wr.heap.size wr (w4.drewN nq)) := Lib.hid (HK2.out.trans ⟨rfl, rfl, rfl, Nat.le_refl _, fun _ _ => rfl⟩)
                clear cx1 cy1 hx hy
                generalize w4.drewN nq = w5 at HK3 ⊢
                have HR := Lib.hid (And.intro (HB.out.trans (HK3.out.mono HB.out.size)) (And.intro (HXR.out w5 HK3.out) (HYR.out w5 HK3.out)))
                go_wp2
                go_roundw
                case rel => exact ⟨xs, ys, HR.out.2.1, HR.out.2.2, SP'.out, SQ'.out, by rw [← HCL.out, clh_eq SP.out SQ.out H3.out HN.out], by rw [HLA.out, HLC.out]; omega, HR.out.1⟩
                case measure => simp; omega
end Go.Proofs.Ytcbpkagegdfidaa
