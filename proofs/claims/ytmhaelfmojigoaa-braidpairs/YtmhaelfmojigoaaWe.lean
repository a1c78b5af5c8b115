/- BraidPairs: the same but for swaps just if of any two that depend on one another the order is the same in both. -/
import Derived.Test.YtmhaelfmojigoaaPr
import Derived.Test.YtmhaelfmojigoaaWd
import Derived.Deep.RegionHeld3
import Derived.BigRegion
set_option linter.unusedSimpArgs false
set_option linter.unusedVariables false
namespace Go.Proofs.Ytmhaelfmojigoaa
open Go.RowKit

set_option maxRecDepth 100000 in
set_option maxHeartbeats 16000000 in
theorem pairs_any (HAw : AwB) (HSm : SameC) (l : Evl) (ord : List Nat) (v u : Value) (w : World) (hs : ES w v l) (hok : eok l) (hl : l.length ≤ 9223372036854775807) (hu : U8S w u ord) (hul : ord.length ≤ 9223372036854775807) (hu8 : ∀ n ∈ ord, n < 256) : Calls Try.prog 8 #[v, u] w fun e w' => e = .returned (.bool true) ∧ Below w.heap.size w w' := by
  obtain ⟨pu, cu, rfl, hcu⟩ := hu.form
  obtain ⟨U, hU⟩ : ∃ U, ord.length = U := ⟨_, rfl⟩
  rw [hU] at hu hcu hul ⊢
  have HU := Lib.hid hu
  have HUL := Lib.hid hU
  have HU8 := Lib.hid hu8
  clear hu hU hu8
  obtain ⟨p0, cap0, rfl, hcap0⟩ := hs.form
  obtain ⟨A0, hA0⟩ : ∃ A, l.length = A := ⟨_, rfl⟩
  have HS := Lib.hid hs
  rw [hA0] at HS hcap0 hl ⊢
  have HA0 := Lib.hid hA0
  have HOK := Lib.hid hok
  clear hs hA0 hok
  go_enter Try.func8, Try.ntmps8
  go_wp2_with (go_at_call 9; refine Hid.out ?_)
  refine Lib.hid ?_
  refine (HAw _).mono ?_
  rintro e w1 ⟨rfl, hb⟩
  have HB1 := Lib.hid hb
  clear hb
  have HLT := light_any l 12 _ w1 (HS.out.kept HB1.out) (by rw [HA0.out]; exact hl)
  rw [show (l.all (fun e => decide (e.2.length ≤ 8)) && decide ((l.length : Int) ≤ 12)) = lgt l 12 from rfl] at HLT
  have HL := Lib.hid HLT
  clear HLT
  go_wp2_with (go_at_call 10; refine Hid.out ?_)
  refine Lib.hid ?_
  refine HL.out.mono ?_
  rintro e w2 ⟨rfl, hb⟩
  have HB2 : Hid (Below w.heap.size w w2) := Lib.hid (HB1.out.trans (hb.mono HB1.out.size))
  clear hb HL HB1
  obtain ⟨lt, hlt⟩ : ∃ b, lgt l 12 = b := ⟨_, rfl⟩
  rw [hlt]
  cases lt with
  | false =>
    clear hlt
    go_wp2
    go_ret
    exact ⟨rfl, HB2.out⟩
  | true =>
    obtain ⟨h8, hA24⟩ := lgt_true hlt
    have h24 : A0 ≤ 12 := by rw [HA0.out] at hA24; omega
    have HE1 := Lib.hid (events_any l _ w2 (HS.out.kept HB2.out) (by rw [HA0.out]; omega) HOK.out (fun e he => by have := h8 e he; omega))
    have HK := Lib.hid (evs_k (by rw [HA0.out]; omega) HOK.out h8)
    clear h8 hA24 hlt
    go_wp2_with (go_at_call 11; refine Hid.out ?_)
    refine Lib.hid ?_
    refine HE1.out.mono ?_
    rintro e w3 ⟨v3, rfl, hv3, hb⟩
    have HB3 : Hid (Below w.heap.size w w3) := Lib.hid (HB2.out.trans (hb.mono HB2.out.size))
    clear hb HE1
    obtain ⟨x, hx⟩ : ∃ x, evs l = x := ⟨_, rfl⟩
    have hxl : x.length = A0 := by rw [← hx, evs_len, HA0.out]
    rw [hx] at HK hv3
    have HXL := Lib.hid hxl
    obtain ⟨p3, c3, hve, hc3⟩ : ∃ p c, v3 = .slice p A0 c ∧ A0 ≤ c := by
      obtain ⟨p, c, h1, h2, _⟩ := id hv3
      rw [hxl] at h1 h2
      exact ⟨p, c, h1, h2⟩
    subst hve
    have HV3 := Lib.hid hv3
    have HXE := Lib.hid hx
    clear hv3 hx hxl
    have HP3 := Lib.hid HV3.out.toP
    have HCL := Lib.hid (clone_evp x _ w3 HP3.out (by rw [HXL.out]; omega))
    go_wp2_with (go_at_call 23; refine Hid.out ?_)
    refine Lib.hid ?_
    refine HCL.out.mono ?_
    rintro e w4 ⟨v4, rfl, hi4, hb⟩
    have HB4 := Lib.hid hb
    have HI4 := Lib.hid hi4
    clear hb HCL hi4
    go_wp2_with fail
    have HPK : Hid (PkJ w3 (w4.alloc (Obj.cells #[] 39)) v4 (.slice (some ⟨w4.heap.size, 0, Option.none⟩) 0 0) x []) := by
      have hW := below_alloc w4 (Obj.cells #[] 39)
      have hs4 := HB4.out.size
      refine Lib.hid ⟨HI4.out.kept hW, ⟨[], World.ownsRow_lit w4 #[] 0 hs4 (Nat.zero_le _) rfl, fun i e h => by simp at h⟩, fun q hq e => ?_, HB4.out.trans (hW.mono hs4)⟩
      have h1 := (HI4.out.own hq).2
      have h2 : w4.heap.size = q := Option.some.inj e
      omega
    generalize w4.alloc (Obj.cells #[] 39) = w5 at HPK ⊢
    clear HP3
    go_loopw [6, 7, 27] (fun s6 s7 s27 wr => ∃ (i : Nat) (left y : Evl), s27 = .int .i64 (i : Int) ∧ i ≤ A0 ∧ PkJ w3 wr s6 s7 left y ∧ (y ++ left).Perm x ∧ y.length = i) (fun _ _ s _ => A0 - (intOf s).toNat)
    case atStart => exact ⟨0, x, [], rfl, by omega, HPK.out, by simp, rfl⟩
    case round =>
      clear HPK HB4 HI4
      obtain ⟨i, left, y, rfl, hi, hpk, hpm, hyl⟩ := hrel
      have hll : left.length = A0 - i := by
        have h1 := hpm.length_eq
        rw [List.length_append, hyl, HXL.out] at h1
        omega
      have HPM := Lib.hid hpm
      have HYL := Lib.hid hyl
      have HLL := Lib.hid hll
      have HPK := Lib.hid hpk
      clear hpm hyl hll
      by_cases hlt : i < A0
      · obtain ⟨g, c, rfl⟩ : ∃ g c, u6 = .slice (some ⟨g, 0, Option.none⟩) (A0 - i) c := by
          obtain ⟨cs, h1, _⟩ := hpk.hl
          rcases h1.2 with ⟨_, h⟩ | ⟨g, c, cur, h, _⟩
          · rw [HLL.out] at h; omega
          · exact ⟨g, c, by rw [h, HLL.out]⟩
        clear hpk
        obtain ⟨N, hN⟩ : ∃ N, A0 - i = N := ⟨_, rfl⟩
        rw [hN] at HLL HPK ⊢
        have hNp : 0 < N := by omega
        have hNl : N ≤ 12 := by omega
        have HN := Lib.hid hN
        clear hN
        have key : ∀ k : Nat, k < N → Hid (∃ e q m d, left[k]? = some e ∧ wr.cell? ⟨g, k * 2, Option.none⟩ = some (.int .i64 e.1) ∧ wr.cell? ⟨g, k * 2 + 1, Option.none⟩ = some (.slice q m d) ∧ MkP (Blw w3.heap.size) wr (.slice q m d) e.2) := fun k hk => by
          obtain ⟨e, he⟩ : ∃ e, left[k]? = some e := ⟨_, List.getElem?_eq_getElem (by rw [HLL.out]; exact hk)⟩
          obtain ⟨q, m, d, h1, h2, h3⟩ := HPK.out.hl.at he
          exact Lib.hid ⟨e, q, m, d, he, h1, h2, h3⟩
        by_cases hiu : i < U
        · have hiu' : (i : Int) < (U : Int) := by omega
          obtain ⟨n8, hn8⟩ : ∃ n, ord[i]? = some n := ⟨_, List.getElem?_eq_getElem (by rw [HUL.out]; exact hiu)⟩
          have hn256 := HU8.out n8 (List.mem_of_getElem? hn8)
          obtain ⟨b8, o8, rfl, hb8, hr8⟩ := HU.out.one hn8
          have kw : Below w.heap.size w wr := HB3.out.trans (HPK.out.bel.mono HB3.out.size)
          have c8 := hr8 wr kw
          clear hn8 hb8 hr8 kw
          have hw8 : IntKind.i64.wrap (n8 : Int) = (n8 : Int) := by rw [IntKind.wrap_i64]; omega
          obtain ⟨M, hM⟩ : ∃ M : Nat, min N 2 = M := ⟨_, rfl⟩
          have hMp : 0 < M := by omega
          have hMN : M ≤ N := by omega
          have hMi : min (N : Int) 2 = (M : Int) := by omega
          have hM0 : ¬ (M : Int) = 0 := by omega
          have hrm : (n8 : Int).tmod (M : Int) = ((n8 % M : Nat) : Int) := by rw [Int.tmod_eq_emod_of_nonneg (by omega)]; rfl
          obtain ⟨k, hk⟩ : ∃ k, n8 % M = k := ⟨_, rfl⟩
          rw [hk] at hrm
          have hkM : k < M := by rw [← hk]; exact Nat.mod_lt _ hMp
          have hkN : k < N := by omega
          have hwk : IntKind.i64.wrap (k : Int) = (k : Int) := by rw [IntKind.wrap_i64]; omega
          clear hk hM
          obtain ⟨e, q, m, d, he, c0, c1, hmk⟩ := (key k hkN).out
          obtain ⟨p', m', c', w', hrun, hpk2⟩ := HPK.out.append (e := e) (by rw [HYL.out]; omega) hmk
          have HPK2 := Lib.hid hpk2
          have hpm2 := perm_pick HPM.out he
          have HPM2 := Lib.hid hpm2
          have hel : (left.eraseIdx k).length = N - 1 := by rw [List.length_eraseIdx, if_pos (by have := HLL.out; omega), HLL.out]
          have HEL := Lib.hid hel
          have hyl2 : (y ++ [e]).length = i + 1 := by rw [List.length_append, HYL.out]; rfl
          have HYL2 := Lib.hid hyl2
          have hkl : k < N := by omega
          have hki : ((k : Nat) : Int) < (N : Int) := by omega
          clear he hmk hpk2 hpm2 hel hyl2 key
          skip
          go_wp2_with (at_builtin; refine wpList_app rfl (.tmp 43) (.tmp 48) 25 rfl _ _ _ w' rfl rfl hrun ?_)
          clear hrun c0 c1
          have HD : Calls Try.prog 24 #[.slice (some ⟨g, 0, Option.none⟩) N c, .int .i64 (k : Int), .int .i64 ((k : Int) + 1)] w' _ := delete_ev left k g N c w3.heap.size w' HPK2.out.hl HLL.out hkl (by omega)
          have HD := Lib.hid HD
          have hwk1 : IntKind.i64.wrap (((k : Nat) : Int) + 1) = ((k : Nat) : Int) + 1 := by rw [IntKind.wrap_i64]; omega
          go_wp2_with (go_at_call 24; refine Hid.out ?_)
          refine Lib.hid ?_
          refine HD.out.mono ?_
          rintro e' w7 ⟨rfl, hd, hgr⟩
          have HPK3 := Lib.hid (HPK2.out.del hd hgr)
          clear hd hgr HD hwk1
          go_wp2
          go_roundw
          case rel => exact ⟨i + 1, left.eraseIdx k, y ++ [e], by go_num, by omega, HPK3.out, HPM2.out, HYL2.out⟩
          case measure => simp [intOf]; omega
        · have hiu' : ¬ (i : Int) < (U : Int) := by omega
          obtain ⟨e, q, m, d, he, c0, c1, hmk⟩ := (key 0 hNp).out
          obtain ⟨p', m', c', w', hrun, hpk2⟩ := HPK.out.append (e := e) (by rw [HYL.out]; omega) hmk
          have HPK2 := Lib.hid hpk2
          have hpm2 := perm_pick HPM.out he
          have HPM2 := Lib.hid hpm2
          have hel : (left.eraseIdx 0).length = N - 1 := by rw [List.length_eraseIdx, if_pos (by have := HLL.out; omega), HLL.out]
          have HEL := Lib.hid hel
          have hyl2 : (y ++ [e]).length = i + 1 := by rw [List.length_append, HYL.out]; rfl
          have HYL2 := Lib.hid hyl2
          have hkl : 0 < N := by omega
          have hki : ((0 : Nat) : Int) < (N : Int) := by omega
          clear he hmk hpk2 hpm2 hel hyl2 key
          simp only [Nat.zero_mul, Nat.zero_add] at c0 c1
          go_wp2_with (at_builtin; refine wpList_app rfl (.tmp 43) (.tmp 48) 25 rfl _ _ _ w' rfl rfl hrun ?_)
          clear hrun c0 c1
          have HD : Calls Try.prog 24 #[.slice (some ⟨g, 0, Option.none⟩) N c, .int .i64 0, .int .i64 (1)] w' _ := delete_ev left 0 g N c w3.heap.size w' HPK2.out.hl HLL.out hkl (by omega)
          have HD := Lib.hid HD
          have hwk1 : IntKind.i64.wrap (((0 : Nat) : Int) + 1) = ((0 : Nat) : Int) + 1 := by rw [IntKind.wrap_i64]; omega
          go_wp2_with (go_at_call 24; refine Hid.out ?_)
          refine Lib.hid ?_
          refine HD.out.mono ?_
          rintro e' w7 ⟨rfl, hd, hgr⟩
          have HPK3 := Lib.hid (HPK2.out.del hd hgr)
          clear hd hgr HD hwk1
          go_wp2
          go_roundw
          case rel => exact ⟨i + 1, left.eraseIdx 0, y ++ [e], by go_num, by omega, HPK3.out, HPM2.out, HYL2.out⟩
          case measure => simp [intOf]; omega
      · obtain rfl : i = A0 := by omega
        have hl0 : left = [] := List.eq_nil_of_length_eq_zero (by rw [HLL.out]; omega)
        have hyx : y.Perm x := by have := HPM.out; rwa [hl0, List.append_nil] at this
        have hbel := HPK.out.bel
        have HVR := Lib.hid (HV3.out.kept hbel)
        have HBR : Hid (Below w.heap.size w wr) := Lib.hid (HB3.out.trans (hbel.mono HB3.out.size))
        have HYS := Lib.hid HPK.out.hy.evs.toS
        have HKY := Lib.hid (HK.out.sub (y := y) (by rw [hyx.length_eq]; exact (Nat.le_trans HK.out.1 (by omega))) (fun e he => hyx.mem_iff.1 he))
        have HIS := Lib.hid (pairs_is hyx)
        obtain ⟨py, cy, hye⟩ : ∃ p c, u7 = .slice p i c := by
          obtain ⟨p, c, h1, _⟩ := HYS.out
          rw [HYL.out] at h1
          exact ⟨p, c, h1⟩
        subst hye
        clear hl0 hyx hbel hpk HPK HPM hlt HLL
        obtain ⟨wz, rfl⟩ : ∃ wz, wz = wr := ⟨_, rfl⟩
        go_wp2
        go_loopw [10, 58] (fun s10 s58 wp => ∃ (p : Nat), s58 = .int .i64 (p : Int) ∧ p ≤ i ∧ s10 = .bool ((x.take p).all fun a => x.all (okp x y a)) ∧ Below wz.heap.size wz wp) (fun _ s _ => i - (intOf s).toNat)
        case atStart => exact ⟨0, rfl, by omega, rfl, Below.refl _ _⟩
        case round =>
          obtain ⟨p, rfl, hp, rfl, hb⟩ := hrel
          obtain ⟨wp, rfl⟩ : ∃ wp, wp = wr := ⟨_, rfl⟩
          have HBP := Lib.hid hb
          clear hb
          obtain ⟨b1, hb1⟩ : ∃ b, ((x.take p).all fun a => x.all (okp x y a)) = b := ⟨_, rfl⟩
          have HB1' := Lib.hid hb1
          rw [hb1]
          clear hb1
          by_cases hltp : p < i
          · obtain ⟨a, ha⟩ : ∃ a, x[p]? = some a := ⟨_, List.getElem?_eq_getElem (by rw [HXL.out]; exact hltp)⟩
            obtain ⟨b0, o0, rfl, hbb, hr⟩ : ∃ b o, p3 = some ⟨b, o, Option.none⟩ ∧ b < wz.heap.size ∧ EvR wz b o x := by
              obtain ⟨p, c, h1, _, _, h4⟩ := HVR.out
              simp only [Value.slice.injEq] at h1
              rcases h4 with ⟨_, h⟩ | ⟨b, o, h, h5, h6⟩
              · rw [h] at ha; simp at ha
              · exact ⟨b, o, by rw [h1.1, h], h5, h6⟩
            obtain ⟨qa, ma, ca, hfa⟩ := hr.at hbb ha
            obtain ⟨c1, c2, _⟩ := hfa wp HBP.out
            have HFA := Lib.hid hfa
            have HR := Lib.hid hr
            have HAX := Lib.hid ha
            have hma := (HK.out.2 a (List.mem_of_getElem? ha)).1
            have HMA := Lib.hid hma
            clear hr ha hfa hma
            go_wp2
            have hga := heap_alloc_new wp (Obj.cells #[Value.int .i64 a.1, .slice qa ma ca] 39)
            have hWa := below_alloc wp (Obj.cells #[Value.int .i64 a.1, .slice qa ma ca] 39)
            have hsa : (wp.alloc (Obj.cells #[Value.int .i64 a.1, .slice qa ma ca] 39)).heap.size = wp.heap.size + 1 := by simp
            have HGA := Lib.hid hga
            have HWB := Lib.hid (HBP.out.trans (hWa.mono HBP.out.size))
            have HSA := Lib.hid hsa
            clear hga hWa hsa c1 c2
            generalize wp.alloc (Obj.cells #[Value.int .i64 a.1, .slice qa ma ca] 39) = wb at HGA HWB HSA ⊢
            go_loopw [10, 64] (fun s10 s64 wq => ∃ (q : Nat), s64 = .int .i64 (q : Int) ∧ q ≤ i ∧ s10 = .bool (b1 && (x.take q).all (okp x y a)) ∧ Below wb.heap.size wb wq) (fun _ s _ => i - (intOf s).toNat)
            case atStart => exact ⟨0, rfl, by omega, by simp, Below.refl _ _⟩
            case round =>
              obtain ⟨q, rfl, hq, rfl, hb⟩ := hrel
              obtain ⟨wq, rfl⟩ : ∃ wq, wq = wr := ⟨_, rfl⟩
              have HBQ := Lib.hid hb
              clear hb
              obtain ⟨b2, hb2⟩ : ∃ b, (b1 && (x.take q).all (okp x y a)) = b := ⟨_, rfl⟩
              have HB2' := Lib.hid hb2
              rw [hb2]
              clear hb2
              have HWQ : Hid (Below wz.heap.size wz wq) := Lib.hid (HWB.out.trans (HBQ.out.mono HWB.out.size))
              by_cases hltq : q < i
              · obtain ⟨c, hc⟩ : ∃ c, x[q]? = some c := ⟨_, List.getElem?_eq_getElem (by rw [HXL.out]; exact hltq)⟩
                obtain ⟨qc, mc, cc, hfc⟩ := HR.out.at hbb hc
                obtain ⟨c3', c4', _⟩ := hfc wq HWQ.out
                have HFC := Lib.hid hfc
                have hmc := (HK.out.2 c (List.mem_of_getElem? hc)).1
                have HMC := Lib.hid hmc
                have hstep : (b1 && (x.take (q + 1)).all (okp x y a)) = (b2 && okp x y a c) := by
                  rw [show x.take (q + 1) = x.take q ++ (x[q]?).toList from List.take_add_one, hc, List.all_append, ← HB2'.out, Bool.and_assoc]
                  simp
                have HST := Lib.hid hstep
                obtain ⟨wc, hwc⟩ : ∃ wc, wq.alloc (Obj.cells #[Value.int .i64 c.1, .slice qc mc cc] 39) = wc := ⟨_, rfl⟩
                have hgc := heap_alloc_new wq (Obj.cells #[Value.int .i64 c.1, .slice qc mc cc] 39)
                have hWc := below_alloc wq (Obj.cells #[Value.int .i64 c.1, .slice qc mc cc] 39)
                have hsc : (wq.alloc (Obj.cells #[Value.int .i64 c.1, .slice qc mc cc] 39)).heap.size = wq.heap.size + 1 := by simp
                rw [hwc] at hgc hWc hsc
                have hwrc : Below wz.heap.size wz wc := HWQ.out.trans (hWc.mono HWQ.out.size)
                have hz1 : wp.heap.size < wq.heap.size := by have := HBQ.out.size; rw [HSA.out] at this; omega
                have hga2 : wc.heap[wp.heap.size]? = some (Obj.cells #[Value.int .i64 a.1, .slice qa ma ca] 39) := by
                  rw [hWc.block _ hz1, HBQ.out.block _ (by rw [HSA.out]; omega)]; exact HGA.out
                have keep : ∀ W, Below wc.heap.size wc W → (Below wc.heap.size wc W ∧ W.cell? ⟨wp.heap.size, 0, Option.none⟩ = some (.int .i64 a.1) ∧ W.cell? ⟨wp.heap.size, 1, Option.none⟩ = some (.slice qa ma ca) ∧ W.cell? ⟨wq.heap.size, 0, Option.none⟩ = some (.int .i64 c.1) ∧ W.cell? ⟨wq.heap.size, 1, Option.none⟩ = some (.slice qc mc cc)) := fun W k => by
                  have g1 := (k.block wp.heap.size (by omega)).trans hga2
                  have g2 := (k.block wq.heap.size (by omega)).trans hgc
                  exact ⟨k, by rw [cell_of_row _ _ _ _ _ _ g1]; rfl, by rw [cell_of_row _ _ _ _ _ _ g1]; rfl, by rw [cell_of_row _ _ _ _ _ _ g2]; rfl, by rw [cell_of_row _ _ _ _ _ _ g2]; rfl⟩
                have HKEEP := Lib.hid keep
                have HWRC := Lib.hid hwrc
                have K1 : Hid (∀ W, (Below wc.heap.size wc W ∧ W.cell? ⟨wp.heap.size, 0, Option.none⟩ = some (.int .i64 a.1) ∧ W.cell? ⟨wp.heap.size, 1, Option.none⟩ = some (.slice qa ma ca) ∧ W.cell? ⟨wq.heap.size, 0, Option.none⟩ = some (.int .i64 c.1) ∧ W.cell? ⟨wq.heap.size, 1, Option.none⟩ = some (.slice qc mc cc)) → Calls Try.prog 19 #[.agg #[.int .i64 a.1, .slice qa ma ca], .agg #[.int .i64 c.1, .slice qc mc cc]] W fun r w' => r = .returned (.bool (edep a c)) ∧ (Below wc.heap.size wc w' ∧ w'.cell? ⟨wp.heap.size, 0, Option.none⟩ = some (.int .i64 a.1) ∧ w'.cell? ⟨wp.heap.size, 1, Option.none⟩ = some (.slice qa ma ca) ∧ w'.cell? ⟨wq.heap.size, 0, Option.none⟩ = some (.int .i64 c.1) ∧ w'.cell? ⟨wq.heap.size, 1, Option.none⟩ = some (.slice qc mc cc))) := Lib.hid fun W kk => by
                  have kw := HWRC.out.trans (kk.1.mono HWRC.out.size)
                  refine (depend_at a c _ _ W (HFA.out W kw).2.2 (HFC.out W kw).2.2 HMA.out HMC.out).mono ?_
                  rintro r w' ⟨rfl, hb⟩
                  exact ⟨rfl, HKEEP.out w' (kk.1.trans (hb.mono kk.1.size))⟩
                have K2 : Hid (∀ W, (Below wc.heap.size wc W ∧ W.cell? ⟨wp.heap.size, 0, Option.none⟩ = some (.int .i64 a.1) ∧ W.cell? ⟨wp.heap.size, 1, Option.none⟩ = some (.slice qa ma ca) ∧ W.cell? ⟨wq.heap.size, 0, Option.none⟩ = some (.int .i64 c.1) ∧ W.cell? ⟨wq.heap.size, 1, Option.none⟩ = some (.slice qc mc cc)) → Calls Try.prog 30 #[.slice (some ⟨b0, o0, Option.none⟩) i c3, .agg #[.int .i64 a.1, .slice qa ma ca], .agg #[.int .i64 c.1, .slice qc mc cc]] W fun r w' => ∃ v, r = .returned v ∧ (∀ W', Below w'.heap.size w' W' → EvS W' v (prj a c x)) ∧ (Below wc.heap.size wc w' ∧ w'.cell? ⟨wp.heap.size, 0, Option.none⟩ = some (.int .i64 a.1) ∧ w'.cell? ⟨wp.heap.size, 1, Option.none⟩ = some (.slice qa ma ca) ∧ w'.cell? ⟨wq.heap.size, 0, Option.none⟩ = some (.int .i64 c.1) ∧ w'.cell? ⟨wq.heap.size, 1, Option.none⟩ = some (.slice qc mc cc))) := Lib.hid fun W kk => by
                  have kw := HWRC.out.trans (kk.1.mono HWRC.out.size)
                  refine (only_any x a c _ _ _ W (HVR.out.kept kw) (HFA.out W kw).2.2 (HFC.out W kw).2.2 (Nat.le_trans HK.out.1 (by omega)) HK.out.mk8 HMA.out HMC.out).mono ?_
                  rintro r w' ⟨v, rfl, hv, hb⟩
                  exact ⟨v, rfl, fun W' k => hv.kept k, HKEEP.out w' (kk.1.trans (hb.mono kk.1.size))⟩
                have K3 : Hid (∀ W, (Below wc.heap.size wc W ∧ W.cell? ⟨wp.heap.size, 0, Option.none⟩ = some (.int .i64 a.1) ∧ W.cell? ⟨wp.heap.size, 1, Option.none⟩ = some (.slice qa ma ca) ∧ W.cell? ⟨wq.heap.size, 0, Option.none⟩ = some (.int .i64 c.1) ∧ W.cell? ⟨wq.heap.size, 1, Option.none⟩ = some (.slice qc mc cc)) → Calls Try.prog 30 #[.slice py i cy, .agg #[.int .i64 a.1, .slice qa ma ca], .agg #[.int .i64 c.1, .slice qc mc cc]] W fun r w' => ∃ v, r = .returned v ∧ EvS w' v (prj a c y) ∧ Below W.heap.size W w' ∧ (Below wc.heap.size wc w' ∧ w'.cell? ⟨wp.heap.size, 0, Option.none⟩ = some (.int .i64 a.1) ∧ w'.cell? ⟨wp.heap.size, 1, Option.none⟩ = some (.slice qa ma ca) ∧ w'.cell? ⟨wq.heap.size, 0, Option.none⟩ = some (.int .i64 c.1) ∧ w'.cell? ⟨wq.heap.size, 1, Option.none⟩ = some (.slice qc mc cc))) := Lib.hid fun W kk => by
                  have kw := HWRC.out.trans (kk.1.mono HWRC.out.size)
                  refine (only_any y a c _ _ _ W (HYS.out.kept kw) (HFA.out W kw).2.2 (HFC.out W kw).2.2 (Nat.le_trans HKY.out.1 (by omega)) HKY.out.mk8 HMA.out HMC.out).mono ?_
                  rintro r w' ⟨v, rfl, hv, hb⟩
                  exact ⟨v, rfl, hv, hb, HKEEP.out w' (kk.1.trans (hb.mono kk.1.size))⟩
                have hsub : ∀ z : Evl, Evk z → Evk (prj a c z) := fun z hz => hz.sub (Nat.le_trans (List.length_filter_le _ _) hz.1) (fun e he => (List.mem_filter.1 he).1)
                have hkx := hsub x HK.out
                have hky := hsub y HKY.out
                have K4 : Hid (∀ W v1 v2, (Below wc.heap.size wc W ∧ W.cell? ⟨wp.heap.size, 0, Option.none⟩ = some (.int .i64 a.1) ∧ W.cell? ⟨wp.heap.size, 1, Option.none⟩ = some (.slice qa ma ca) ∧ W.cell? ⟨wq.heap.size, 0, Option.none⟩ = some (.int .i64 c.1) ∧ W.cell? ⟨wq.heap.size, 1, Option.none⟩ = some (.slice qc mc cc)) → EvS W v1 (prj a c x) → EvS W v2 (prj a c y) → Calls Try.prog 15 #[v1, v2] W fun r w' => r = .returned (.bool (decide (prj a c x = prj a c y))) ∧ (Below wc.heap.size wc w' ∧ w'.cell? ⟨wp.heap.size, 0, Option.none⟩ = some (.int .i64 a.1) ∧ w'.cell? ⟨wp.heap.size, 1, Option.none⟩ = some (.slice qa ma ca) ∧ w'.cell? ⟨wq.heap.size, 0, Option.none⟩ = some (.int .i64 c.1) ∧ w'.cell? ⟨wq.heap.size, 1, Option.none⟩ = some (.slice qc mc cc))) := Lib.hid fun W v1 v2 kk h1 h2 => by
                  refine (equal_evs _ _ _ _ W h1 h2 (Nat.le_trans hkx.1 (by omega)) (Nat.le_trans hky.1 (by omega)) hkx.mk8 hky.mk8).mono ?_
                  rintro r w' ⟨rfl, hb⟩
                  exact ⟨rfl, HKEEP.out w' (kk.1.trans (hb.mono kk.1.size))⟩
                have hs0 := keep wc.drew ⟨rfl, rfl, rfl, Nat.le_refl _, fun _ _ => rfl⟩
                have hfin : ∀ W, Below wc.heap.size wc W → Hid (Below wb.heap.size wb W) := fun W k => Lib.hid (HBQ.out.trans ((hWc.mono HBQ.out.size).trans (k.mono (by have := HBQ.out.size; omega))))
                have HFIN := Lib.hid hfin
                have hbc : b0 < wq.heap.size := Nat.lt_of_lt_of_le hbb HWQ.out.size
                have HWC := Lib.hid hwc
                obtain ⟨d, hd⟩ : ∃ d, edep a c = d := ⟨_, rfl⟩
                obtain ⟨h, hh⟩ : ∃ h, decide (prj a c x = prj a c y) = h := ⟨_, rfl⟩
                rw [hd] at K1
                rw [hh] at K4
                have hok : okp x y a c = (!d || h) := by unfold okp; rw [hd, hh]
                have HO2 := Lib.hid hok
                clear hc hfc hmc hstep hgc hWc hsc hwrc hz1 hga2 keep hsub hkx hky hfin hwc hd hh hok
                cases d with
                | false =>
                  clear K2 K3 K4
                  go_wp2_with fail
                  rw [HWC.out]
                  refine wp_region_held_drew (S := fun w' => (Below wc.heap.size wc w' ∧ w'.cell? ⟨wp.heap.size, 0, Option.none⟩ = some (.int .i64 a.1) ∧ w'.cell? ⟨wp.heap.size, 1, Option.none⟩ = some (.slice qa ma ca) ∧ w'.cell? ⟨wq.heap.size, 0, Option.none⟩ = some (.int .i64 c.1) ∧ w'.cell? ⟨wq.heap.size, 1, Option.none⟩ = some (.slice qc mc cc))) (by kernel_rfl) hs0 (fun hX1 => ?_)
                  clear hX1
                  refine wpAnyH_take (i := 0) (oi := ⟨_, _, _, _, _, _⟩) (v := .agg #[.int .i64 a.1, .slice qa ma ca]) rfl (by kernel_rfl) (by kernel_rfl) (by kernel_rfl) (fun _ _ _ h => h) (Or.inl ⟨by rfl, fun w hSw => by obtain ⟨_, z1, z2, z3, z4⟩ := hSw; go_simp⟩) hs0 ?_
                  try simp only [Act.put, List.setIfInBounds_toArray, List.set_cons_zero, List.set_cons_succ]
                  refine wpAnyH_take (i := 1) (oi := ⟨_, _, _, _, _, _⟩) (v := .agg #[.int .i64 c.1, .slice qc mc cc]) rfl (by kernel_rfl) (by kernel_rfl) (by kernel_rfl) (fun _ _ _ h => h) (Or.inl ⟨by rfl, fun w hSw => by obtain ⟨_, z1, z2, z3, z4⟩ := hSw; go_simp⟩) hs0 ?_
                  try simp only [Act.put, List.setIfInBounds_toArray, List.set_cons_zero, List.set_cons_succ]
                  refine wpAnyH_ready (rs := [2]) (by kernel_rfl) (by simp) ?_
                  refine AllReadyH.cons (o := ⟨_, _, _, _, _, _⟩) rfl (fun K hK => ?_) AllReadyH.nil
                  go_simp
                  go_at_call 19
                  refine (K1.out _ hs0).mono ?_
                  rintro r w' ⟨rfl, hsA⟩
                  refine hK.out _ _ hsA (fun hX2 => ?_)
                  clear hX2
                  clear hK K
                  try simp only [Act.put, List.setIfInBounds_toArray, List.set_cons_zero, List.set_cons_succ]
                  refine wpAnyH_take (i := 3) (oi := ⟨_, _, _, _, _, _⟩) (v := .bool false) rfl (by kernel_rfl) (by kernel_rfl) (by kernel_rfl) (fun _ _ _ h => h) (Or.inl ⟨by rfl, fun w hSw => by go_simp⟩) hsA ?_
                  try simp only [Act.put, List.setIfInBounds_toArray, List.set_cons_zero, List.set_cons_succ]
                  refine wpAnyH_take (i := 4) (oi := ⟨_, _, _, _, _, _⟩) (v := undef) rfl (by kernel_rfl) (by kernel_rfl) (by kernel_rfl) (fun _ _ _ h => h) (Or.inr ⟨by kernel_rfl, rfl⟩) hsA ?_
                  try simp only [Act.put, List.setIfInBounds_toArray, List.set_cons_zero, List.set_cons_succ]
                  refine wpAnyH_take (i := 5) (oi := ⟨_, _, _, _, _, _⟩) (v := undef) rfl (by kernel_rfl) (by kernel_rfl) (by kernel_rfl) (fun _ _ _ h => h) (Or.inr ⟨by kernel_rfl, rfl⟩) hsA ?_
                  try simp only [Act.put, List.setIfInBounds_toArray, List.set_cons_zero, List.set_cons_succ]
                  refine wpAnyH_take (i := 6) (oi := ⟨_, _, _, _, _, _⟩) (v := undef) rfl (by kernel_rfl) (by kernel_rfl) (by kernel_rfl) (fun _ _ _ h => h) (Or.inr ⟨by kernel_rfl, rfl⟩) hsA ?_
                  try simp only [Act.put, List.setIfInBounds_toArray, List.set_cons_zero, List.set_cons_succ]
                  refine wpAnyH_take (i := 7) (oi := ⟨_, _, _, _, _, _⟩) (v := undef) rfl (by kernel_rfl) (by kernel_rfl) (by kernel_rfl) (fun _ _ _ h => h) (Or.inr ⟨by kernel_rfl, rfl⟩) hsA ?_
                  try simp only [Act.put, List.setIfInBounds_toArray, List.set_cons_zero, List.set_cons_succ]
                  refine wpAnyH_take (i := 8) (oi := ⟨_, _, _, _, _, _⟩) (v := undef) rfl (by kernel_rfl) (by kernel_rfl) (by kernel_rfl) (fun _ _ _ h => h) (Or.inr ⟨by kernel_rfl, rfl⟩) hsA ?_
                  try simp only [Act.put, List.setIfInBounds_toArray, List.set_cons_zero, List.set_cons_succ]
                  refine wpAnyH_take (i := 9) (oi := ⟨_, _, _, _, _, _⟩) (v := undef) rfl (by kernel_rfl) (by kernel_rfl) (by kernel_rfl) (fun _ _ _ h => h) (Or.inr ⟨by kernel_rfl, rfl⟩) hsA ?_
                  try simp only [Act.put, List.setIfInBounds_toArray, List.set_cons_zero, List.set_cons_succ]
                  refine wpAnyH_take (i := 10) (oi := ⟨_, _, _, _, _, _⟩) (v := undef) rfl (by kernel_rfl) (by kernel_rfl) (by kernel_rfl) (fun _ _ _ h => h) (Or.inr ⟨by kernel_rfl, rfl⟩) hsA ?_
                  try simp only [Act.put, List.setIfInBounds_toArray, List.set_cons_zero, List.set_cons_succ]
                  refine wpAnyH_take (i := 11) (oi := ⟨_, _, _, _, _, _⟩) (v := undef) rfl (by kernel_rfl) (by kernel_rfl) (by kernel_rfl) (fun _ _ _ h => h) (Or.inr ⟨by kernel_rfl, rfl⟩) hsA ?_
                  try simp only [Act.put, List.setIfInBounds_toArray, List.set_cons_zero, List.set_cons_succ]
                  refine wpAnyH_take (i := 12) (oi := ⟨_, _, _, _, _, _⟩) (v := undef) rfl (by kernel_rfl) (by kernel_rfl) (by kernel_rfl) (fun _ _ _ h => h) (Or.inr ⟨by kernel_rfl, rfl⟩) hsA ?_
                  try simp only [Act.put, List.setIfInBounds_toArray, List.set_cons_zero, List.set_cons_succ]
                  refine wpAnyH_take (i := 13) (oi := ⟨_, _, _, _, _, _⟩) (v := undef) rfl (by kernel_rfl) (by kernel_rfl) (by kernel_rfl) (fun _ _ _ h => h) (Or.inr ⟨by kernel_rfl, rfl⟩) hsA ?_
                  try simp only [Act.put, List.setIfInBounds_toArray, List.set_cons_zero, List.set_cons_succ]
                  refine wpAnyH_take (i := 14) (oi := ⟨_, _, _, _, _, _⟩) (v := .bool false) rfl (by kernel_rfl) (by kernel_rfl) (by kernel_rfl) (fun _ _ _ h => h) (Or.inl ⟨by rfl, fun w hSw => by go_simp⟩) hsA ?_
                  try simp only [Act.put, List.setIfInBounds_toArray, List.set_cons_zero, List.set_cons_succ]
                  refine wpAnyH_done (by kernel_rfl) ?_ _
                  have HZ := HFIN.out w' hsA.1
                  have HN2 : Hid ((b1 && (x.take (q + 1)).all (okp x y a)) = b2) := Lib.hid (by rw [HST.out, HO2.out]; simp)
                  clear hsA hs0 c3' c4'
                  go_wp2
                  go_roundw
                  case rel => exact ⟨q + 1, by go_num, by omega, by rw [HN2.out], HZ.out⟩
                  case measure => simp [intOf]; omega
                | true =>
                  go_wp2_with fail
                  rw [HWC.out]
                  go_region_held3 (fun w' => (Below wc.heap.size wc w' ∧ w'.cell? ⟨wp.heap.size, 0, Option.none⟩ = some (.int .i64 a.1) ∧ w'.cell? ⟨wp.heap.size, 1, Option.none⟩ = some (.slice qa ma ca) ∧ w'.cell? ⟨wq.heap.size, 0, Option.none⟩ = some (.int .i64 c.1) ∧ w'.cell? ⟨wq.heap.size, 1, Option.none⟩ = some (.slice qc mc cc)))
                    (first | exact hs0 | assumption)
                    (first
                      | (go_at_call 19; refine (K1.out _ (by assumption)).mono ?_; rintro r w' ⟨rfl, hsA⟩)
                      | (go_at_call 15; refine (K4.out _ _ _ (by assumption) (hvX _ hbY) hvY).mono ?_; rintro r w' ⟨rfl, hsD⟩)
                      | (have hvXX := hvX; clear hvXX; go_at_call 30; refine (K3.out _ (by assumption)).mono ?_; rintro r w' ⟨vY, rfl, hvY, hbY, hsC⟩)
                      | (go_at_call 30; refine (K2.out _ (by assumption)).mono ?_; rintro r w' ⟨vX, rfl, hvX, hsB⟩))
                  have HZ := HFIN.out w' hsD.1
                  clear hsA hsB hsC hsD hs0 hvX hvY hbY c3' c4'
                  rename_i hH
                  clear hH
                  cases h with
                  | true =>
                    have HN2 : Hid ((b1 && (x.take (q + 1)).all (okp x y a)) = b2) := Lib.hid (by rw [HST.out, HO2.out]; simp)
                    go_wp2
                    go_roundw
                    case rel => exact ⟨q + 1, by go_num, by omega, by rw [HN2.out], HZ.out⟩
                    case measure => simp [intOf]; omega
                  | false =>
                    have HN2 : Hid ((b1 && (x.take (q + 1)).all (okp x y a)) = false) := Lib.hid (by rw [HST.out, HO2.out]; simp)
                    go_wp2
                    go_roundw
                    case rel => exact ⟨q + 1, by go_num, by omega, by rw [HN2.out], HZ.out⟩
                    case measure => simp [intOf]; omega
              · obtain rfl : q = i := by omega
                have HN2 : Hid (((x.take (p + 1)).all fun a => x.all (okp x y a)) = b2) := Lib.hid (by
                  have h2 := HB2'.out
                  rw [List.take_of_length_le (by rw [HXL.out]; exact Nat.le_refl _)] at h2
                  rw [show x.take (p + 1) = x.take p ++ (x[p]?).toList from List.take_add_one, HAX.out, List.all_append, HB1'.out, ← h2]
                  simp)
                go_wp2
                go_roundw
                case rel => exact ⟨p + 1, by go_num, by omega, by rw [HN2.out], HWQ.out⟩
                case measure => simp [intOf]; omega
          · obtain rfl : p = i := by omega
            have hb1 : b1 = smb x y := by
              rw [← HB1'.out, List.take_of_length_le (by rw [HXL.out]; exact Nat.le_refl _)]; exact HIS.out
            have HW9 : Hid (Below w.heap.size w wp) := Lib.hid (HBR.out.trans (HBP.out.mono HBR.out.size))
            have HS1 := HSm x y _ _ wp (HVR.out.kept HBP.out) (HYS.out.kept HBP.out) HK.out HKY.out
            rw [← hb1] at HS1
            have HS1 := Lib.hid HS1
            clear hb1
            go_wp2_with (go_at_call 21; refine Hid.out ?_)
            refine Lib.hid ?_
            refine HS1.out.mono ?_
            rintro e w9 ⟨rfl, hb⟩
            have HB9 : Hid (Below w.heap.size w w9) := Lib.hid (HW9.out.trans (hb.mono HW9.out.size))
            clear hb HS1
            go_wp2
            go_ret
            exact ⟨by simp, HB9.out⟩
end Go.Proofs.Ytmhaelfmojigoaa
