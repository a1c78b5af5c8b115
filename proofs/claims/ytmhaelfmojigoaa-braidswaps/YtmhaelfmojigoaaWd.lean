/- BraidWhole: the same but for swaps just if the one comes of the other one by swaps. -/
import Derived.Test.YtmhaelfmojigoaaPk
import Derived.Deep.RegionLaw
import Derived.BigRegion
set_option linter.unusedSimpArgs false
set_option linter.unusedVariables false
namespace Go.Proofs.Ytmhaelfmojigoaa
open Go.RowKit

/-- What comes in: a slice of small numbers. -/
def U8S (w : World) (v : Value) (l : List Nat) : Prop := (v = .slice Option.none 0 0 ∧ l = []) ∨ ∃ a cap, v = .slice (some a) l.length cap ∧ l.length ≤ cap ∧ cap ≤ maxLen ∧ (l ≠ [] → ∃ b o, a = ⟨b, o, Option.none⟩ ∧ b < w.heap.size ∧ ∀ (i n : Nat), l[i]? = some n → w.cell? ⟨b, o + i, Option.none⟩ = some (.int .u8 (n : Int)))
theorem U8S.form {w : World} {v : Value} {l : List Nat} (h : U8S w v l) : ∃ p cap, v = .slice p l.length cap ∧ l.length ≤ cap := by
  rcases h with ⟨rfl, rfl⟩ | ⟨a, cap, rfl, h, _⟩
  · exact ⟨_, 0, rfl, Nat.le_refl _⟩
  · exact ⟨_, cap, rfl, h⟩
theorem U8S.one {w : World} {p : Option Addr} {n cap j k : Nat} {l : List Nat} (h : U8S w (.slice p n cap) l) (hx : l[j]? = some k) :
    ∃ b o, p = some ⟨b, o, Option.none⟩ ∧ b < w.heap.size ∧ ∀ W, Below w.heap.size w W → W.cell? ⟨b, o + j, Option.none⟩ = some (.int .u8 (k : Int)) := by
  rcases h with ⟨_, h0⟩ | ⟨a, c, h0, _, _, h⟩
  · rw [h0] at hx; simp at hx
  · obtain ⟨b, o, rfl, hb, hr⟩ := h (by rintro rfl; simp at hx)
    simp only [Value.slice.injEq] at h0
    exact ⟨b, o, h0.1, hb, fun W kk => (kk.cell (p := ⟨b, _, Option.none⟩) hb).trans (hr j k hx)⟩
set_option maxHeartbeats 2000000 in
/-- The closure of BraidWhole: are the events the same as what it holds? -/
theorem cls42 (y z : Evl) (vy u : Value) (b : Nat) (W : World) (h0 : W.cell? ⟨b, 0, Option.none⟩ = some vy) (h1 : EvS W vy y) (h2 : EvS W u z) (hl : y.length ≤ 1000) (hl2 : z.length ≤ 1000) (h8 : ∀ e ∈ y, e.2.length ≤ 1000) (h9 : ∀ e ∈ z, e.2.length ≤ 1000) :
    Calls Try.prog 27 #[u, .pointer (some ⟨b, 0, Option.none⟩)] W fun e w' => e = .returned (.bool (decide (y = z))) ∧ Below W.heap.size W w' := by
  have HC := Lib.hid (equal_evs y z vy u W h1 h2 hl hl2 h8 h9)
  obtain ⟨d, hd⟩ : ∃ d, decide (y = z) = d := ⟨_, rfl⟩
  rw [hd] at HC ⊢
  clear h1 h2 hl hl2 h8 h9 hd
  go_enter Try.func27, Try.ntmps27
  go_wp2_with (go_at_call 15; refine Hid.out ?_)
  refine Lib.hid ?_
  refine HC.out.mono ?_
  rintro e w' ⟨rfl, hb⟩
  have HB := Lib.hid hb
  clear hb
  go_wp2
  go_ret
  exact ⟨rfl, HB.out⟩
theorem eg42 : ∀ args w, (callFunc 27 args).run Try.prog w = .ok (.enter 27 args) w := enters_of Try.func27 (by kernel_rfl) rfl
set_option maxRecDepth 100000 in
set_option maxHeartbeats 16000000 in
theorem whole_any (HAw : AwB) (HSm : SameC) (l : Evl) (ord : List Nat) (v u : Value) (w : World) (hs : ES w v l) (hok : eok l) (hl : l.length ≤ 9223372036854775807) (hu : U8S w u ord) (hul : ord.length ≤ 9223372036854775807) (hu8 : ∀ n ∈ ord, n < 256) : Calls Try.prog 5 #[v, u] w fun e w' => e = .returned (.bool true) ∧ Below w.heap.size w w' := by
  obtain ⟨pu, cu, rfl, hcu⟩ := hu.form
  obtain ⟨U, hU⟩ : ∃ U, ord.length = U := ⟨_, rfl⟩
  rw [hU] at hu hcu hul ⊢
  have HU := Lib.hid hu
  have HUL := Lib.hid hU
  have HU8 := Lib.hid hu8
  clear hu hU hu8
  obtain ⟨p0, cap0, rfl, hcap0⟩ := hs.form
  obtain ⟨A0, hA0⟩ : ∃ A, l.length = A := ⟨_, rfl⟩
  have HS := Lib.hid hs
  rw [hA0] at HS hcap0 hl ⊢
  have HA0 := Lib.hid hA0
  have HOK := Lib.hid hok
  clear hs hA0 hok
  go_enter Try.func5, Try.ntmps5
  go_wp2_with (go_at_call 9; refine Hid.out ?_)
  refine Lib.hid ?_
  refine (HAw _).mono ?_
  rintro e w1 ⟨rfl, hb⟩
  have HB1 := Lib.hid hb
  clear hb
  have HLT := light_any l 5 _ w1 (HS.out.kept HB1.out) (by rw [HA0.out]; exact hl)
  rw [show (l.all (fun e => decide (e.2.length ≤ 8)) && decide ((l.length : Int) ≤ 5)) = lgt l 5 from rfl] at HLT
  have HL := Lib.hid HLT
  clear HLT
  go_wp2_with (go_at_call 10; refine Hid.out ?_)
  refine Lib.hid ?_
  refine HL.out.mono ?_
  rintro e w2 ⟨rfl, hb⟩
  have HB2 : Hid (Below w.heap.size w w2) := Lib.hid (HB1.out.trans (hb.mono HB1.out.size))
  clear hb HL HB1
  obtain ⟨lt, hlt⟩ : ∃ b, lgt l 5 = b := ⟨_, rfl⟩
  rw [hlt]
  cases lt with
  | false =>
    clear hlt
    go_wp2
    go_ret
    exact ⟨rfl, HB2.out⟩
  | true =>
    obtain ⟨h8, hA24⟩ := lgt_true hlt
    have h24 : A0 ≤ 5 := by rw [HA0.out] at hA24; omega
    have HE1 := Lib.hid (events_any l _ w2 (HS.out.kept HB2.out) (by rw [HA0.out]; omega) HOK.out (fun e he => by have := h8 e he; omega))
    have HK := Lib.hid (evs_k (by rw [HA0.out]; omega) HOK.out h8)
    clear h8 hA24 hlt
    go_wp2_with (go_at_call 11; refine Hid.out ?_)
    refine Lib.hid ?_
    refine HE1.out.mono ?_
    rintro e w3 ⟨v3, rfl, hv3, hb⟩
    have HB3 : Hid (Below w.heap.size w w3) := Lib.hid (HB2.out.trans (hb.mono HB2.out.size))
    clear hb HE1
    obtain ⟨x, hx⟩ : ∃ x, evs l = x := ⟨_, rfl⟩
    have hxl : x.length = A0 := by rw [← hx, evs_len, HA0.out]
    rw [hx] at HK hv3
    have HXL := Lib.hid hxl
    obtain ⟨p3, c3, hve, hc3⟩ : ∃ p c, v3 = .slice p A0 c ∧ A0 ≤ c := by
      obtain ⟨p, c, h1, h2, _⟩ := id hv3
      rw [hxl] at h1 h2
      exact ⟨p, c, h1, h2⟩
    subst hve
    have HV3 := Lib.hid hv3
    have HXE := Lib.hid hx
    clear hv3 hx hxl
    have HP3 := Lib.hid HV3.out.toP
    have HCL := Lib.hid (clone_evp x _ w3 HP3.out (by rw [HXL.out]; omega))
    go_wp2_with (go_at_call 23; refine Hid.out ?_)
    refine Lib.hid ?_
    refine HCL.out.mono ?_
    rintro e w4 ⟨v4, rfl, hi4, hb⟩
    have HB4 := Lib.hid hb
    have HI4 := Lib.hid hi4
    clear hb HCL hi4
    go_wp2_with fail
    have HPK : Hid (PkI w3 ((w4.alloc (Obj.cells #[] 39)).alloc (Obj.cells #[Value.slice (some ⟨w4.heap.size, 0, Option.none⟩) 0 0] 25)) (w4.heap.size + 1) v4 (.slice (some ⟨w4.heap.size, 0, Option.none⟩) 0 0) x []) := by
      have hW := below_alloc w4 (Obj.cells #[] 39)
      have hW2 : Below w4.heap.size w4 ((w4.alloc (Obj.cells #[] 39)).alloc (Obj.cells #[Value.slice (some ⟨w4.heap.size, 0, Option.none⟩) 0 0] 25)) := hW.alloc (by simp) _
      have hs4 := HB4.out.size
      refine Lib.hid ⟨HI4.out.kept hW2, ⟨[], ?_, fun i e h => by simp at h⟩, ?_, by omega, fun q hq => ?_, fun q hq => ?_, HB4.out.trans (hW2.mono hs4)⟩
      · exact own_kept (World.ownsRow_lit w4 #[] 0 hs4 (Nat.zero_le _) rfl) (below_alloc _ _)
      · have := heap_alloc_new (w4.alloc (Obj.cells #[] 39)) (Obj.cells #[Value.slice (some ⟨w4.heap.size, 0, Option.none⟩) 0 0] 25)
        simpa using this
      · have h1 := (HI4.out.own hq).2
        exact ⟨by omega, fun e => by have h2 : w4.heap.size = q := Option.some.inj e; omega⟩
      · have h2 : w4.heap.size = q := Option.some.inj hq
        omega
    have HZ4 : Hid (w4.heap.size + 1 < ((w4.alloc (Obj.cells #[] 39)).alloc (Obj.cells #[Value.slice (some ⟨w4.heap.size, 0, Option.none⟩) 0 0] 25)).heap.size) := Lib.hid (by simp)
    generalize (w4.alloc (Obj.cells #[] 39)).alloc (Obj.cells #[Value.slice (some ⟨w4.heap.size, 0, Option.none⟩) 0 0] 25) = w5 at HPK HZ4 ⊢
    generalize w4.heap.size + 1 = B at HPK HZ4 ⊢
    clear HP3
    go_loopw [6, 23] (fun s6 s23 wr => ∃ (i : Nat) (yv : Value) (left y : Evl), s23 = .int .i64 (i : Int) ∧ i ≤ A0 ∧ PkI w3 wr B s6 yv left y ∧ (y ++ left).Perm x ∧ y.length = i) (fun _ s _ => A0 - (intOf s).toNat)
    case atStart => exact ⟨0, _, x, [], rfl, by omega, HPK.out, by simp, rfl⟩
    case round =>
      clear HPK HZ4 HB4 HI4
      obtain ⟨i, yv, left, y, rfl, hi, hpk, hpm, hyl⟩ := hrel
      have hll : left.length = A0 - i := by
        have h1 := hpm.length_eq
        rw [List.length_append, hyl, HXL.out] at h1
        omega
      have HPM := Lib.hid hpm
      have HYL := Lib.hid hyl
      have HLL := Lib.hid hll
      have HPK := Lib.hid hpk
      clear hpm hyl hll
      by_cases hlt : i < A0
      · obtain ⟨g, c, rfl⟩ : ∃ g c, u6 = .slice (some ⟨g, 0, Option.none⟩) (A0 - i) c := by
          obtain ⟨cs, h1, _⟩ := hpk.hl
          rcases h1.2 with ⟨_, h⟩ | ⟨g, c, cur, h, _⟩
          · rw [HLL.out] at h; omega
          · exact ⟨g, c, by rw [h, HLL.out]⟩
        clear hpk
        obtain ⟨N, hN⟩ : ∃ N, A0 - i = N := ⟨_, rfl⟩
        rw [hN] at HLL HPK ⊢
        have hNp : 0 < N := by omega
        have hNl : N ≤ 5 := by omega
        have HN := Lib.hid hN
        have hN0 : ¬ (N : Int) = 0 := by omega
        have hbx := HPK.out.box
        have cbx : wr.cell? ⟨B, 0, Option.none⟩ = some yv := by rw [cell_of_row _ _ _ _ _ _ hbx]; rfl
        clear hN hbx
        have key : ∀ k : Nat, k < N → Hid (∃ e q m d, left[k]? = some e ∧ wr.cell? ⟨g, k * 2, Option.none⟩ = some (.int .i64 e.1) ∧ wr.cell? ⟨g, k * 2 + 1, Option.none⟩ = some (.slice q m d) ∧ MkP (Blw w3.heap.size) wr (.slice q m d) e.2) := fun k hk => by
          obtain ⟨e, he⟩ : ∃ e, left[k]? = some e := ⟨_, List.getElem?_eq_getElem (by rw [HLL.out]; exact hk)⟩
          obtain ⟨q, m, d, h1, h2, h3⟩ := HPK.out.hl.at he
          exact Lib.hid ⟨e, q, m, d, he, h1, h2, h3⟩
        by_cases hiu : i < U
        · have hiu' : (i : Int) < (U : Int) := by omega
          obtain ⟨n8, hn8⟩ : ∃ n, ord[i]? = some n := ⟨_, List.getElem?_eq_getElem (by rw [HUL.out]; exact hiu)⟩
          have hn256 := HU8.out n8 (List.mem_of_getElem? hn8)
          obtain ⟨b8, o8, rfl, hb8, hr8⟩ := HU.out.one hn8
          have kw : Below w.heap.size w wr := HB3.out.trans (HPK.out.bel.mono HB3.out.size)
          have c8 := hr8 wr kw
          clear hn8 hb8 hr8 kw
          have hw8 : IntKind.i64.wrap (n8 : Int) = (n8 : Int) := by rw [IntKind.wrap_i64]; omega
          have hrm : (n8 : Int).tmod (N : Int) = ((n8 % N : Nat) : Int) := by rw [Int.tmod_eq_emod_of_nonneg (by omega)]; rfl
          obtain ⟨k, hk⟩ : ∃ k, n8 % N = k := ⟨_, rfl⟩
          rw [hk] at hrm
          have hkN : k < N := by rw [← hk]; exact Nat.mod_lt _ hNp
          have hwk : IntKind.i64.wrap (k : Int) = (k : Int) := by rw [IntKind.wrap_i64]; omega
          clear hk
          go_wp2_with fail
          obtain ⟨e, q, m, d, he, c0, c1, hmk⟩ := (key k hkN).out
          obtain ⟨p', m', c', w', hrun, hcB, hfB, hpk2⟩ := HPK.out.append (e := e) (by rw [HYL.out]; omega) hmk
          have HPK2 := Lib.hid hpk2
          have hpm2 := perm_pick HPM.out he
          have HPM2 := Lib.hid hpm2
          have hel : (left.eraseIdx k).length = N - 1 := by rw [List.length_eraseIdx, if_pos (by rw [HLL.out]; omega), HLL.out]
          have HEL := Lib.hid hel
          have hyl2 : (y ++ [e]).length = i + 1 := by rw [List.length_append, HYL.out]; rfl
          have HYL2 := Lib.hid hyl2
          have hBz : B < wr.heap.size := lt_of_block HPK.out.box
          have hgz : g < wr.heap.size := (HPK.out.hl.own (q := g) rfl).2
          have mixed : Try.prog.follows Departure.mixedOrders = true := by kernel_rfl
          have hkl : k < N := hkN
          have hki : ((k : Nat) : Int) < (N : Int) := by omega
          clear he hmk hpk2 hpm2 hel hyl2 key
          skip
          go_region_law_o (refine step_app (by rfl) (.tmp 38) (.tmp 43) 25 (by rfl) _ _ _ w' (by rfl) (by rfl) hrun ?_)
          all_goals
            generalize w'.setCell ⟨B, 0, Option.none⟩ (.slice p' m' c') = w6 at HPK2 ⊢
            clear hcB hfB hrun c0 c1 cbx
            have HD : Calls Try.prog 24 #[.slice (some ⟨g, 0, Option.none⟩) N c, .int .i64 (k : Int), .int .i64 ((k : Int) + 1)] w6 _ := delete_ev left k g N c w3.heap.size w6 HPK2.out.hl HLL.out hkl (by omega)
            have HD := Lib.hid HD
            have hwk1 : IntKind.i64.wrap (((k : Nat) : Int) + 1) = ((k : Nat) : Int) + 1 := by rw [IntKind.wrap_i64]; omega
            go_wp2_with (go_at_call 24; refine Hid.out ?_)
            refine Lib.hid ?_
            refine HD.out.mono ?_
            rintro e' w7 ⟨rfl, hd, hgr⟩
            have HPK3 := Lib.hid (HPK2.out.del hd hgr)
            clear hd hgr HD hwk1
            go_wp2
            go_roundw
            case rel => exact ⟨i + 1, _, _, y ++ [e], by go_num, by omega, HPK3.out, HPM2.out, HYL2.out⟩
            case measure => simp [intOf]; omega
        · have hiu' : ¬ (i : Int) < (U : Int) := by omega
          go_wp2_with fail
          obtain ⟨e, q, m, d, he, c0, c1, hmk⟩ := (key 0 hNp).out
          obtain ⟨p', m', c', w', hrun, hcB, hfB, hpk2⟩ := HPK.out.append (e := e) (by rw [HYL.out]; omega) hmk
          have HPK2 := Lib.hid hpk2
          have hpm2 := perm_pick HPM.out he
          have HPM2 := Lib.hid hpm2
          have hel : (left.eraseIdx 0).length = N - 1 := by rw [List.length_eraseIdx, if_pos (by rw [HLL.out]; omega), HLL.out]
          have HEL := Lib.hid hel
          have hyl2 : (y ++ [e]).length = i + 1 := by rw [List.length_append, HYL.out]; rfl
          have HYL2 := Lib.hid hyl2
          have hBz : B < wr.heap.size := lt_of_block HPK.out.box
          have hgz : g < wr.heap.size := (HPK.out.hl.own (q := g) rfl).2
          have mixed : Try.prog.follows Departure.mixedOrders = true := by kernel_rfl
          have hkl : 0 < N := hNp
          have hki : ((0 : Nat) : Int) < (N : Int) := by omega
          clear he hmk hpk2 hpm2 hel hyl2 key
          simp only [Nat.zero_mul, Nat.zero_add] at c0 c1
          go_region_law_o (refine step_app (by rfl) (.tmp 38) (.tmp 43) 25 (by rfl) _ _ _ w' (by rfl) (by rfl) hrun ?_)
          all_goals
            generalize w'.setCell ⟨B, 0, Option.none⟩ (.slice p' m' c') = w6 at HPK2 ⊢
            clear hcB hfB hrun c0 c1 cbx
            have HD : Calls Try.prog 24 #[.slice (some ⟨g, 0, Option.none⟩) N c, .int .i64 0, .int .i64 (1)] w6 _ := delete_ev left 0 g N c w3.heap.size w6 HPK2.out.hl HLL.out hkl (by omega)
            have HD := Lib.hid HD
            have hwk1 : IntKind.i64.wrap (((0 : Nat) : Int) + 1) = ((0 : Nat) : Int) + 1 := by rw [IntKind.wrap_i64]; omega
            go_wp2_with (go_at_call 24; refine Hid.out ?_)
            refine Lib.hid ?_
            refine HD.out.mono ?_
            rintro e' w7 ⟨rfl, hd, hgr⟩
            have HPK3 := Lib.hid (HPK2.out.del hd hgr)
            clear hd hgr HD hwk1
            go_wp2
            go_roundw
            case rel => exact ⟨i + 1, _, _, y ++ [e], by go_num, by omega, HPK3.out, HPM2.out, HYL2.out⟩
            case measure => simp [intOf]; omega
      · obtain rfl : i = A0 := by omega
        have hl0 : left = [] := List.eq_nil_of_length_eq_zero (by rw [HLL.out]; omega)
        have hyx : y.Perm x := by have := HPM.out; rwa [hl0, List.append_nil] at this
        have hbel := HPK.out.bel
        have HVR := Lib.hid (HV3.out.kept (HPK.out.bel.mono (by omega)))
        have HVR := Lib.hid ((show EvS wr (.slice p3 i c3) x from by
          have h1 := HV3.out
          exact h1.kept hbel))
        have HBR : Hid (Below w.heap.size w wr) := Lib.hid (HB3.out.trans (hbel.mono HB3.out.size))
        have hbx := HPK.out.box
        have hBz := lt_of_block hbx
        have HYS := Lib.hid HPK.out.hy.evs.toS
        have HKY := Lib.hid (HK.out.sub (y := y) (by rw [hyx.length_eq]; exact (Nat.le_trans HK.out.1 (by omega))) (fun e he => hyx.mem_iff.1 he))
        have HBX := Lib.hid hbx
        have HBZ := Lib.hid hBz
        obtain ⟨py, cy, hye⟩ : ∃ p c, yv = .slice p i c := by
          obtain ⟨p, c, h1, _⟩ := HYS.out
          rw [HYL.out] at h1
          exact ⟨p, c, h1⟩
        subst hye
        have HALL := Lib.hid (all_any x _ wr HVR.out (by rw [HXL.out]; omega) HK.out.mk8)
        clear hl0 hyx hbel hbx hBz hpk HPK HPM hlt
        go_wp2_with (go_at_call 26; refine Hid.out ?_)
        refine Lib.hid ?_
        refine HALL.out.mono ?_
        rintro e w6 ⟨v6, rfl, L, us, hal, hLy, hL120, hb⟩
        have HB6 : Hid (Below w.heap.size w w6) := Lib.hid (HBR.out.trans (hb.mono HBR.out.size))
        have HW6 := Lib.hid hb
        have HAL := Lib.hid hal
        have HLY := Lib.hid hLy
        have HYS6 := Lib.hid (HYS.out.kept hb)
        have HVS6 := Lib.hid (HVR.out.kept hb)
        have HBX6 : Hid (w6.heap[B]? = some (.cells #[.slice py i cy] 25 (0, 0))) := Lib.hid (by rw [hb.block B HBZ.out]; exact HBX.out)
        have HBZ6 : Hid (B < w6.heap.size) := Lib.hid (lt_of_block HBX6.out)
        have HCF := Lib.hid (containsf_any y 27 #[.pointer (some ⟨B, 0, Option.none⟩)] eg42 L us wr.heap.size v6 w6 hal (by omega) (fun W u z k hu hz => by
          have hp := (hLy z).1 hz
          have hcell : W.cell? ⟨B, 0, Option.none⟩ = some (.slice py i cy) := by rw [k.cell (p := ⟨B, 0, Option.none⟩) HBZ6.out, cell_of_row _ _ _ _ _ _ HBX6.out]; rfl
          have hkz := HK.out.tr hp
          exact cls42 y z _ u B W hcell (HYS6.out.kept k) hu (Nat.le_trans HKY.out.1 (by omega)) (Nat.le_trans hkz.1 (by omega)) HKY.out.mk8 hkz.mk8))
        have hmem : decide (y ∈ L) = smb x y := by rw [Bool.eq_iff_iff, smb_iff, decide_eq_true_eq]; exact hLy y
        have hsym : smb y x = smb x y := by rw [Bool.eq_iff_iff, smb_iff, smb_iff]; exact ⟨fun h => h.symm edep_symm, fun h => h.symm edep_symm⟩
        rw [hmem] at HCF
        have HSY := Lib.hid hsym
        clear hb hal hLy HALL hmem hsym
        obtain ⟨d, hd⟩ : ∃ d, smb x y = d := ⟨_, rfl⟩
        rw [hd] at HCF HSY
        have HD := Lib.hid hd
        clear hd
        go_wp2_with (go_at_call 25; refine Hid.out ?_)
        refine Lib.hid ?_
        refine HCF.out.mono ?_
        rintro e w7 ⟨rfl, hb⟩
        have HB7 : Hid (Below w.heap.size w w7) := Lib.hid (HB6.out.trans (hb.mono HB6.out.size))
        have hz7 : B < w7.heap.size := Nat.lt_of_lt_of_le HBZ6.out hb.size
        have hc7 : w7.cell? ⟨B, 0, Option.none⟩ = some (.slice py i cy) := by rw [hb.cell (p := ⟨B, 0, Option.none⟩) HBZ6.out, cell_of_row _ _ _ _ _ _ HBX6.out]; rfl
        have HYS7 := Lib.hid (HYS6.out.kept hb)
        have HVS7 := Lib.hid (HVS6.out.kept hb)
        have HS1 := HSm x y _ _ w7 HVS7.out HYS7.out HK.out HKY.out
        rw [HD.out] at HS1
        have HS1 := Lib.hid HS1
        clear hb HCF
        go_wp2_with (go_at_call 21; refine Hid.out ?_)
        refine Lib.hid ?_
        refine HS1.out.mono ?_
        rintro e w8 ⟨rfl, hb⟩
        have HB8 : Hid (Below w.heap.size w w8) := Lib.hid (HB7.out.trans (hb.mono HB7.out.size))
        have hc8 : w8.cell? ⟨B, 0, Option.none⟩ = some (.slice py i cy) := (hb.cell (p := ⟨B, 0, Option.none⟩) hz7).trans hc7
        have HS2 := HSm y x _ _ w8 (HYS7.out.kept hb) (HVS7.out.kept hb) HKY.out HK.out
        rw [HSY.out] at HS2
        have HS2 := Lib.hid HS2
        clear hb HS1 hc7
        have hdd : (d == d) = true := by simp
        go_wp2_with (go_at_call 21; refine Hid.out ?_)
        refine Lib.hid ?_
        refine HS2.out.mono ?_
        rintro e w9 ⟨rfl, hb⟩
        have HB9 : Hid (Below w.heap.size w w9) := Lib.hid (HB8.out.trans (hb.mono HB8.out.size))
        clear hb HS2 hc8
        go_wp2
        go_ret
        exact ⟨by simp, HB9.out⟩
end Go.Proofs.Ytmhaelfmojigoaa
