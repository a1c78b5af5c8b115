/- BraidInitials: the threads that can come first. -/
import Derived.Test.YtmhaelfmojigoaaIz
import Derived.Test.YtmhaelfmojigoaaEi
set_option linter.unusedSimpArgs false
set_option linter.unusedVariables false
namespace Go.Proofs.Ytmhaelfmojigoaa
open Go.RowKit

theorem range_snoc (n : Nat) : List.range (n + 1) = List.range n ++ [n] := List.range_succ
set_option maxRecDepth 100000 in
set_option maxHeartbeats 16000000 in
theorem initials_any (HAw : AwB) (HIn : IniC) (l : Evl) (few : Bool) (v : Value) (w : World) (hs : ES w v l) (hok : eok l) (hl : l.length ≤ 9223372036854775807) : Calls Try.prog 6 #[v, .bool few] w fun e w' => e = .returned (.bool true) ∧ Below w.heap.size w w' := by
  obtain ⟨p0, cap0, rfl, hcap0⟩ := hs.form
  obtain ⟨A0, hA0⟩ : ∃ A, l.length = A := ⟨_, rfl⟩
  have HS := Lib.hid hs
  rw [hA0] at HS hcap0 hl ⊢
  have HA0 := Lib.hid hA0
  have HOK := Lib.hid hok
  clear hs hA0 hok
  go_enter Try.func6, Try.ntmps6
  go_wp2_with (go_at_call 9; refine Hid.out ?_)
  refine Lib.hid ?_
  refine (HAw _).mono ?_
  rintro e w1 ⟨rfl, hb⟩
  have HB1 := Lib.hid hb
  clear hb
  have HLT := light_any l 20 _ w1 (HS.out.kept HB1.out) (by rw [HA0.out]; exact hl)
  rw [show (l.all (fun e => decide (e.2.length ≤ 8)) && decide ((l.length : Int) ≤ 20)) = lgt l 20 from rfl] at HLT
  have HL := Lib.hid HLT
  clear HLT
  go_wp2_with (go_at_call 10; refine Hid.out ?_)
  refine Lib.hid ?_
  refine HL.out.mono ?_
  rintro e w2 ⟨rfl, hb⟩
  have HB2 : Hid (Below w.heap.size w w2) := Lib.hid (HB1.out.trans (hb.mono HB1.out.size))
  clear hb HL HB1
  obtain ⟨lt, hlt⟩ : ∃ b, lgt l 20 = b := ⟨_, rfl⟩
  rw [hlt]
  cases lt with
  | false =>
    clear hlt
    go_wp2
    go_ret
    exact ⟨rfl, HB2.out⟩
  | true =>
    obtain ⟨h8, hA24⟩ := lgt_true hlt
    have h24 : A0 ≤ 20 := by rw [HA0.out] at hA24; omega
    have HE1 := Lib.hid (events_any l _ w2 (HS.out.kept HB2.out) (by rw [HA0.out]; omega) HOK.out (fun e he => by have := h8 e he; omega))
    have HK := Lib.hid (evs_k (by rw [HA0.out]; omega) HOK.out h8)
    clear h8 hA24 hlt
    go_wp2_with (go_at_call 11; refine Hid.out ?_)
    refine Lib.hid ?_
    refine HE1.out.mono ?_
    rintro e w3 ⟨v3, rfl, hv3, hb⟩
    have HB3 : Hid (Below w.heap.size w w3) := Lib.hid (HB2.out.trans (hb.mono HB2.out.size))
    clear hb HE1
    obtain ⟨x, hx⟩ : ∃ x, evs l = x := ⟨_, rfl⟩
    have hxl : x.length = A0 := by rw [← hx, evs_len, HA0.out]
    rw [hx] at HK hv3
    have HXL := Lib.hid hxl
    obtain ⟨p3, c3, hve, hc3⟩ : ∃ p c, v3 = .slice p A0 c ∧ A0 ≤ c := by
      obtain ⟨p, c, h1, h2, _⟩ := id hv3
      rw [hxl] at h1 h2
      exact ⟨p, c, h1, h2⟩
    subst hve
    have HV3 := Lib.hid hv3
    have HXE := Lib.hid hx
    clear hv3 hx hxl
    go_wp2
    go_loopw [7, 23] (fun s7 s23 wr => ∃ (j : Nat), s23 = .int .i64 (j : Int) ∧ j ≤ A0 ∧ wr.ownsRow w3.heap.size 3 1 s7 (List.range j).length (nvs (List.range j)) ∧ Below w3.heap.size w3 wr) (fun _ s _ => A0 - (intOf s).toNat)
    case atStart => exact ⟨0, rfl, by omega, by simpa [nvs] using World.ownsRow_nil _ _ _ _, Below.refl _ _⟩
    case round =>
      obtain ⟨j, rfl, hj, ho, hb⟩ := hrel
      have HO := Lib.hid ho
      have HB := Lib.hid hb
      clear ho hb
      by_cases hlt : j < A0
      · have hg2 := heap_alloc_new wr (Obj.cells #[Value.int .i64 (j : Int)] 3)
        have hWb := below_alloc wr (Obj.cells #[Value.int .i64 (j : Int)] 3)
        obtain ⟨p', m', c', w', hrun, ho', hgr, _⟩ := app_ns2 (wr.alloc (Obj.cells #[Value.int .i64 (j : Int)] 3)) w3.heap.size u7 (List.range j) j (own_kept HO.out hWb) (by simp; omega) (by have := HB.out.size; simp; omega) ⟨wr.heap.size, 0, Option.none⟩ (by rw [add_lit, cell_of_row _ _ _ _ _ _ hg2]; rfl)
        have HO' : Hid (w'.ownsRow w3.heap.size 3 1 (.slice p' m' c') (List.range (j + 1)).length (nvs (List.range (j + 1)))) := Lib.hid (by rw [range_snoc]; exact ho')
        have HB' : Hid (Below w3.heap.size w3 w') := Lib.hid ((HB.out.trans (hWb.mono HB.out.size)).grown hgr (by have := HB.out.size; simp; omega) (fun k hk => (HO.out.lt k hk).1))
        clear hg2 hWb ho' hgr
        go_wp2_with (at_builtin; refine wpList_app rfl (.tmp 26) (.tmp 28) 28 rfl _ _ _ w' rfl rfl hrun ?_)
        clear hrun
        go_wp2
        go_roundw
        case rel => exact ⟨j + 1, by go_num, by omega, HO'.out, HB'.out⟩
        case measure => simp [intOf]; omega
      · obtain rfl : j = A0 := by omega
        have HNS := ns_of_own HO.out
        have HVR := Lib.hid (HV3.out.kept HB.out)
        have HBR : Hid (Below w.heap.size w wr) := Lib.hid (HB3.out.trans (HB.out.mono HB3.out.size))
        obtain ⟨pl, cl, hle⟩ : ∃ p c, u7 = .slice p j c := by
          obtain ⟨p, c, h1, _⟩ := id HNS
          rw [List.length_range] at h1
          exact ⟨p, c, h1⟩
        subst hle
        have HFR := Lib.hid (free_any x (List.range j) _ _ wr HVR.out HNS (by rw [HXL.out]; omega) (by simp; omega) HK.out.mk8 (fun i hi => by rw [HXL.out]; exact List.mem_range.1 hi))
        obtain ⟨F, hF⟩ : ∃ F, frs (dpi x) [] (List.range j) = F := ⟨_, rfl⟩
        rw [hF] at HFR
        have hFm : ∀ i ∈ F, i < j := fun i hi => List.mem_range.1 (frs_mem (by rw [hF]; exact hi))
        have hFl : F.length ≤ j := by rw [← hF]; simpa using frs_len (dpi x) (List.range j)
        have hFi : bitsI (F.map (thi x)) = ini x := by rw [← hF, ini_frs, HXL.out]
        have hFb : ∀ k, bitsI ((F.take k).map (thi x)) < 32 := fun k => bits_lt _ fun t ht => by
          obtain ⟨i, hi, rfl⟩ := List.mem_map.1 ht
          have hij := hFm i (List.mem_of_mem_take hi)
          have hmem : x[i]? = some x[i]! := by rw [getElem!_pos x i (by rw [HXL.out]; exact hij), List.getElem?_eq_getElem]
          have := HK.out.2 _ (List.mem_of_getElem? hmem)
          exact ⟨this.2.1, this.2.2⟩
        obtain ⟨NF, hNF⟩ : ∃ n, F.length = n := ⟨_, rfl⟩
        have HFM := Lib.hid hFm
        have HFI := Lib.hid hFi
        have HFB := Lib.hid hFb
        have HNF := Lib.hid hNF
        rw [hNF] at hFl
        clear HO HNS hF hFm hFi hFb hNF hlt HB
        go_wp2_with (go_at_call 28; refine Hid.out ?_)
        refine Lib.hid ?_
        refine HFR.out.mono ?_
        rintro e w4 ⟨v4, rfl, ho4, hb⟩
        have HB4 : Hid (Below w.heap.size w w4) := Lib.hid (HBR.out.trans (hb.mono HBR.out.size))
        have HV4 := Lib.hid (HVR.out.kept hb)
        have hns := ns_of_own ho4
        obtain ⟨pf, cf, hve, hcf, hfr⟩ := hns
        rw [HNF.out] at hve hcf
        subst hve
        have HFR2 := Lib.hid hfr
        clear hb ho4 hfr HFR
        go_wp2
        go_loopw [6, 35] (fun s6 s35 wr => ∃ (k : Nat), s35 = .int .i64 (k : Int) ∧ k ≤ NF ∧ s6 = .int .u64 ((bitsI ((F.take k).map (thi x)) : Nat) : Int) ∧ wr = w4) (fun _ s _ => NF - (intOf s).toNat)
        case atStart => exact ⟨0, rfl, by omega, by simp [bitsI], rfl⟩
        case round =>
          obtain ⟨k, rfl, hk, rfl, rfl⟩ := hrel
          obtain ⟨a, ha⟩ : ∃ a, bitsI ((F.take k).map (thi x)) = a := ⟨_, rfl⟩
          have ha32 : a < 32 := by rw [← ha]; exact HFB.out k
          rw [ha]
          have HAK := Lib.hid ha
          clear ha
          by_cases hltk : k < NF
          · obtain ⟨i, hi⟩ : ∃ i, F[k]? = some i := ⟨_, List.getElem?_eq_getElem (by rw [HNF.out]; exact hltk)⟩
            have hij := HFM.out i (List.mem_of_getElem? hi)
            obtain ⟨f, hf⟩ : ∃ f, x[i]? = some f := ⟨_, List.getElem?_eq_getElem (by rw [HXL.out]; exact hij)⟩
            have hfk := HK.out.2 f (List.mem_of_getElem? hf)
            obtain ⟨t, ht⟩ : ∃ t : Int, f.1 = t := ⟨_, rfl⟩
            have ht0 : 0 ≤ t ∧ t < 5 := by rw [← ht]; exact hfk.2
            obtain ⟨b, o, rfl, hbb, hr⟩ : ∃ b o, p3 = some ⟨b, o, Option.none⟩ ∧ b < wr.heap.size ∧ EvR wr b o x := by
              obtain ⟨p, c, h1, _, _, h4⟩ := HV4.out
              simp only [Value.slice.injEq] at h1
              rcases h4 with ⟨_, h⟩ | ⟨b, o, h, h5, h6⟩
              · rw [h] at hf; simp at hf
              · exact ⟨b, o, by rw [h1.1, h], h5, h6⟩
            have c1 := (hr i f hf).1
            rw [ht] at c1
            obtain ⟨bf, of, rfl, hbf, hfr⟩ : ∃ b o, pf = some ⟨b, o, Option.none⟩ ∧ b < wr.heap.size ∧ ∀ (i n : Nat), F[i]? = some n → wr.cell? ⟨b, o + i, Option.none⟩ = some (.int .i64 (n : Int)) := by
              rcases HFR2.out with ⟨_, h⟩ | h
              · rw [h] at hi; simp at hi
              · exact h
            have c0 := hfr k i hi
            have hnext : bitsI ((F.take (k + 1)).map (thi x)) = a ||| (1 <<< t.toNat) := by
              rw [show F.take (k + 1) = F.take k ++ (F[k]?).toList from List.take_add_one, hi, List.map_append]
              simp only [Option.toList_some, List.map_cons, List.map_nil]
              rw [bits_snoc, HAK.out, thi_at hf, ht]
            have hsh : (2 : Int) ^ t.toNat < 32 ∧ (0 : Int) < 2 ^ t.toNat := by
              rcases (show t = 0 ∨ t = 1 ∨ t = 2 ∨ t = 3 ∨ t = 4 by omega) with rfl | rfl | rfl | rfl | rfl <;> decide
            have HNX := Lib.hid hnext
            clear hi hf hfk ht hr hfr hnext
            rcases (show t = 0 ∨ t = 1 ∨ t = 2 ∨ t = 3 ∨ t = 4 by omega) with rfl | rfl | rfl | rfl | rfl
            all_goals
              clear ht0 hsh
              go_wp2
              go_roundw
              case rel => exact ⟨k + 1, by go_num, by omega, by rw [HNX.out, ← or_bits a _ ha32 (by decide)]; rfl, trivial⟩
              case measure => simp [intOf]; omega
          · obtain rfl : k = NF := by omega
            have hak : a = ini x := by rw [← HAK.out, List.take_of_length_le (by rw [HNF.out]; exact Nat.le_refl _), HFI.out]
            have HI0 := HIn x _ wr HV4.out HK.out
            rw [← hak] at HI0
            have HI := Lib.hid HI0
            have HAI := Lib.hid hak
            clear HI0 hak
            go_wp2_with (go_at_call 29; refine Hid.out ?_)
            refine Lib.hid ?_
            refine HI.out.mono ?_
            rintro e w5 ⟨rfl, hb⟩
            have HB5 : Hid (Below w.heap.size w w5) := Lib.hid (HB4.out.trans (hb.mono HB4.out.size))
            have HV5 := Lib.hid (HV4.out.kept hb)
            clear hb HI
            by_cases h5 : 5 < j
            · have h5' : (5 : Int) < (j : Int) := by omega
              go_wp2
              go_ret
              exact ⟨rfl, HB5.out⟩
            · have h5' : ¬ (5 : Int) < (j : Int) := by omega
              have HALL := Lib.hid (all_any x _ w5 HV5.out (by rw [HXL.out]; omega) HK.out.mk8)
              go_wp2_with (go_at_call 26; refine Hid.out ?_)
              refine Lib.hid ?_
              refine HALL.out.mono ?_
              rintro e w6 ⟨v6, rfl, L, us, hal, hLy, hL120, hb⟩
              have HB6 : Hid (Below w.heap.size w w6) := Lib.hid (HB5.out.trans (hb.mono HB5.out.size))
              have hxL : x ∈ L := (hLy x).2 (Tr.refl x)
              have hLp : 0 < L.length := List.length_pos_of_mem hxL
              obtain ⟨g, c, rfl, hcc⟩ : ∃ g c, v6 = .slice (some ⟨g, 0, Option.none⟩) L.length c ∧ L.length ≤ c := by
                rcases hal.own.2 with ⟨_, h⟩ | ⟨g, c, cur, h, _, _, hc, _⟩
                · omega
                · exact ⟨g, c, h, hc⟩
              obtain ⟨N, hN⟩ : ∃ N, L.length = N := ⟨_, rfl⟩
              rw [hN] at hal hL120 hLp hcc ⊢
              have HN := Lib.hid hN
              have HAL := Lib.hid hal
              have HLY := Lib.hid hLy
              clear hN hal hLy hb hxL HALL
              go_wp2
              go_loopw [11, 58] (fun s11 s58 wr => ∃ (k : Nat), s58 = .int .i64 (k : Int) ∧ k ≤ N ∧ s11 = .int .u64 ((bitsI (fsts (L.take k)) : Nat) : Int) ∧ wr = w6) (fun _ s _ => N - (intOf s).toNat)
              case atStart => exact ⟨0, rfl, by omega, by simp [bitsI, fsts], rfl⟩
              case round =>
                obtain ⟨k, rfl, hk, rfl, rfl⟩ := hrel
                by_cases hltk : k < N
                · obtain ⟨y, hy⟩ : ∃ y, L[k]? = some y := ⟨_, List.getElem?_eq_getElem (by rw [HN.out]; exact hltk)⟩
                  have htr := (HLY.out y).1 (List.mem_of_getElem? hy)
                  have hyl : y.length = j := by rw [← HXL.out, ← htr.len]
                  obtain ⟨u, cu, hu, _⟩ := HAL.out.at hy
                  obtain ⟨py, cy, hue⟩ := hu.form
                  rw [hyl] at hue
                  subst hue
                  have hfs : fsts (L.take (k + 1)) = fsts (L.take k) ++ ((y[0]?).map (·.1)).toList := by
                    rw [show L.take (k + 1) = L.take k ++ (L[k]?).toList from List.take_add_one, hy]
                    exact fsts_snoc _ _
                  by_cases hj0 : 0 < j
                  · have hj0' : (0 : Int) < (j : Int) := by omega
                    obtain ⟨f, hf⟩ : ∃ f, y[0]? = some f := ⟨_, List.getElem?_eq_getElem (by rw [hyl]; exact hj0)⟩
                    have hfk := HK.out.2 f (htr.perm.mem_iff.2 (List.mem_of_getElem? hf))
                    obtain ⟨t, ht⟩ : ∃ t : Int, f.1 = t := ⟨_, rfl⟩
                    have ht0 : 0 ≤ t ∧ t < 5 := by rw [← ht]; exact hfk.2
                    obtain ⟨b, o, rfl, hbb, hr⟩ : ∃ b o, py = some ⟨b, o, Option.none⟩ ∧ b < wr.heap.size ∧ EvR wr b o y := by
                      obtain ⟨p, c, h1, _, _, h4⟩ := hu.toS
                      simp only [Value.slice.injEq] at h1
                      rcases h4 with ⟨_, h⟩ | ⟨b, o, h, h5, h6⟩
                      · rw [h] at hf; simp at hf
                      · exact ⟨b, o, by rw [h1.1, h], h5, h6⟩
                    have c1 := (hr 0 f hf).1
                    rw [ht, Nat.zero_mul, Nat.add_zero] at c1
                    obtain ⟨a2, ha2⟩ : ∃ a, bitsI (fsts (L.take k)) = a := ⟨_, rfl⟩
                    have ha232 : a2 < 32 := by
                      rw [← ha2]
                      refine bits_lt _ fun s hs => ?_
                      unfold fsts at hs
                      obtain ⟨z, hz, hzs⟩ := List.mem_filterMap.1 hs
                      obtain ⟨q, hq, rfl⟩ := Option.map_eq_some_iff.1 hzs
                      exact (HK.out.2 q (((HLY.out z).1 (List.mem_of_mem_take hz)).perm.mem_iff.2 (List.mem_of_getElem? hq))).2
                    have hnext : bitsI (fsts (L.take (k + 1))) = a2 ||| (1 <<< t.toNat) := by
                      rw [hfs, hf]
                      simp only [Option.map_some, Option.toList_some]
                      rw [bits_snoc, ha2, ht]
                    rw [ha2]
                    have HNX := Lib.hid hnext
                    clear hy htr hyl hu hfs hf hfk ht hr ha2 hnext
                    rcases (show t = 0 ∨ t = 1 ∨ t = 2 ∨ t = 3 ∨ t = 4 by omega) with rfl | rfl | rfl | rfl | rfl
                    all_goals
                      clear ht0
                      go_wp2
                      go_roundw
                      case rel => exact ⟨k + 1, by go_num, by omega, by rw [HNX.out, ← or_bits a2 _ ha232 (by decide)]; rfl, trivial⟩
                      case measure => simp [intOf]; omega
                  · obtain rfl : j = 0 := by omega
                    have hy0 : y = [] := List.eq_nil_of_length_eq_zero hyl
                    have hfs2 : Hid (fsts (L.take (k + 1)) = fsts (L.take k)) := Lib.hid (by rw [hfs, hy0]; simp)
                    have hj0' : ¬ (0 : Int) < (0 : Int) := by omega
                    obtain ⟨a2, ha2⟩ : ∃ a, bitsI (fsts (L.take k)) = a := ⟨_, rfl⟩
                    have hn2 : Hid (bitsI (fsts (L.take (k + 1))) = a2) := Lib.hid (by rw [hfs2.out, ha2])
                    rw [ha2]
                    clear hy htr hyl hu hfs ha2 hfs2 hy0
                    go_wp2
                    go_roundw
                    case rel => exact ⟨k + 1, by go_num, by omega, by rw [hn2.out], trivial⟩
                    case measure => simp [intOf]; omega
                · obtain rfl : k = N := by omega
                  have hfin : bitsI (fsts (L.take k)) = a := by rw [List.take_of_length_le (by rw [HN.out]; exact Nat.le_refl _), ini_fsts HLY.out, HAI.out]
                  rw [hfin]
                  clear hfin
                  go_wp2
                  go_ret
                  exact ⟨rfl, HB6.out⟩
end Go.Proofs.Ytmhaelfmojigoaa
