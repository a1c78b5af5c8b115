/- The law's all: whatever comes of events by exchanging neighbours. -/
import Derived.Test.YtmhaelfmojigoaaAl
set_option linter.unusedSimpArgs false
set_option linter.unusedVariables false
namespace Go.Proofs.Ytmhaelfmojigoaa
open Go.RowKit

/-- What all holds on the way: so many are done. -/
def AInv (x : Evl) (L : List Evl) (n : Nat) : Prop := L.Nodup ∧ x ∈ L ∧ (∀ z ∈ L, Tr edep x z) ∧ ∀ k z, k < n → L[k]? = some z → ∀ i, i < x.length → swp edep z i ∈ L
theorem AInv.start (x : Evl) : AInv x [x] 0 := ⟨by simp, by simp, fun z hz => by simp at hz; rw [hz]; exact Tr.refl _, fun k z hk => by omega⟩
theorem AInv.add {x : Evl} {L : List Evl} {n i : Nat} {z : Evl} (h : AInv x L n) (hz : z ∈ L) (hn : n ≤ L.length) (hs : swp edep z i ∉ L) : AInv x (L ++ [swp edep z i]) n := by
  obtain ⟨h1, h2, h3, h4⟩ := h
  refine ⟨?_, by simp [h2], fun y hy => ?_, fun k y hk hy j hj => ?_⟩
  · rw [List.nodup_append]
    refine ⟨h1, by simp, fun a ha b hb => ?_⟩
    simp at hb
    rintro rfl
    exact hs (hb ▸ ha)
  · rcases List.mem_append.1 hy with hy | hy
    · exact h3 y hy
    · simp at hy
      rw [hy]
      exact .trans (h3 z hz) (swp_tr z i)
  · rw [List.getElem?_append_left (by omega)] at hy
    exact List.mem_append_left _ (h4 k y hk hy j hj)
theorem AInv.next {x : Evl} {L : List Evl} {n : Nat} {z : Evl} (h : AInv x L n) (hz : L[n]? = some z) (hc : ∀ i, i < x.length → swp edep z i ∈ L) : AInv x L (n + 1) := by
  obtain ⟨h1, h2, h3, h4⟩ := h
  refine ⟨h1, h2, h3, fun k y hk hy j hj => ?_⟩
  by_cases hkn : k < n
  · exact h4 k y hkn hy j hj
  · obtain rfl : k = n := by omega
    rw [hz] at hy
    cases hy
    exact hc j hj
theorem AInv.len {x : Evl} {L : List Evl} {n : Nat} (h : AInv x L n) (hx : x.length ≤ 5) : L.length ≤ 120 := out_len h.1 h.2.2.1 hx
theorem AInv.is {x : Evl} {L : List Evl} {n : Nat} (h : AInv x L n) (hn : L.length ≤ n) (y : Evl) : y ∈ L ↔ Tr edep x y := by
  obtain ⟨h1, h2, h3, h4⟩ := h
  refine ⟨h3 y, fun ht => all_closed h2 (fun z hz i hi => ?_) ht⟩
  obtain ⟨k, hk⟩ := List.mem_iff_getElem?.1 hz
  exact h4 k z (by have := (List.getElem?_eq_some_iff.1 hk).1; omega) hk i hi

/-- What all answers. -/
def AllP (x : Evl) (w w' : World) (v' : Value) : Prop := ∃ L us, AlI w' w.heap.size v' L us ∧ (∀ y, y ∈ L ↔ Tr edep x y) ∧ L.length ≤ 120 ∧ Below w.heap.size w w'
theorem eg62 : ∀ args w, (callFunc 42 args).run Try.prog w = .ok (.enter 42 args) w := enters_of Try.func42 (by kernel_rfl) rfl
set_option maxRecDepth 100000 in
set_option maxHeartbeats 16000000 in
theorem all_any (x : Evl) (v : Value) (w : World) (hs : EvS w v x) (hl : x.length ≤ 5) (h8 : ∀ e ∈ x, e.2.length ≤ 1000) :
    Calls Try.prog 26 #[v] w fun e w' => ∃ v', e = .returned v' ∧ AllP x w w' v' := by
  have HX := Lib.hid hs.toP
  have hvb : ∀ q, v.ownBlock = some q → q < w.heap.size := fun q hq => hs.toP.blk hq
  obtain ⟨p, cap, rfl, hcap, hcm, h4⟩ := hs
  obtain ⟨A, hA⟩ : ∃ A, x.length = A := ⟨_, rfl⟩
  rw [hA] at HX hcap hl hvb ⊢
  have HA := Lib.hid hA
  have H8 := Lib.hid h8
  have HVB := Lib.hid hvb
  clear h4 h8 hA hvb
  go_enter Try.func26, Try.ntmps26
  go_wp2
  have hg := heap_alloc_new w (Obj.cells #[Value.slice p A cap] 25)
  have hWa : Below w.heap.size w (w.alloc (Obj.cells #[Value.slice p A cap] 25)) := below_alloc w _
  have hst : AlI (w.alloc (Obj.cells #[Value.slice p A cap] 25)) w.heap.size (.slice (some ⟨w.heap.size, 0, Option.none⟩) 1 1) [x] [.slice p A cap] := by
    refine ⟨World.ownsRow_lit w #[Value.slice p A cap] 1 (Nat.le_refl _) (by unfold maxLen; omega) rfl, fun i y hi => ?_⟩
    match i with
    | 0 =>
      simp at hi
      subst hi
      exact ⟨_, rfl, HX.out.kept hWa, fun q hq e => by
        have h1 := HVB.out q hq
        have h2 : w.heap.size = q := Option.some.inj e
        omega⟩
    | i + 1 => simp at hi
  have HST := Lib.hid hst
  have HWA := Lib.hid hWa
  clear hst hWa hg
  generalize w.alloc (Obj.cells #[Value.slice p A cap] 25) = w1 at HST HWA ⊢
  go_loopw [3, 4] (fun s3 s4 wr => ∃ (n : Nat) (L : List Evl) (us : List Value), s4 = .int .i64 (n : Int) ∧ n ≤ L.length ∧ AlI wr w.heap.size s3 L us ∧ AInv x L n ∧ Below w.heap.size w wr) (fun _ s _ => 121 - (intOf s).toNat)
  case atStart => exact ⟨0, [x], _, rfl, by simp, HST.out, AInv.start x, HWA.out⟩
  case round =>
    clear HST HWA
    obtain ⟨n, L, us, rfl, hn, hal, hinv, hb⟩ := hrel
    have hLl := hinv.len (by rw [HA.out]; exact hl)
    have hLp : 0 < L.length := List.length_pos_of_mem hinv.2.1
    obtain ⟨g, c, rfl, hcc⟩ : ∃ g c, u3 = .slice (some ⟨g, 0, Option.none⟩) L.length c ∧ L.length ≤ c := by
      rcases hal.own.2 with ⟨_, h⟩ | ⟨g, c, cur, h, _, _, hc, _⟩
      · omega
      · exact ⟨g, c, h, hc⟩
    obtain ⟨N, hN⟩ : ∃ N, L.length = N := ⟨_, rfl⟩
    have HAL := Lib.hid hal
    rw [hN] at HAL hn hLl hLp hcc ⊢
    have HN := Lib.hid hN
    have HINV := Lib.hid hinv
    have HB := Lib.hid hb
    have hn800 : (N : Int) < 800 := by omega
    have d800 : decide ((N : Int) < 800) = true := decide_eq_true hn800
    clear hal hinv hb hN
    by_cases hlt : n < N
    · obtain ⟨z, hz⟩ : ∃ z, L[n]? = some z := ⟨_, List.getElem?_eq_getElem (by rw [HN.out]; exact hlt)⟩
      have hzL := List.mem_of_getElem? hz
      have hperm := (HINV.out.2.2.1 z hzL).perm
      have hzl : z.length = A := by rw [← HA.out]; exact hperm.length_eq.symm
      have hz8 : ∀ e ∈ z, e.2.length ≤ 1000 := fun e he => H8.out e (hperm.mem_iff.2 he)
      have HZ := Lib.hid hz
      have HZA := Lib.hid hzl
      have HZ8 := Lib.hid hz8
      clear hz hzL hperm hzl hz8
      go_wp2
      go_loopw [3, 22] (fun s3 s22 wk => ∃ (i : Nat) (L : List Evl) (us : List Value), s22 = .int .i64 (i : Int) ∧ i ≤ A ∧ AlI wk w.heap.size s3 L us ∧ AInv x L n ∧ L[n]? = some z ∧ (∀ j, j < i → swp edep z j ∈ L) ∧ Below w.heap.size w wk) (fun _ s _ => A - (intOf s).toNat)
      case atStart => exact ⟨0, L, us, rfl, by omega, HAL.out, HINV.out, HZ.out, fun j hj => by omega, HB.out⟩
      case round =>
        clear HAL HINV HN HB HZ hn800 d800
        obtain ⟨i, L, us, rfl, hi, hal, hinv, hz, hsw, hb⟩ := hrel
        have hLl' := hinv.len (by rw [HA.out]; exact hl)
        have hLn : n < L.length := (List.getElem?_eq_some_iff.1 hz).1
        obtain ⟨g, c, rfl, hcc⟩ : ∃ g c, u3 = .slice (some ⟨g, 0, Option.none⟩) L.length c ∧ L.length ≤ c := by
          rcases hal.own.2 with ⟨_, h⟩ | ⟨g, c, cur, h, _, _, hc, _⟩
          · omega
          · exact ⟨g, c, h, hc⟩
        have hzL := List.mem_of_getElem? hz
        obtain ⟨M, hM⟩ : ∃ M, L.length = M := ⟨_, rfl⟩
        rw [hM] at hal hLl' hLn hcc ⊢
        have HM := Lib.hid hM
        have HAL := Lib.hid hal
        have HINV := Lib.hid hinv
        have HZ := Lib.hid hz
        have HZL := Lib.hid hzL
        have HSW := Lib.hid hsw
        have HB := Lib.hid hb
        clear hal hinv hz hsw hb hM hzL
        by_cases hlti : i < A
        · obtain ⟨u, c0, hu, hgu⟩ := HAL.out.at HZ.out
          obtain ⟨pz, cz, hue⟩ := hu.form
          rw [HZA.out] at hue
          subst hue
          have HU := Lib.hid hu
          have HC := Lib.hid (swap_p z i _ wr hu (by rw [HZA.out]; omega) (by omega) HZ8.out)
          obtain ⟨s, hs⟩ : ∃ s, swp edep z i = s := ⟨_, rfl⟩
          rw [hs] at HC
          have HS := Lib.hid hs
          have hsl : s.length = A := by rw [← hs, swp_len, HZA.out]
          have hs8 : ∀ e ∈ s, e.2.length ≤ 1000 := fun e he => HZ8.out e (by rw [← hs] at he; exact (swp_tr z i).perm.mem_iff.2 he)
          have HSL := Lib.hid hsl
          have HS8 := Lib.hid hs8
          have hge : w.heap.size ≤ g ∧ g < wr.heap.size := HAL.out.own.lt g rfl
          clear hu hgu hs hsl hs8
          go_wp2_with (go_at_call 20; refine Hid.out ?_)
          refine Lib.hid ?_
          refine HC.out.mono ?_
          rintro e w2 ⟨v2, rfl, hv2, hq2, hb2⟩
          obtain ⟨p2, c2, hve⟩ := hv2.form
          rw [HSL.out] at hve
          subst hve
          have HV2 := Lib.hid hv2
          have HQ2 := Lib.hid hq2
          have HB2 := Lib.hid hb2
          have hsz2 := hb2.size
          clear hv2 hq2 hb2 HC
          go_wp2_with (go_at_call 25; refine Hid.out ?_)
          have hg3 := heap_alloc_new w2 (Obj.cells #[Value.slice p2 A c2] 25)
          have hWa := below_alloc w2 (Obj.cells #[Value.slice p2 A c2] 25)
          have HAL3 : Hid (AlI (w2.alloc (Obj.cells #[Value.slice p2 A c2] 25)) w.heap.size (.slice (some ⟨g, 0, Option.none⟩) M c) L us) := Lib.hid ((HAL.out.kept HB2.out).kept hWa)
          have HV3 := Lib.hid (HV2.out.kept hWa)
          have HB3 : Hid (Below w.heap.size w (w2.alloc (Obj.cells #[Value.slice p2 A c2] 25))) := Lib.hid (HB.out.trans ((HB2.out.mono HB.out.size).trans (hWa.mono (by have := HB.out.size; omega))))
          have hcell : (w2.alloc (Obj.cells #[Value.slice p2 A c2] 25)).cell? ⟨w2.heap.size, 0, Option.none⟩ = some (.slice p2 A c2) := by rw [cell_of_row _ _ _ _ _ _ hg3]; rfl
          have hs3 : w2.heap.size < (w2.alloc (Obj.cells #[Value.slice p2 A c2] 25)).heap.size := by simp
          have HCELL := Lib.hid hcell
          have HS3 := Lib.hid hs3
          clear hg3 hWa hcell hs3
          refine Lib.hid ?_
          generalize w2.alloc (Obj.cells #[Value.slice p2 A c2] 25) = w3 at HAL3 HV3 HB3 HCELL HS3 ⊢
          refine (containsf_any s 42 _ eg62 L us w.heap.size _ w3 HAL3.out (by rw [HM.out]; omega) (fun W u z' k hu hz' => ?_)).mono ?_
          · have hp := (HINV.out.2.2.1 z' hz').perm
            exact cls62 s z' _ u w2.heap.size W ((k.cell (p := ⟨w2.heap.size, 0, Option.none⟩) HS3.out).trans HCELL.out) (HV3.out.toS.kept k) hu (by rw [HSL.out]; omega) (by rw [← hp.length_eq, HA.out]; omega) HS8.out (fun e he => H8.out e (hp.mem_iff.2 he))
          rintro e w4 ⟨rfl, hb4⟩
          have HB4 := Lib.hid hb4
          have HAL4 := Lib.hid (HAL3.out.kept hb4)
          have HV4 := Lib.hid (HV3.out.kept hb4)
          have HW4 := Lib.hid (HB3.out.trans (hb4.mono HB3.out.size))
          have hc4 : w4.cell? ⟨w2.heap.size, 0, Option.none⟩ = some (.slice p2 A c2) := (hb4.cell (p := ⟨w2.heap.size, 0, Option.none⟩) HS3.out).trans HCELL.out
          clear hb4 c0
          by_cases hm : s ∈ L
          · have hd : decide (s ∈ L) = true := decide_eq_true hm
            have HSW2 : Hid (∀ j, j < i + 1 → swp edep z j ∈ L) := Lib.hid fun j hj => by
              by_cases hji : j < i
              · exact HSW.out j hji
              · obtain rfl : j = i := by omega
                rw [HS.out]; exact hm
            rw [hd]
            clear hd hm
            go_wp2
            go_roundw
            case rel => exact ⟨i + 1, L, us, by go_num, by omega, HAL4.out, HINV.out, HZ.out, HSW2.out, HW4.out⟩
            case measure => simp [intOf]; omega
          · have hd : decide (s ∈ L) = false := decide_eq_false hm
            have HINV2 : Hid (AInv x (L ++ [s]) n) := Lib.hid (by rw [← HS.out]; exact HINV.out.add HZL.out (by rw [HM.out]; omega) (by rw [HS.out]; exact hm))
            have HSW2 : Hid (∀ j, j < i + 1 → swp edep z j ∈ L ++ [s]) := Lib.hid fun j hj => by
              by_cases hji : j < i
              · exact List.mem_append_left _ (HSW.out j hji)
              · obtain rfl : j = i := by omega
                rw [HS.out]; simp
            have HZ2 : Hid ((L ++ [s])[n]? = some z) := Lib.hid (by rw [List.getElem?_append_left (by rw [HM.out]; exact hLn)]; exact HZ.out)
            rw [hd]
            have hg5 := heap_alloc_new w4 (Obj.cells #[Value.slice p2 A c2] 25)
            have hW5 := below_alloc w4 (Obj.cells #[Value.slice p2 A c2] 25)
            obtain ⟨p', m', c', w', hrun, hal', hgr⟩ := app_al (w4.alloc (Obj.cells #[Value.slice p2 A c2] 25)) w.heap.size _ (.slice p2 A c2) L us s (HAL4.out.kept hW5) (by rw [HM.out]; omega) (by have := HW4.out.size; simp; omega) ⟨w4.heap.size, 0, Option.none⟩ (by rw [add_lit, cell_of_row _ _ _ _ _ _ hg5]; rfl) (HV4.out.kept hW5)
              (fun q hq e => by
                have h1 := HQ2.out q hq
                have h2 : g = q := Option.some.inj e
                omega)
            have HAL' := Lib.hid hal'
            have HB' : Hid (Below w.heap.size w w') := Lib.hid ((HW4.out.trans (hW5.mono HW4.out.size)).grown hgr (by have := HW4.out.size; simp; omega) (fun q hq => by
              have h2 : g = q := Option.some.inj hq
              omega))
            clear hd hm hg5 hW5 hal' hgr
            go_wp2_with (at_builtin; refine wpList_app rfl (.tmp 35) (.tmp 37) 44 rfl _ _ _ w' rfl rfl hrun ?_)
            clear hrun hc4
            go_wp2
            go_roundw
            case rel => exact ⟨i + 1, L ++ [s], us ++ [.slice p2 A c2], by go_num, by omega, HAL'.out, HINV2.out, HZ2.out, HSW2.out, HB'.out⟩
            case measure => simp [intOf]; omega
        · obtain rfl : i = A := by omega
          have HC : Hid (AInv x L (n + 1)) := Lib.hid (HINV.out.next HZ.out (fun j hj => HSW.out j (by rw [← HA.out]; exact hj)))
          have hlti' : ¬ (i : Int) < (i : Int) := by omega
          go_wp2
          go_roundw
          case rel => exact ⟨n + 1, L, us, by go_num, by rw [HM.out]; omega, HAL.out, HC.out, HB.out⟩
          case measure => simp [intOf]; omega
    · obtain rfl : n = N := by omega
      have hlt' : ¬ (n : Int) < (n : Int) := by omega
      have HF := Lib.hid (HINV.out.is (Nat.le_of_eq HN.out))
      go_wp2
      go_ret
      exact ⟨_, rfl, L, us, HAL.out, HF.out, by rw [HN.out]; exact hLl, HB.out⟩
end Go.Proofs.Ytmhaelfmojigoaa
