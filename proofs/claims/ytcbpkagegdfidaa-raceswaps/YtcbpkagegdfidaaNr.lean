/- race.nearest: those that happen ahead of one with none between. -/
import Derived.Test.YtcbpkagegdfidaaRa
import Derived.Test.YtcbpkagegdfidaaRv
import Derived.Test.YtcbpkagegdfidaaOc
import Derived.Test.YtcbpkagegdfidaaNp
import Derived.Deep.RegionHeld3
import Derived.BigRegion
import Derived.Deep.LoopGhost
set_option linter.unusedSimpArgs false
set_option linter.unusedVariables false
namespace Go.Proofs.Ytcbpkagegdfidaa
open Go.RowKit

set_option maxRecDepth 100000 in
set_option maxHeartbeats 16000000 in
theorem near_o {Ob : World → Value → Evl → Prop} (KP : KpO Ob) (HBE : BefO Ob) (x : Evl) (p : Option Addr) (m0 c0 J : Nat) (w : World) (ho : Ob w (.slice p m0 c0) x) (hk : Evk x) (hJ : J < x.length) :
    Calls Try.prog 26 #[.agg #[.slice p m0 c0], .int .i64 (J : Int)] w fun e w' => ∃ v', e = .returned v' ∧ NsS w' v' (cvs edep x J 0).reverse ∧ (∀ q, v'.ownBlock = some q → w.heap.size ≤ q) ∧ Below w.heap.size w w' := by
  have hJ60 : J < 60 := by have := hk.1; omega
  have hg0 := heap_alloc_new w (Obj.cells #[Value.slice p m0 c0] 58)
  have hb0 := below_alloc w (Obj.cells #[Value.slice p m0 c0] 58)
  have KB := Lib.hid fun (i j : Int) w' (k : Below w.heap.size w w') => HBE x p m0 c0 i j w' (KP _ _ _ _ ho k) hk
  clear ho
  go_enter Try.func26, Try.ntmps26
  obtain ⟨w1, hw1⟩ : ∃ w1, w.alloc (Obj.cells #[Value.slice p m0 c0] 58) = w1 := ⟨_, rfl⟩
  rw [hw1] at hg0 hb0
  have hs1 : w1.heap.size = w.heap.size + 1 := by rw [← hw1]; simp
  have HW1 := Lib.hid hw1
  have HG0 := Lib.hid hg0
  have HB0 := Lib.hid hb0
  have HS1 := Lib.hid hs1
  clear hw1 hg0 hb0 hs1
  go_wp2_with fail
  rw [HW1.out]
  go_step3
  go_wp2_with fail
  go_step3
  go_wp2_with fail
  go_loopg [5, 6] J (fun m s5 s6 wr => ∃ z : Int, s6 = .int .i64 z ∧ z = (m : Int) - 1 ∧ m ≤ J ∧ wr.ownsRow w1.heap.size 3 1 s5 (cvs edep x J m).length (nvs (cvs edep x J m)) ∧ Below w1.heap.size w1 wr)
  case atStart => exact ⟨(J : Int) - 1, by first | rfl | simp, rfl, by omega, by rw [cvs_start]; exact World.ownsRow_nil _ _ _ _, Below.refl _ _⟩
  case round =>
    obtain ⟨z, rfl, hz, hmJ, ho, hb⟩ := hrel
    have HO := Lib.hid ho
    have HB := Lib.hid hb
    have hc0 : wr.cell? ⟨w.heap.size, 0, Option.none⟩ = some (.slice p m0 c0) := by
      have h := (hb.block w.heap.size (by rw [HS1.out]; omega)).trans HG0.out
      rw [cell_of_row _ _ _ _ _ _ h]; rfl
    clear ho hb
    cases gk with
    | zero =>
      have hz1 : z = -1 := by omega
      subst hz1
      clear hz
      have hlen : (cvs edep x J 0).length ≤ 1000 := by have := cvs_len (dep := edep) (x := x) J 0; omega
      have HR := Lib.hid (rev_own w1.heap.size u5 (cvs edep x J 0) wr HO.out hlen)
      obtain ⟨p5, n5, c5, rfl⟩ := own_form HO.out
      clear hlen
      go_wp2_with (go_at_call 39; refine Hid.out ?_)
      refine Lib.hid ?_
      refine HR.out.mono ?_
      rintro e w2 ⟨rfl, ho2, hg2⟩
      have HB2 : Hid (Below w1.heap.size w1 w2) := Lib.hid (HB.out.grown hg2 HB.out.size (fun q hq => (HO.out.lt q hq).1))
      have hlr : (cvs edep x J 0).length = (cvs edep x J 0).reverse.length := by rw [List.length_reverse]
      rw [hlr] at ho2
      have HN := Lib.hid (ns_of_own ho2)
      have HQ : Hid (∀ q, (Value.slice p5 n5 c5).ownBlock = some q → w.heap.size ≤ q) := Lib.hid fun q hq => by
        have h1 := (HO.out.lt q hq).1
        have h2 := HS1.out
        omega
      have HBW : Hid (Below w.heap.size w w2) := Lib.hid (HB0.out.trans (HB2.out.mono HB0.out.size))
      clear ho2 hg2 hlr HR hc0
      go_wp2
      rw [Exit.noGoto_ret]
      go_ret
      exact ⟨_, rfl, HN.out, HQ.out, HBW.out⟩
    | succ i =>
      have hz1 : z = (i : Int) := by omega
      subst hz1
      clear hz
      have HBW : Hid (Below w.heap.size w wr) := Lib.hid (HB0.out.trans (HB.out.mono HB0.out.size))
      have hBf := KB.out (i : Int) (J : Int) wr HBW.out
      rw [hbI_nat] at hBf
      obtain ⟨d, hd⟩ : ∃ d, hbd edep x i J = d := ⟨_, rfl⟩
      rw [hd] at hBf
      have HBF := Lib.hid hBf
      have HD := Lib.hid hd
      have HST : Hid (cvs edep x J i = cvs edep x J (i + 1) ++ (if kvd edep x i J then [i] else [])) := Lib.hid (cvs_step (by omega))
      have hwi : IntKind.i64.wrap ((i : Int) - 1) = (i : Int) - 1 := by rw [IntKind.wrap_i64]; omega
      have hi0 : (0 : Int) ≤ (i : Int) := by omega
      clear hBf hd
      cases d with
      | false =>
        have HSAME : Hid (cvs edep x J i = cvs edep x J (i + 1)) := Lib.hid (by rw [HST.out, kvd_no HD.out]; simp)
        go_wp2_with (go_at_call 27; refine Hid.out ?_)
        refine Lib.hid ?_
        refine HBF.out.mono ?_
        rintro e w2 ⟨rfl, hb2⟩
        have HO2 := Lib.hid (own_kept HO.out hb2)
        have HB2 : Hid (Below w1.heap.size w1 w2) := Lib.hid (HB.out.trans (hb2.mono HB.out.size))
        clear hb2 hc0
        go_wp2
        go_roundg i
        case measure => omega
        case rel => exact ⟨(i : Int) - 1, by first | rfl | simp, rfl, by omega, by rw [HSAME.out]; exact HO2.out, HB2.out⟩
      | true =>
        have HCE : Hid (cvh edep x J i (cvs edep x J (i + 1)).length = !kvd edep x i J) := Lib.hid (cvh_end HD.out)
        have hLl : (cvs edep x J (i + 1)).length ≤ J := cvs_len J (i + 1)
        obtain ⟨n, hn⟩ : ∃ n, (cvs edep x J (i + 1)).length = n := ⟨_, rfl⟩
        have hform : ∃ p5 c5, u5 = .slice p5 n c5 ∧ n ≤ c5 := by
          rcases HO.out.2 with ⟨rfl, h⟩ | ⟨g, cap, cur, rfl, _, _, h, _⟩
          · exact ⟨_, _, by rw [← hn, h], by omega⟩
          · exact ⟨_, _, by rw [hn], by omega⟩
        obtain ⟨p5, c5, rfl, hnc⟩ := hform
        rw [hn] at hLl
        rw [hn] at HCE
        have HN := Lib.hid hn
        clear hn
        go_wp2_with (go_at_call 27; refine Hid.out ?_)
        refine Lib.hid ?_
        refine HBF.out.mono ?_
        rintro e w2 ⟨rfl, hb2⟩
        have HO2 := Lib.hid (own_kept HO.out hb2)
        have HB2 : Hid (Below w1.heap.size w1 w2) := Lib.hid (HB.out.trans (hb2.mono HB.out.size))
        clear hb2 hc0 HBF HO HB
        go_wp2_with fail
        go_loopg [22] n (fun g2 s22 wk => ∃ k : Nat, k + g2 = n ∧ s22 = .int .i64 (k : Int) ∧ cvh edep x J i k = false ∧ wk.ownsRow w1.heap.size 3 1 (.slice p5 n c5) (cvs edep x J (i + 1)).length (nvs (cvs edep x J (i + 1))) ∧ Below w1.heap.size w1 wk)
        case atStart => exact ⟨0, by omega, rfl, cvh_zero J i, HO2.out, HB2.out⟩
        case round =>
          clear HO2 HB2 HBW
          obtain ⟨k, hkg, rfl, hch, ho, hb⟩ := hrel
          have HO := Lib.hid ho
          have HB := Lib.hid hb
          have HCH := Lib.hid hch
          cases gk with
          | zero =>
            have hkn : k = n := by omega
            subst hkn
            have hcv : kvd edep x i J = true := by
              have h := HCE.out
              rw [HCH.out] at h
              cases hq : kvd edep x i J with
              | true => rfl
              | false => rw [hq] at h; cases h
            have HSN : Hid (cvs edep x J i = cvs edep x J (i + 1) ++ [i]) := Lib.hid (by rw [HST.out, hcv]; rfl)
            have hg := heap_alloc_new wr (Obj.cells #[Value.int .i64 (i : Int)] 3)
            have hWa := below_alloc wr (Obj.cells #[Value.int .i64 (i : Int)] 3)
            obtain ⟨p', m', c', w'', hrun, ho', hgr, _⟩ := app_ns2 (wr.alloc (Obj.cells #[Value.int .i64 (i : Int)] 3)) w1.heap.size (.slice p5 k c5) (cvs edep x J (i + 1)) i (own_kept ho hWa) (by rw [HN.out]; omega) (by have := hb.size; simp; omega) ⟨wr.heap.size, 0, Option.none⟩ (by rw [add_lit, cell_of_row _ _ _ _ _ _ hg]; rfl)
            have HO3 : Hid (w''.ownsRow w1.heap.size 3 1 (.slice p' m' c') (cvs edep x J i).length (nvs (cvs edep x J i))) := Lib.hid (by rw [HSN.out]; exact ho')
            have HB3 : Hid (Below w1.heap.size w1 w'') := Lib.hid ((hb.trans (hWa.mono hb.size)).grown hgr (by have := hb.size; simp; omega) (fun q hq => (HO.out.lt q hq).1))
            clear hg hWa ho' hgr ho hb hch hcv HCE HCH HO HB
            go_wp2_with (at_builtin; refine wpList_app rfl (.tmp 31) (.tmp 33) 40 rfl _ _ _ w'' rfl rfl hrun ?_)
            clear hrun
            go_wp2
            go_roundg i
            case measure => omega
            case rel => exact ⟨(i : Int) - 1, by first | rfl | simp, rfl, by omega, HO3.out, HB3.out⟩
          | succ g2 =>
            have hkn : k < n := by omega
            obtain ⟨b, hbk⟩ : ∃ b, (cvs edep x J (i + 1))[k]? = some b := ⟨_, List.getElem?_eq_getElem (by rw [HN.out]; exact hkn)⟩
            obtain ⟨g, cap, cur, hpe, hgw⟩ : ∃ g cap cur, p5 = some ⟨g, 0, Option.none⟩ ∧ wr.heap[g]? = some (.cells cur 3) ∧ cap = c5 := by
              rcases ho.2 with ⟨h1, h⟩ | ⟨g, cap, cur, h1, _, h3, _⟩
              · rw [HN.out] at h; omega
              · simp only [Value.slice.injEq] at h1
                exact ⟨g, cap, cur, h1.1, h3, h1.2.2.symm⟩
            subst hpe
            have ck : wr.cell? ⟨g, k, Option.none⟩ = some (.int .i64 (b : Int)) := by
              have h := ho
              rw [HN.out] at h
              rw [h.cellAt k (by omega), nvs_at hbk]
            have hc0 : wr.cell? ⟨w.heap.size, 0, Option.none⟩ = some (.slice p m0 c0) := by
              have h := (hb.block w.heap.size (by rw [HS1.out]; omega)).trans HG0.out
              rw [cell_of_row _ _ _ _ _ _ h]; rfl
            have HBW : Hid (Below w.heap.size w wr) := Lib.hid (HB0.out.trans (HB.out.mono HB0.out.size))
            have hBf := KB.out (i : Int) (b : Int) wr HBW.out
            rw [hbI_nat] at hBf
            obtain ⟨d2, hd2⟩ : ∃ d2, hbd edep x i b = d2 := ⟨_, rfl⟩
            rw [hd2] at hBf
            have HBF := Lib.hid hBf
            have HSTP : Hid (cvh edep x J i (k + 1) = d2) := Lib.hid (by rw [cvh_step hbk hch, hd2])
            have hkI : (k : Int) < (n : Int) := by omega
            have hk0 : (0 : Int) ≤ (k : Int) := by omega
            have hwk : IntKind.i64.wrap ((k : Int) + 1) = ((k + 1 : Nat) : Int) := by rw [IntKind.wrap_i64]; omega
            clear hBf hd2 hbk hgw ho hb hch HCH
            cases d2 with
            | true =>
              have hno : kvd edep x i J = false := by
                have h := HCE.out
                rw [cvh_mono HSTP.out (show k + 1 ≤ n by omega)] at h
                cases hq : kvd edep x i J with
                | false => rfl
                | true => rw [hq] at h; cases h
              have HSAME : Hid (cvs edep x J i = cvs edep x J (i + 1)) := Lib.hid (by rw [HST.out, hno]; simp)
              clear hno
              go_wp2_with (go_at_call 27; refine Hid.out ?_)
              refine Lib.hid ?_
              refine HBF.out.mono ?_
              rintro e w3 ⟨rfl, hb3⟩
              have HO3 := Lib.hid (own_kept HO.out hb3)
              have HB3 : Hid (Below w1.heap.size w1 w3) := Lib.hid (HB.out.trans (hb3.mono HB.out.size))
              clear hb3 hc0 ck
              go_wp2
              go_roundg i
              case measure => omega
              case rel => exact ⟨(i : Int) - 1, by first | rfl | simp, rfl, by omega, by rw [HSAME.out]; exact HO3.out, HB3.out⟩
            | false =>
              go_wp2_with (go_at_call 27; refine Hid.out ?_)
              refine Lib.hid ?_
              refine HBF.out.mono ?_
              rintro e w3 ⟨rfl, hb3⟩
              have HO3 := Lib.hid (own_kept HO.out hb3)
              have HB3 : Hid (Below w1.heap.size w1 w3) := Lib.hid (HB.out.trans (hb3.mono HB.out.size))
              clear hb3 hc0 ck
              go_wp2
              go_roundg g2
              case measure => omega
              case rel => exact ⟨k + 1, by omega, by go_num, HSTP.out, HO3.out, HB3.out⟩
end Go.Proofs.Ytcbpkagegdfidaa
