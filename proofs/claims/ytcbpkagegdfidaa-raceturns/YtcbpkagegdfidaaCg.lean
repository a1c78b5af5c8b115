/- slices.CompactFunc of marks by objects: the walk of its two loops. -/
import Derived.Test.YtcbpkagegdfidaaCf
import Derived.Shelf.RegionOpenPlain
import Derived.WalkKit
set_option linter.unusedSimpArgs false
set_option linter.unusedVariables false
namespace Go.Proofs.Ytcbpkagegdfidaa
open Go.RowKit

set_option maxRecDepth 100000 in
set_option maxHeartbeats 4000000 in
theorem compact_two (l : List (Int × Bool)) (b o cap B L : Nat) (w : World) (hR : Row w b o l) (hF : Rwf w b o (L * 2)) (hb : b < w.heap.size) (hB : B ≤ b) (hc : L ≤ cap) (hcm : cap ≤ maxLen) (hL : l.length = L) (hl : L ≤ 1000) (h2 : 2 ≤ L) :
    Calls Try.prog 45 #[.slice (some ⟨b, o, Option.none⟩) L cap, .func (.func 46) #[] #[]] w fun e w' => e = .returned (.slice (some ⟨b, o, Option.none⟩) (cpt l).length cap) ∧ Row w' b o (cpt l) ∧ Below B w w' := by
  have HR := Lib.hid hR
  have HF := Lib.hid hF
  have HL := Lib.hid hL
  have h2i : ¬ (L : Int) < 2 := by omega
  have mixed : Try.prog.follows .mixedOrders = true := by kernel_rfl
  have hse := fun (x y : Int × Bool) (h : x.1 = y.1) W => (same_any x y W).mono (fun e w' (h' : e = .returned (.bool (x.1 == y.1)) ∧ ∃ q os', w' = Go.Sort.grow (W.drewN q) os') => (⟨by rw [h'.1]; simp [h], h'.2⟩ : e = .returned (.bool true) ∧ ∃ q os', w' = Go.Sort.grow (W.drewN q) os'))
  have hsn := fun (x y : Int × Bool) (h : x.1 ≠ y.1) W => (same_any x y W).mono (fun e w' (h' : e = .returned (.bool (x.1 == y.1)) ∧ ∃ q os', w' = Go.Sort.grow (W.drewN q) os') => (⟨by rw [h'.1]; simp [h], h'.2⟩ : e = .returned (.bool false) ∧ ∃ q os', w' = Go.Sort.grow (W.drewN q) os'))
  have HSE := Lib.hid hse
  have HSN := Lib.hid hsn
  clear hR hF hL hse hsn
  go_enter Try.func45, Try.ntmps45
  go_wp2
  go_loopw [5] (fun s5 wr => ∃ k : Nat, s5 = .int .i64 (k : Int) ∧ 1 ≤ k ∧ k ≤ L ∧ Below w.heap.size w wr ∧ cpt (l.take k) = l.take k) (fun s5 _ => L - (intOf s5).toNat)
  case atStart => exact ⟨1, rfl, by omega, by omega, Below.refl _ _, cpt_take_one l⟩
  case round =>
    obtain ⟨k, rfl, hk1, hkL, hbel, hcpt⟩ := hrel
    have HB := Lib.hid hbel
    have HC := Lib.hid hcpt
    have hbw : b < wr.heap.size := Nat.lt_of_lt_of_le hb hbel.size
    clear hbel hcpt
    by_cases hlt : k < L
    · obtain ⟨j, rfl⟩ : ∃ j, k = j + 1 := ⟨k - 1, by omega⟩
      obtain ⟨y, hy⟩ : ∃ y, l[j + 1]? = some y := ⟨_, List.getElem?_eq_getElem (by rw [HL.out]; exact hlt)⟩
      obtain ⟨z, hz⟩ : ∃ z, l[j]? = some z := ⟨_, List.getElem?_eq_getElem (by rw [HL.out]; omega)⟩
      have hwp : IntKind.i64.wrap (j : Int) = (j : Int) := by rw [IntKind.wrap_i64]; omega
      have jz : (j : Int) + 1 < (L : Int) := by omega
      have jz1 : (j : Int) < (L : Int) := by omega
      have p0 : (0 : Int) ≤ (j : Int) + 1 := by omega
      have e0 : ((j : Int) + 1).toNat = j + 1 := by omega
      have cy0 : ∀ n os, (Go.Sort.grow (wr.drewN n) os).cell? ⟨b, o + (j + 1) * 2, Option.none⟩ = some (.int .i64 y.1) := cell_grown hbw ((HR.out.kept hb HB.out).get hy).1
      have cy1 : ∀ n os, (Go.Sort.grow (wr.drewN n) os).cell? ⟨b, o + (j + 1) * 2 + 1, Option.none⟩ = some (.bool y.2) := cell_grown hbw ((HR.out.kept hb HB.out).get hy).2
      have cz0 : ∀ n os, (Go.Sort.grow (wr.drewN n) os).cell? ⟨b, o + j * 2, Option.none⟩ = some (.int .i64 z.1) := cell_grown hbw ((HR.out.kept hb HB.out).get hz).1
      have cz1 : ∀ n os, (Go.Sort.grow (wr.drewN n) os).cell? ⟨b, o + j * 2 + 1, Option.none⟩ = some (.bool z.2) := cell_grown hbw ((HR.out.kept hb HB.out).get hz).2
      have HY := Lib.hid hy
      have HZ := Lib.hid hz
      clear hy hz
      by_cases hd : y.1 = z.1
      · have hs := HSE.out y z hd
        have HD := Lib.hid hd
        clear hd
        go_wp2_with fail
        go_quiet_grown (first | (go_at_call 46; refine Calls.grown_of (hs _)))
        have HB2 : Hid (Below w.heap.size w (Go.Sort.grow (wr.drewN nq) osq)) := Lib.hid (HB.out.trans (below_grow _ _ _ _ HB.out.size))
        have hbw2 : b < (Go.Sort.grow (wr.drewN nq) osq).heap.size := Nat.lt_of_lt_of_le hb HB2.out.size
        clear cy0 cy1 cz0 cz1 hs hbw
        generalize Go.Sort.grow (wr.drewN nq) osq = w2 at HB2 hbw2 ⊢
        go_wp2
        go_loopw [5, 7] (fun s5 s7 w3 => ∃ (kk k2 : Nat) (d : List (Int × Bool)), s5 = .int .i64 (kk : Int) ∧ s7 = .int .i64 (k2 : Int) ∧ 1 ≤ k2 ∧ (j + 1) + k2 ≤ L ∧ Below B w w3 ∧ b < w3.heap.size ∧ Row w3 b o d ∧ Rwf w3 b o (L * 2) ∧ Cinv l (j + 1 + k2) kk d) (fun _ s7 _ => L - (intOf s7).toNat)
        case atStart => exact ⟨j + 1, 1, l, by go_num, rfl, by omega, by omega, HB2.out.mono (by omega), hbw2, HR.out.kept hb HB2.out, HF.out.kept hb HB2.out, Cinv.start (by omega) HC.out HY.out HZ.out HD.out⟩
        case round =>
          obtain ⟨kk, k2, d, rfl, rfl, hk2, hle, hbel3, hb3, hR3, hF3, hI⟩ := hrel
          have HB3 := Lib.hid hbel3
          have HR3 := Lib.hid hR3
          have HF3 := Lib.hid hF3
          have HI := Lib.hid hI
          have hkk := hI.lt
          have hdl := hI.len
          rw [HL.out] at hdl
          have HDL := Lib.hid hdl
          clear hbel3 hR3 hF3 hI hdl
          by_cases hlt2 : j + 1 + k2 < L
          · obtain ⟨i, rfl⟩ : ∃ i, k2 = i + 1 := ⟨k2 - 1, by omega⟩
            obtain ⟨u, hu⟩ : ∃ u, l[j + 1 + (i + 1)]? = some u := ⟨_, List.getElem?_eq_getElem (by rw [HL.out]; exact hlt2)⟩
            obtain ⟨v, hv⟩ : ∃ v, l[j + 1 + i]? = some v := ⟨_, List.getElem?_eq_getElem (by rw [HL.out]; omega)⟩
            have hu' : d[j + 1 + (i + 1)]? = some u := (HI.out.high _ (by omega)).trans hu
            have hv' : d[j + 1 + i]? = some v := (HI.out.high _ (by omega)).trans hv
            have hwi : IntKind.i64.wrap (i : Int) = (i : Int) := by rw [IntKind.wrap_i64]; omega
            have iz : (i : Int) + 1 < (L : Int) - ((j : Int) + 1) := by omega
            have iz1 : (i : Int) < (L : Int) - ((j : Int) + 1) := by omega
            have iz2 : i < L - (j + 1) := by omega
            have iz3 : i + (j + 1) < L := by omega
            have q0 : (0 : Int) ≤ (i : Int) + 1 := by omega
            have f0 : ((i : Int) + 1).toNat = i + 1 := by omega
            have au : o + (j + 1) * 2 + (i + 1) * 2 = o + (j + 1 + (i + 1)) * 2 := by omega
            have av : o + (j + 1) * 2 + i * 2 = o + (j + 1 + i) * 2 := by omega
            have cu0 : ∀ n os, (Go.Sort.grow (wr.drewN n) os).cell? ⟨b, o + (j + 1) * 2 + (i + 1) * 2, Option.none⟩ = some (.int .i64 u.1) := by rw [au]; exact cell_grown hb3 (HR3.out.get hu').1
            have cu1 : ∀ n os, (Go.Sort.grow (wr.drewN n) os).cell? ⟨b, o + (j + 1) * 2 + (i + 1) * 2 + 1, Option.none⟩ = some (.bool u.2) := by rw [au]; exact cell_grown hb3 (HR3.out.get hu').2
            have cv0 : ∀ n os, (Go.Sort.grow (wr.drewN n) os).cell? ⟨b, o + (j + 1) * 2 + i * 2, Option.none⟩ = some (.int .i64 v.1) := by rw [av]; exact cell_grown hb3 (HR3.out.get hv').1
            have cv1 : ∀ n os, (Go.Sort.grow (wr.drewN n) os).cell? ⟨b, o + (j + 1) * 2 + i * 2 + 1, Option.none⟩ = some (.bool v.2) := by rw [av]; exact cell_grown hb3 (HR3.out.get hv').2
            have HU := Lib.hid hu
            have HV := Lib.hid hv
            have HU' := Lib.hid hu'
            have HAU := Lib.hid au
            clear hu hv hu' hv' au av
            by_cases he : u.1 = v.1
            · have hs := HSE.out u v he
              have HE := Lib.hid he
              clear he
              go_wp2_with fail
              go_quiet_grown (first | (go_at_call 46; refine Calls.grown_of (hs _)))
              have HK : Hid (Below wr.heap.size wr (Go.Sort.grow (wr.drewN nq) osq)) := Lib.hid (below_grow _ _ _ _ (Nat.le_refl _))
              have HS := Lib.hid hb3
              clear cu0 cu1 cv0 cv1 hs hb3
              generalize Go.Sort.grow (wr.drewN nq) osq = w4 at HK ⊢
              go_wp2
              go_roundw
              case rel => exact ⟨kk, i + 1 + 1, d, rfl, by go_num, by omega, by omega, HB3.out.trans (HK.out.mono (by have := HS.out; omega)), Nat.lt_of_lt_of_le HS.out HK.out.size, HR3.out.kept HS.out HK.out, HF3.out.kept HS.out HK.out, HI.out.skip (by omega) HU.out (by rw [show j + 1 + (i + 1) - 1 = j + 1 + i by omega]; exact HV.out) HE.out⟩
              case measure => simp [intOf]; omega
            · have hs := HSN.out u v he
              have HE := Lib.hid he
              clear he
              go_wp2_with fail
              go_quiet_grown (first | (go_at_call 46; refine Calls.grown_of (hs _)))
              have HK : Hid (Below wr.heap.size wr (Go.Sort.grow (wr.drewN nq) osq)) := Lib.hid (below_grow _ _ _ _ (Nat.le_refl _))
              have HS := Lib.hid hb3
              have cu0' := cu0 nq osq
              have cu1' := cu1 nq osq
              clear cu0 cu1 cv0 cv1 hs hb3
              generalize Go.Sort.grow (wr.drewN nq) osq = w4 at HK cu0' cu1' ⊢
              have HR4 : Hid (Row w4 b o d) := Lib.hid (HR3.out.kept HS.out HK.out)
              have HF4 : Hid (Rwf w4 b o (L * 2)) := Lib.hid (HF3.out.kept HS.out HK.out)
              obtain ⟨t, ht⟩ : ∃ t, d[kk]? = some t := ⟨_, List.getElem?_eq_getElem (by rw [HDL.out]; omega)⟩
              have ct0 := (HR4.out.get ht).1
              have ct1 := (HR4.out.get ht).2
              have ft0 : w4.frozen? ⟨b, o + kk * 2, Option.none⟩ = false := HF4.out _ (by omega)
              have ft1 : w4.frozen? ⟨b, o + kk * 2 + 1, Option.none⟩ = false := by have := HF4.out (kk * 2 + 1) (by omega); rwa [← Nat.add_assoc] at this
              have hkz : (kk : Int) < (L : Int) := by omega
              have HT := Lib.hid ht
              clear ht
              go_wp2
              go_roundw
              case rel => exact ⟨kk + 1, i + 1 + 1, d.set kk u, by go_num, by go_num, by omega, by omega, below_set2 (HB3.out.trans (HK.out.mono (by have := HS.out; omega))) hB _ _ _ _, by simpa using Nat.lt_of_lt_of_le HS.out HK.out.size, row_set HR4.out (by rw [HDL.out]; omega) u, rwf_set HF4.out _ _ _ _, HI.out.keep (by omega) HU.out (by rw [show j + 1 + (i + 1) - 1 = j + 1 + i by omega]; exact HV.out) HE.out⟩
              case measure => simp [intOf]; omega
          · have hend : j + 1 + k2 = L := by omega
            have hn : kk < L := by omega
            have hcl : ∀ ty, (Builtin.clear_ #[36] ty #[.slice (some ⟨b, o + kk * 2, Option.none⟩) (L - kk) (cap - kk)]).run Try.prog wr = .ok (.tuple #[]) (wr.setCells b (o + kk * 2) ((Builtin.zeroCells (Value.cells (.agg #[.int .i64 0, .bool false])) (L - kk)).toList)) := fun ty => by
              refine run_clear2 wr ty b (o + kk * 2) (L - kk) (cap - kk) (by omega) (fun q hq => ?_) fun q hq => by rw [Nat.add_assoc]; exact HF3.out _ (by omega)
              obtain ⟨t, ht⟩ : ∃ t, d[kk + q / 2]? = some t := ⟨_, List.getElem?_eq_getElem (by rw [HDL.out]; omega)⟩
              have g := HR3.out.get ht
              rcases Nat.mod_two_eq_zero_or_one q with hm | hm
              · rw [show o + kk * 2 + q = o + (kk + q / 2) * 2 by omega, g.1]; rfl
              · rw [show o + kk * 2 + q = o + (kk + q / 2) * 2 + 1 by omega, g.2]; rfl
            have hkz : (kk : Int) < (L : Int) := by omega
            generalize ((Builtin.zeroCells (Value.cells (.agg #[.int .i64 0, .bool false])) (L - kk)).toList) = vs at hcl
            have HE := Lib.hid hend
            clear hend
            go_wp2
            go_ret
            have hx : l.take (j + 1 + k2) = l := List.take_of_length_le (by rw [HL.out, HE.out]; exact Nat.le_refl _)
            have hnum := HI.out.num
            have hlow := HI.out.low
            rw [hx] at hnum hlow
            refine ⟨by rw [hnum]; rfl, fun i x hi => ?_, below_setCells hB _ _ HB3.out⟩
            have hil : i < kk := by rw [← hnum]; exact (List.getElem?_eq_some_iff.1 hi).1
            rw [← hlow, List.getElem?_take, if_pos hil] at hi
            have g := HR3.out.get hi
            rw [World.cell?_setCells_out _ _ _ _ _ (fun _ _ => .inl (by show o + i * 2 < o + kk * 2; omega)), World.cell?_setCells_out _ _ _ _ _ (fun _ _ => .inl (by show o + i * 2 + 1 < o + kk * 2; omega))]
            exact g
      · have hs := HSN.out y z hd
        have HD := Lib.hid hd
        clear hd
        go_wp2_with fail
        go_quiet_grown (first | (go_at_call 46; refine Calls.grown_of (hs _)))
        have HK : Hid (Below wr.heap.size wr (Go.Sort.grow (wr.drewN nq) osq)) := Lib.hid (below_grow _ _ _ _ (Nat.le_refl _))
        clear cy0 cy1 cz0 cz1 hs
        generalize Go.Sort.grow (wr.drewN nq) osq = w2 at HK ⊢
        go_wp2
        go_roundw
        case rel =>
          refine ⟨j + 1 + 1, by go_num, by omega, by omega, HB.out.trans (HK.out.mono HB.out.size), ?_⟩
          have := cpt_snoc (l := l) (m := j + 1) (by omega) HY.out (by rw [show j + 1 - 1 = j by omega]; exact HZ.out)
          rw [this, if_neg HD.out, HC.out, show l.take (j + 1 + 1) = l.take (j + 1) ++ (l[j + 1]?).toList from List.take_add_one, HY.out]; rfl
        case measure => simp [intOf]; omega
    · obtain rfl : k = L := by omega
      go_wp2
      go_ret
      have e : cpt l = l := by have := HC.out; rw [List.take_of_length_le (by rw [HL.out]; exact Nat.le_refl _)] at this; exact this
      exact ⟨by rw [e, HL.out]; rfl, by rw [e]; exact HR.out.kept hb HB.out, HB.out.mono (by omega)⟩
end Go.Proofs.Ytcbpkagegdfidaa
