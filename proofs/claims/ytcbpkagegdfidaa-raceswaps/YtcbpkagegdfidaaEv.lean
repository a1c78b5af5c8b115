/- Events in memory; the law's Light, Events. -/
import Derived.Test.YtcbpkagegdfidaaMk
import Derived.Test.YtcbpkagegdfidaaAw
import Derived.Deep.RegionHeld3
import Derived.Deep.DeepCutAuto
import Derived.Deep.CutBlock
set_option linter.unusedSimpArgs false
set_option linter.unusedVariables false
namespace Go.Proofs.Ytcbpkagegdfidaa
open Go.RowKit

set_option maxHeartbeats 1000000 in
theorem together_blk (l : List (Int × Bool)) (v : Value) (w : World) (hs : MkS w v l) (hl : l.length ≤ 1000) : Calls Try.prog 34 #[v] w fun e w' => ∃ v', e = .returned v' ∧ MkS w' v' (nrm l) ∧ (∀ q, v'.ownBlock = some q → w.heap.size ≤ q) ∧ Below w.heap.size w w' := by
  have HCL := Lib.hid (clone_mk l v w hs hl)
  have HL := Lib.hid hl
  clear hs hl
  go_enter Try.func34, Try.ntmps34
  go_wp2_with (go_at_call 28; refine Hid.out ?_)
  refine Lib.hid ?_
  refine HCL.out.mono ?_
  rintro e w1 ⟨v1, rfl, hb1, hv1⟩
  rcases hv1 with ⟨rfl, rfl⟩ | ⟨g, cap, rfl, hg, hg1, hc, hcm, hr, hf⟩
  · have HB := Lib.hid hb1
    clear hb1
    go_wp2_with (first | (go_at_call 43; refine (sort_nil _ _ _).mono ?_; rintro e w' ⟨rfl, rfl⟩) | (go_at_call 45; refine (compact_small _ 0 0 (by omega) _ _).mono ?_; rintro e w' ⟨rfl, rfl⟩))
    go_ret
    exact ⟨_, rfl, by rw [nrm_nil]; exact MkS.nil _, (fun q hq => by cases hq), HB.out⟩
  · have HS := Lib.hid (sort_mk l g cap w1 hr hf hg1 HL.out w.heap.size hg)
    have HB := Lib.hid hb1
    have HG := Lib.hid hg
    have HC := Lib.hid hc
    have HM := Lib.hid hcm
    clear hb1 hr hf hg hg1 hc hcm
    go_wp2_with (go_at_call 43; refine Hid.out ?_)
    refine Lib.hid ?_
    refine HS.out.mono ?_
    rintro e w2 ⟨rfl, k, hp, hst, hr, hf, hg2, hb2⟩
    have hkl : k.length = l.length := hp.length_eq
    have HP := Lib.hid (nrm_eq (nrm_of hp hst))
    have HB2 := Lib.hid (HB.out.trans hb2)
    have HK := Lib.hid (compact_mk k g cap w.heap.size w2 hr (by rw [hkl]; exact hf) hg2 HG.out (by rw [hkl]; exact HC.out) HM.out (by rw [hkl]; exact HL.out))
    have HKL := Lib.hid hkl
    rw [← hkl]
    have HG2 := Lib.hid hg2
    clear hp hst hr hf hg2 hb2 hkl
    go_wp2_with (go_at_call 45; refine Hid.out ?_)
    refine Lib.hid ?_
    refine HK.out.mono ?_
    rintro e w3 ⟨rfl, hr3, hb3⟩
    have hle : (cpt k).length ≤ cap := by have := cpt_len k; have := HKL.out; have := HC.out; omega
    have HLE := Lib.hid hle
    have HR3 := Lib.hid hr3
    have HB3 := Lib.hid hb3
    clear hle hr3 hb3
    go_wp2
    go_ret
    rw [← HP.out]
    exact ⟨_, rfl, ⟨_, cap, rfl, HLE.out, HM.out, .inr ⟨g, 0, rfl, Nat.lt_of_lt_of_le HG2.out HB3.out.size, HR3.out⟩⟩, (fun q hq => by cases hq; exact HG.out), HB2.out.trans HB3.out⟩

set_option maxHeartbeats 1000000 in
theorem new_blk (t : Int) (l : List (Int × Bool)) (v : Value) (w : World) (hs : MkS w v l) (hl : l.length ≤ 1000) : Calls Try.prog 22 #[.int .i64 t, v] w fun e w' => ∃ v', e = .returned (.agg #[.int .i64 t, v']) ∧ MkS w' v' (nrm l) ∧ (∀ q, v'.ownBlock = some q → w.heap.size ≤ q) ∧ Below w.heap.size w w' := by
  have HT := Lib.hid (fun w' k => together_blk l v w' (hs.kept k) hl)
  clear hs hl
  go_enter Try.func22, Try.ntmps22
  go_wp2_with (go_at_call 34; refine Hid.out ?_)
  refine Lib.hid ?_
  refine (HT.out _ ((Below.refl _ w).alloc (Nat.le_refl _) _)).mono ?_
  rintro e w1 ⟨v1, rfl, hm, hq, hb⟩
  have hsz : w.heap.size < (w.alloc (Obj.cells #[Value.int IntKind.i64 0, Value.slice Option.none 0 0] 38)).heap.size := by simp
  have hg := heap_alloc_new w (Obj.cells #[Value.int IntKind.i64 0, Value.slice Option.none 0 0] 38)
  have hg1 := (hb.block _ hsz).trans hg
  have c0 : w1.cell? ⟨w.heap.size, 0, Option.none⟩ = some (.int .i64 0) := by rw [cell_of_row w1 _ 0 _ _ _ hg1]; rfl
  have c1 : w1.cell? ⟨w.heap.size, 1, Option.none⟩ = some (.slice Option.none 0 0) := by rw [cell_of_row w1 _ 1 _ _ _ hg1]; rfl
  have f0 := frozen_of_row w1 w.heap.size 0 _ _ hg1
  have f1 := frozen_of_row w1 w.heap.size 1 _ _ hg1
  have HB : Hid (Below w.heap.size w w1) := Lib.hid (((Below.refl _ w).alloc (Nat.le_refl _) _).trans (hb.mono (by simp)))
  obtain ⟨p, cap, rfl, h2, h3, h4⟩ := hm
  have HQ : Hid (∀ q, (Value.slice p (nrm l).length cap).ownBlock = some q → w.heap.size ≤ q) := Lib.hid fun q h => by have := hq q h; simp at this; omega
  have h4' : (p = Option.none ∧ nrm l = []) ∨ ∃ b o, p = some ⟨b, o, Option.none⟩ ∧ b < w1.heap.size ∧ Row w1 b o (nrm l) := h4
  have hap := fun b o (hr : Row w1 b o (nrm l)) (hne : nrm l ≠ []) => row_apart hr hne hg1
  have H4 := Lib.hid h4'
  have HAP := Lib.hid hap
  clear hq hb hg hg1 h4 h4' hsz hap
  go_wp2
  have ne : (⟨w.heap.size, 1, Option.none⟩ : Addr) ≠ ⟨w.heap.size, 0, Option.none⟩ := fun e => by have := congrArg Addr.off e; cases this
  have d1 : ((w1.setCell ⟨w.heap.size, 0, Option.none⟩ (.int .i64 t)).setCell ⟨w.heap.size, 1, Option.none⟩ (.slice p (nrm l).length cap)).cell? ⟨w.heap.size, 1, Option.none⟩ = some (.slice p (nrm l).length cap) :=
    World.cell?_setCell_same _ _ _ (u := .slice Option.none 0 0) (by rw [World.cell?_setCell_other _ _ _ _ ne.symm]; exact c1)
  have d0 : ((w1.setCell ⟨w.heap.size, 0, Option.none⟩ (.int .i64 t)).setCell ⟨w.heap.size, 1, Option.none⟩ (.slice p (nrm l).length cap)).cell? ⟨w.heap.size, 0, Option.none⟩ = some (.int .i64 t) := by
    rw [World.cell?_setCell_other _ _ _ _ ne]; exact World.cell?_setCell_same _ _ _ c0
  have HB2 : Hid (Below w.heap.size w ((w1.setCell ⟨w.heap.size, 0, Option.none⟩ (.int .i64 t)).setCell ⟨w.heap.size, 1, Option.none⟩ (.slice p (nrm l).length cap))) := Lib.hid ((HB.out.setCell (Nat.le_refl _) _).setCell (Nat.le_refl _) _)
  have HM : Hid (MkS ((w1.setCell ⟨w.heap.size, 0, Option.none⟩ (.int .i64 t)).setCell ⟨w.heap.size, 1, Option.none⟩ (.slice p (nrm l).length cap)) (.slice p (nrm l).length cap) (nrm l)) := by
    refine Lib.hid ⟨p, cap, rfl, h2, h3, ?_⟩
    rcases H4.out with h | ⟨b, o, rfl, hb, hr⟩
    · exact .inl h
    · refine .inr ⟨b, o, rfl, by simpa using hb, fun i x hx => ?_⟩
      have hne : nrm l ≠ [] := by intro e; rw [e] at hx; simp at hx
      have hbn := HAP.out b o hr hne
      have far : ∀ (q : Nat) (c : Nat), (⟨w.heap.size, q, Option.none⟩ : Addr) ≠ ⟨b, c, Option.none⟩ := fun q c e => hbn (by have := congrArg Addr.block e; exact this.symm)
      rw [World.cell?_setCell_other _ _ _ _ (far _ _), World.cell?_setCell_other _ _ _ _ (far _ _), World.cell?_setCell_other _ _ _ _ (far _ _), World.cell?_setCell_other _ _ _ _ (far _ _)]
      exact hr i x hx
  generalize ((w1.setCell ⟨w.heap.size, 0, Option.none⟩ (.int .i64 t)).setCell ⟨w.heap.size, 1, Option.none⟩ (.slice p (nrm l).length cap)) = X at *
  refine bodyPost_ret (v := .agg #[.int .i64 t, .slice p (nrm l).length cap]) (by simp [results, Try.results22, go_sem, d0, d1]) rfl ⟨_, rfl, HM.out, HQ.out, HB2.out⟩


/-- Events lie from a place on; a slice of events. -/
def EvR (w : World) (b o : Nat) (x : List (Int × List (Int × Bool))) : Prop := ∀ i e, x[i]? = some e → w.cell? ⟨b, o + i * 2, Option.none⟩ = some (.int .i64 e.1) ∧ ∃ u, w.cell? ⟨b, o + i * 2 + 1, Option.none⟩ = some u ∧ MkS w u e.2
def EvS (w : World) (v : Value) (x : List (Int × List (Int × Bool))) : Prop := ∃ p cap, v = .slice p x.length cap ∧ x.length ≤ cap ∧ cap ≤ maxLen ∧ ((p = Option.none ∧ x = []) ∨ ∃ b o, p = some ⟨b, o, Option.none⟩ ∧ b < w.heap.size ∧ EvR w b o x)
theorem EvR.kept {w w' : World} {b o : Nat} {x : List (Int × List (Int × Bool))} (h : EvR w b o x) (hb : b < w.heap.size) (k : Below w.heap.size w w') : EvR w' b o x := fun i e hi => by
  obtain ⟨h1, u, h2, h3⟩ := h i e hi
  exact ⟨(k.cell (p := ⟨b, _, Option.none⟩) hb).trans h1, u, (k.cell (p := ⟨b, _, Option.none⟩) hb).trans h2, h3.kept k⟩
theorem EvS.kept {w w' : World} {v : Value} {x : List (Int × List (Int × Bool))} (h : EvS w v x) (k : Below w.heap.size w w') : EvS w' v x := by
  obtain ⟨p, cap, h1, h2, h3, h4⟩ := h
  refine ⟨p, cap, h1, h2, h3, ?_⟩
  rcases h4 with h4 | ⟨b, o, hp, hb, hr⟩
  · exact .inl h4
  · exact .inr ⟨b, o, hp, Nat.lt_of_lt_of_le hb k.size, hr.kept hb k⟩
/-- What comes in: a slice of events by small numbers. -/
def ES (w : World) (v : Value) (l : List (Int × List (Int × Bool))) : Prop := (v = .slice Option.none 0 0 ∧ l = []) ∨ ∃ a cap, v = .slice (some a) l.length cap ∧ l.length ≤ cap ∧ cap ≤ maxLen ∧ (l ≠ [] → ∃ b o, a = ⟨b, o, Option.none⟩ ∧ b < w.heap.size ∧
  ∀ i e, l[i]? = some e → w.cell? ⟨b, o + i * 2, Option.none⟩ = some (.int .u8 e.1) ∧ ∃ u, w.cell? ⟨b, o + i * 2 + 1, Option.none⟩ = some u ∧ TcS w u e.2)
def eok (l : List (Int × List (Int × Bool))) : Prop := ∀ e ∈ l, (0 ≤ e.1 ∧ e.1 < 256) ∧ sml e.2
theorem ES.form {w : World} {v : Value} {l : List (Int × List (Int × Bool))} (h : ES w v l) : ∃ p cap, v = .slice p l.length cap ∧ l.length ≤ cap := by
  rcases h with ⟨rfl, rfl⟩ | ⟨a, cap, rfl, h, _⟩
  · exact ⟨_, 0, rfl, Nat.le_refl _⟩
  · exact ⟨_, cap, rfl, h⟩
theorem ES.one {w : World} {p : Option Addr} {n cap j : Nat} {l : List (Int × List (Int × Bool))} {e : Int × List (Int × Bool)} (h : ES w (.slice p n cap) l) (hx : l[j]? = some e) :
    ∃ b o q m c, p = some ⟨b, o, Option.none⟩ ∧ b < w.heap.size ∧ m = e.2.length ∧ ∀ W, Below w.heap.size w W → W.cell? ⟨b, o + j * 2, Option.none⟩ = some (.int .u8 e.1) ∧ W.cell? ⟨b, o + j * 2 + 1, Option.none⟩ = some (.slice q m c) ∧ TcS W (.slice q m c) e.2 := by
  rcases h with ⟨_, h0⟩ | ⟨a, k, h0, _, _, h⟩
  · rw [h0] at hx; simp at hx
  · obtain ⟨b, o, rfl, hb, hr⟩ := h (by rintro rfl; simp at hx)
    simp only [Value.slice.injEq] at h0
    obtain ⟨h1, u, h2, h3⟩ := hr j e hx
    obtain ⟨q, c, rfl, _⟩ := h3.form
    exact ⟨b, o, q, _, c, h0.1, hb, rfl, fun W kk => ⟨(kk.cell (p := ⟨b, _, Option.none⟩) hb).trans h1, (kk.cell (p := ⟨b, _, Option.none⟩) hb).trans h2, h3.kept kk⟩⟩

set_option maxHeartbeats 2000000 in
/-- The law's Light. -/
theorem light_any (l : List (Int × List (Int × Bool))) (most : Int) (v : Value) (w : World) (hs : ES w v l) (hl : l.length ≤ 9223372036854775807) : Calls Try.prog 8 #[v, .int .i64 most] w fun e w' => e = .returned (.bool (l.all (fun e => decide (e.2.length ≤ 8)) && decide ((l.length : Int) ≤ most))) ∧ Below w.heap.size w w' := by
  obtain ⟨p, cap, rfl, hcap⟩ := hs.form
  obtain ⟨A, hA⟩ : ∃ A, l.length = A := ⟨_, rfl⟩
  rw [hA] at hs hcap hl ⊢
  have HS := Lib.hid hs
  have HA := Lib.hid hA
  clear hs hA
  go_enter Try.func8, Try.ntmps8
  go_wp2
  go_loopw [9] (fun s wr => ∃ (j : Nat), s = .int .i64 (j : Int) ∧ j ≤ A ∧ (l.take j).all (fun e => decide (e.2.length ≤ 8)) = true ∧ Below w.heap.size w wr) (fun s _ => A - (intOf s).toNat)
  case atStart => exact ⟨0, rfl, by omega, by simp, Below.refl _ _⟩
  case round =>
    obtain ⟨j, rfl, hj, ha, hb⟩ := hrel
    have HAL := Lib.hid ha
    have HB := Lib.hid hb
    clear ha hb
    by_cases hlt : j < A
    · obtain ⟨x, hx⟩ : ∃ x, l[j]? = some x := ⟨_, List.getElem?_eq_getElem (by rw [HA.out]; exact hlt)⟩
      obtain ⟨b, o, q, m, c, rfl, hbb, hm, hc⟩ := HS.out.one hx
      obtain ⟨c0, c1, _⟩ := hc wr HB.out
      have HX := Lib.hid hx
      have HM := Lib.hid hm
      clear hx hc hm
      by_cases h8 : 8 < m
      · have h8i : (8 : Int) < (m : Int) := by omega
        have hf : l.all (fun e => decide (e.2.length ≤ 8)) = false := by
          rw [List.all_eq_false]
          exact ⟨x, List.mem_of_getElem? HX.out, by rw [← HM.out]; simp; omega⟩
        have HF := Lib.hid hf
        clear hf
        go_wp2
        go_ret
        exact ⟨by rw [HF.out]; rfl, HB.out.alloc HB.out.size _⟩
      · have h8i : ¬ (8 : Int) < (m : Int) := by omega
        go_wp2
        go_roundw
        case rel => exact ⟨j + 1, by go_num, by omega, by rw [show l.take (j + 1) = l.take j ++ (l[j]?).toList from List.take_add_one, HX.out, List.all_append, HAL.out]; simp [← HM.out]; omega, HB.out.alloc HB.out.size _⟩
        case measure => simp [intOf]; omega
    · obtain rfl : j = A := by omega
      have ha : l.all (fun e => decide (e.2.length ≤ 8)) = true := by have := HAL.out; rwa [List.take_of_length_le (by rw [HA.out]; exact Nat.le_refl _)] at this
      have HF := Lib.hid ha
      clear ha
      go_wp2
      go_ret
      exact ⟨by rw [HF.out]; simp, HB.out⟩
end Go.Proofs.Ytcbpkagegdfidaa
