/- The law's only: of events those that are one of two. -/
import Derived.Test.YtmhaelfmojigoaaEq
set_option linter.unusedSimpArgs false
set_option linter.unusedVariables false
namespace Go.Proofs.Ytmhaelfmojigoaa
open Go.RowKit

theorem prj_take {α : Type} [DecidableEq α] {a b : α} {x : List α} {j : Nat} {e : α} (h : x[j]? = some e) : prj a b (x.take (j + 1)) = prj a b (x.take j) ++ (if decide (e = a) || decide (e = b) then [e] else []) := by
  rw [show x.take (j + 1) = x.take j ++ (x[j]?).toList from List.take_add_one, h, prj_app]
  congr 1
  show prj a b [e] = _
  rw [prj_cons]
  rfl
set_option maxRecDepth 100000 in
set_option maxHeartbeats 16000000 in
theorem only_any (x : List (Int × List (Int × Bool))) (a b : Int × List (Int × Bool)) (v va vb : Value) (w : World) (hs : EvS w v x) (ha : MkS w va a.2) (hb : MkS w vb b.2) (hl : x.length ≤ 1000) (h8 : ∀ e ∈ x, e.2.length ≤ 1000) (h9 : a.2.length ≤ 1000) (h10 : b.2.length ≤ 1000) :
    Calls Try.prog 30 #[v, .agg #[.int .i64 a.1, va], .agg #[.int .i64 b.1, vb]] w fun e w' => ∃ v', e = .returned v' ∧ EvS w' v' (prj a b x) ∧ Below w.heap.size w w' := by
  have HMA := Lib.hid ha
  have HMB := Lib.hid hb
  obtain ⟨p, cap, rfl, hcap, hcm, h4⟩ := hs
  obtain ⟨qa, ca, rfl, _⟩ := ha
  obtain ⟨qb, cb, rfl, _⟩ := hb
  obtain ⟨A, hA⟩ : ∃ A, x.length = A := ⟨_, rfl⟩
  rw [hA] at hcap hl ⊢
  have HA := Lib.hid hA
  have H4 := Lib.hid h4
  have H8 := Lib.hid h8
  have H9 := Lib.hid h9
  have H10 := Lib.hid h10
  clear hA h4 h8 h9 h10
  generalize ma : a.2.length = la at HMA HMB ⊢
  generalize mb : b.2.length = lb at HMA HMB ⊢
  go_enter Try.func30, Try.ntmps30
  go_wp2
  have hWa : Below w.heap.size w ((w.alloc (Obj.cells #[Value.int .i64 a.1, .slice qa la ca] 39)).alloc (Obj.cells #[Value.int .i64 b.1, .slice qb lb cb] 39)) := (below_alloc w _).alloc (by simp) _
  have ca0 : ∀ W, Below (w.heap.size + 2) ((w.alloc (Obj.cells #[Value.int .i64 a.1, .slice qa la ca] 39)).alloc (Obj.cells #[Value.int .i64 b.1, .slice qb lb cb] 39)) W → W.cell? ⟨w.heap.size, 0, Option.none⟩ = some (.int .i64 a.1) ∧ W.cell? ⟨w.heap.size, 1, Option.none⟩ = some (.slice qa la ca) ∧ W.cell? ⟨w.heap.size + 1, 0, Option.none⟩ = some (.int .i64 b.1) ∧ W.cell? ⟨w.heap.size + 1, 1, Option.none⟩ = some (.slice qb lb cb) := by
    intro W k
    have g1 : ((w.alloc (Obj.cells #[Value.int .i64 a.1, .slice qa la ca] 39)).alloc (Obj.cells #[Value.int .i64 b.1, .slice qb lb cb] 39)).heap[w.heap.size]? = some (Obj.cells #[Value.int .i64 a.1, .slice qa la ca] 39) := by
      rw [Below.heap_alloc _ _ _ (by simp)]; exact heap_alloc_new w _
    have g2 : ((w.alloc (Obj.cells #[Value.int .i64 a.1, .slice qa la ca] 39)).alloc (Obj.cells #[Value.int .i64 b.1, .slice qb lb cb] 39)).heap[w.heap.size + 1]? = some (Obj.cells #[Value.int .i64 b.1, .slice qb lb cb] 39) := by
      have := heap_alloc_new (w.alloc (Obj.cells #[Value.int .i64 a.1, .slice qa la ca] 39)) (Obj.cells #[Value.int .i64 b.1, .slice qb lb cb] 39)
      simpa using this
    refine ⟨(k.cell (p := ⟨w.heap.size, 0, Option.none⟩) (by simp)).trans ?_, (k.cell (p := ⟨w.heap.size, 1, Option.none⟩) (by simp)).trans ?_, (k.cell (p := ⟨w.heap.size + 1, 0, Option.none⟩) (by simp)).trans ?_, (k.cell (p := ⟨w.heap.size + 1, 1, Option.none⟩) (by simp)).trans ?_⟩
    · rw [cell_of_row _ _ _ _ _ _ g1]; rfl
    · rw [cell_of_row _ _ _ _ _ _ g1]; rfl
    · rw [cell_of_row _ _ _ _ _ _ g2]; rfl
    · rw [cell_of_row _ _ _ _ _ _ g2]; rfl
  have hsz : ((w.alloc (Obj.cells #[Value.int .i64 a.1, .slice qa la ca] 39)).alloc (Obj.cells #[Value.int .i64 b.1, .slice qb lb cb] 39)).heap.size = w.heap.size + 2 := by simp
  have HWA := Lib.hid hWa
  have HCA := Lib.hid ca0
  have HSZ := Lib.hid hsz
  clear hWa ca0 hsz
  generalize ((w.alloc (Obj.cells #[Value.int .i64 a.1, .slice qa la ca] 39)).alloc (Obj.cells #[Value.int .i64 b.1, .slice qb lb cb] 39)) = w1 at HWA HCA HSZ ⊢
  go_loopw [7, 12] (fun s7 s12 wr => ∃ (j : Nat), s12 = .int .i64 (j : Int) ∧ j ≤ A ∧ EvI wr w1.heap.size s7 (prj a b (x.take j)) ∧ Below w1.heap.size w1 wr) (fun _ s _ => A - (intOf s).toNat)
  case atStart => exact ⟨0, rfl, by omega, by simpa [prj] using EvI.nil _ _, Below.refl _ _⟩
  case round =>
    obtain ⟨j, rfl, hj, hi0, hb⟩ := hrel
    have HI := Lib.hid hi0
    have HB := Lib.hid hb
    clear hi0 hb
    by_cases hlt : j < A
    · obtain ⟨e, he⟩ : ∃ e, x[j]? = some e := ⟨_, List.getElem?_eq_getElem (by rw [HA.out]; exact hlt)⟩
      obtain ⟨b0, o0, rfl, hbb, hr⟩ : ∃ b o, p = some ⟨b, o, Option.none⟩ ∧ b < w.heap.size ∧ EvR w b o x := by
        rcases H4.out with ⟨_, h⟩ | h
        · rw [h] at he; simp at he
        · exact h
      obtain ⟨qf, mf, cf, hfc⟩ := hr.at hbb he
      have hle := H8.out e (List.mem_of_getElem? he)
      have kw := HWA.out.trans (HB.out.mono HWA.out.size)
      obtain ⟨c1, c2, hmk⟩ := hfc wr kw
      have kq : Below (w.heap.size + 2) w1 wr := by have := HB.out; rw [HSZ.out] at this; exact this
      obtain ⟨a0, a1, b1, b2⟩ := HCA.out wr kq
      have hmk0 := (hfc w (Below.refl _ _)).2.2
      have hx' := prj_take (a := a) (b := b) he
      have HSA : Hid (∀ w', Below w.heap.size w w' → Calls Try.prog 22 #[.agg #[.int .i64 e.1, .slice qf mf cf], .agg #[.int .i64 a.1, .slice qa la ca]] w' fun r w2 => r = .returned (.bool (decide (e = a))) ∧ Below w'.heap.size w' w2) := Lib.hid fun w' k => by
        refine (same_ev e.1 a.1 e.2 a.2 _ _ w' (hfc w' k).2.2 (HMA.out.kept k) hle H9.out).mono ?_
        rintro r w2 ⟨rfl, hb⟩
        exact ⟨by rw [← Bool.decide_and]; congr 2; exact decide_eq_decide.2 Prod.ext_iff.symm, hb⟩
      have HSB : Hid (∀ w', Below w.heap.size w w' → Calls Try.prog 22 #[.agg #[.int .i64 e.1, .slice qf mf cf], .agg #[.int .i64 b.1, .slice qb lb cb]] w' fun r w2 => r = .returned (.bool (decide (e = b))) ∧ Below w'.heap.size w' w2) := Lib.hid fun w' k => by
        refine (same_ev e.1 b.1 e.2 b.2 _ _ w' (hfc w' k).2.2 (HMB.out.kept k) hle H10.out).mono ?_
        rintro r w2 ⟨rfl, hb⟩
        exact ⟨by rw [← Bool.decide_and]; congr 2; exact decide_eq_decide.2 Prod.ext_iff.symm, hb⟩
      have HX := Lib.hid hx'
      have HFC := Lib.hid hfc
      have HMK := Lib.hid hmk0
      have HBW := Lib.hid hbb
      obtain ⟨da, hda⟩ : ∃ da, decide (e = a) = da := ⟨_, rfl⟩
      obtain ⟨db, hdb⟩ : ∃ db, decide (e = b) = db := ⟨_, rfl⟩
      rw [hda, hdb] at HX
      rw [hda] at HSA
      rw [hdb] at HSB
      have hs0 : w.heap.size + 2 ≤ wr.heap.size := by have := HB.out.size; rw [HSZ.out] at this; exact this
      have hs1 : w.heap.size < wr.heap.size := by omega
      have hs2 : w.heap.size + 1 < wr.heap.size := by omega
      have hs3 : b0 < wr.heap.size := by omega
      clear he hr hfc hle kw kq hmk hmk0 hx' hda hdb hs0
      go_wp2_with fail
      have hWa := below_alloc wr (Obj.cells #[Value.int .i64 e.1, .slice qf mf cf] 39)
      refine (HSA.out _ ((HWA.out.trans (HB.out.mono HWA.out.size)).trans (hWa.mono (by have := HWA.out.size; have := HB.out.size; omega)))).mono ?_
      rintro r w2 ⟨rfl, hb2⟩
      have hg1 := heap_alloc_new wr (Obj.cells #[Value.int .i64 e.1, .slice qf mf cf] 39)
      have e0 : w2.cell? ⟨wr.heap.size, 0, Option.none⟩ = some (.int .i64 e.1) := (hb2.cell (p := ⟨wr.heap.size, 0, Option.none⟩) (by simp)).trans (by rw [cell_of_row _ _ _ _ _ _ hg1]; rfl)
      have e1 : w2.cell? ⟨wr.heap.size, 1, Option.none⟩ = some (.slice qf mf cf) := (hb2.cell (p := ⟨wr.heap.size, 1, Option.none⟩) (by simp)).trans (by rw [cell_of_row _ _ _ _ _ _ hg1]; rfl)
      have HWrw2 : Hid (Below wr.heap.size wr w2) := Lib.hid (hWa.trans (hb2.mono (by simp)))
      have HKw2 : Hid (Below w1.heap.size w1 w2) := Lib.hid (HB.out.trans (HWrw2.out.mono HB.out.size))
      have kq2 : Below (w.heap.size + 2) w1 w2 := by have := HKw2.out; rw [HSZ.out] at this; exact this
      obtain ⟨a02, a12, b12, b22⟩ := HCA.out w2 kq2
      have hsz2 : wr.heap.size < w2.heap.size := by have := hb2.size; simp at this; omega
      have hs12 : w.heap.size < w2.heap.size := by omega
      have hs22 : w.heap.size + 1 < w2.heap.size := by omega
      clear hWa hg1 hb2 kq2 c1 c2 a0 a1 b1 b2
      cases da with
      | true =>
        have HXT : Hid (prj a b (x.take (j + 1)) = prj a b (x.take j) ++ [(e.1, e.2)]) := Lib.hid (by rw [HX.out]; rfl)
        have hg := heap_alloc_new w2 (Obj.cells #[Value.int .i64 e.1, .slice qf mf cf] 39)
        have hWb : Below w2.heap.size w2 (w2.alloc (Obj.cells #[Value.int .i64 e.1, .slice qf mf cf] 39)) := below_alloc w2 _
        have hlen : (prj a b (x.take j)).length ≤ 1000 := by
          have h1 : (prj a b (x.take j)).length ≤ (x.take j).length := List.length_filter_le _ _
          rw [List.length_take] at h1; omega
        have kall : Below w1.heap.size w1 w2 := HKw2.out
        have kw3 : Below w.heap.size w w2 := HWA.out.trans (kall.mono HWA.out.size)
        have hmkW := (HFC.out w2 kw3).2.2
        obtain ⟨v', w', hrun, hi', hg'⟩ := app_ev (w2.alloc (Obj.cells #[Value.int .i64 e.1, .slice qf mf cf] 39)) w1.heap.size _ (.slice qf mf cf) _ e.1 e.2 ((HI.out.kept HWrw2.out).kept hWb) hlen (by have := kall.size; simp; omega) ⟨w2.heap.size, 0, Option.none⟩ (by rw [add_lit, cell_of_row _ _ _ _ _ _ hg]; rfl) (by rw [add_lit, cell_of_row _ _ _ _ _ _ hg]; rfl) (hmkW.kept hWb)
          (fun g hgq e => by
            have h1 := HMK.out.blk hgq
            obtain ⟨cs, hown, _⟩ := HI.out
            have h2 := (hown.lt g e).1
            have := HWA.out.size
            omega)
        have HI' : Hid (EvI w' w1.heap.size v' (prj a b (x.take (j + 1)))) := Lib.hid (by rw [HXT.out]; exact hi')
        have HB' : Hid (Below w1.heap.size w1 w') := Lib.hid ((kall.trans (hWb.mono kall.size)).grown hg' (by have := kall.size; simp; omega) (fun g hgq => by
          obtain ⟨cs, hown, _⟩ := HI.out
          exact (hown.lt g hgq).1))
        clear hg hWb hlen kall kw3 hmkW hi' hg'
        go_wp2_with (at_builtin; refine wpList_app rfl (.tmp 24) (.tmp 26) 25 rfl _ _ _ w' rfl rfl hrun ?_)
        clear hrun a02 a12 b12 b22 e0 e1
        go_wp2
        go_roundw
        case rel => exact ⟨j + 1, by go_num, by omega, HI'.out, HB'.out⟩
        case measure => simp [intOf]; omega
      | false =>
        go_wp2_with fail
        refine (HSB.out _ (HWA.out.trans (HKw2.out.mono HWA.out.size))).mono ?_
        rintro r w3 ⟨rfl, hb3⟩
        have f0 : w3.cell? ⟨wr.heap.size, 0, Option.none⟩ = some (.int .i64 e.1) := (hb3.cell (p := ⟨wr.heap.size, 0, Option.none⟩) hsz2).trans e0
        have f1 : w3.cell? ⟨wr.heap.size, 1, Option.none⟩ = some (.slice qf mf cf) := (hb3.cell (p := ⟨wr.heap.size, 1, Option.none⟩) hsz2).trans e1
        have HWrw3 : Hid (Below wr.heap.size wr w3) := Lib.hid (HWrw2.out.trans (hb3.mono HWrw2.out.size))
        have HKw3 : Hid (Below w1.heap.size w1 w3) := Lib.hid (HB.out.trans (HWrw3.out.mono HB.out.size))
        clear hb3 a02 a12 b12 b22
        cases db with
        | true =>
          have HXT : Hid (prj a b (x.take (j + 1)) = prj a b (x.take j) ++ [(e.1, e.2)]) := Lib.hid (by rw [HX.out]; rfl)
          have hg := heap_alloc_new w3 (Obj.cells #[Value.int .i64 e.1, .slice qf mf cf] 39)
          have hWb : Below w3.heap.size w3 (w3.alloc (Obj.cells #[Value.int .i64 e.1, .slice qf mf cf] 39)) := below_alloc w3 _
          have hlen : (prj a b (x.take j)).length ≤ 1000 := by
            have h1 : (prj a b (x.take j)).length ≤ (x.take j).length := List.length_filter_le _ _
            rw [List.length_take] at h1; omega
          have kall : Below w1.heap.size w1 w3 := HKw3.out
          have kw3 : Below w.heap.size w w3 := HWA.out.trans (kall.mono HWA.out.size)
          have hmkW := (HFC.out w3 kw3).2.2
          obtain ⟨v', w', hrun, hi', hg'⟩ := app_ev (w3.alloc (Obj.cells #[Value.int .i64 e.1, .slice qf mf cf] 39)) w1.heap.size _ (.slice qf mf cf) _ e.1 e.2 ((HI.out.kept HWrw3.out).kept hWb) hlen (by have := kall.size; simp; omega) ⟨w3.heap.size, 0, Option.none⟩ (by rw [add_lit, cell_of_row _ _ _ _ _ _ hg]; rfl) (by rw [add_lit, cell_of_row _ _ _ _ _ _ hg]; rfl) (hmkW.kept hWb)
            (fun g hgq e => by
              have h1 := HMK.out.blk hgq
              obtain ⟨cs, hown, _⟩ := HI.out
              have h2 := (hown.lt g e).1
              have := HWA.out.size
              omega)
          have HI' : Hid (EvI w' w1.heap.size v' (prj a b (x.take (j + 1)))) := Lib.hid (by rw [HXT.out]; exact hi')
          have HB' : Hid (Below w1.heap.size w1 w') := Lib.hid ((kall.trans (hWb.mono kall.size)).grown hg' (by have := kall.size; simp; omega) (fun g hgq => by
            obtain ⟨cs, hown, _⟩ := HI.out
            exact (hown.lt g hgq).1))
          clear hg hWb hlen kall kw3 hmkW hi' hg'
          go_wp2_with (at_builtin; refine wpList_app rfl (.tmp 24) (.tmp 26) 25 rfl _ _ _ w' rfl rfl hrun ?_)
          clear hrun e0 e1 f0 f1
          go_wp2
          go_roundw
          case rel => exact ⟨j + 1, by go_num, by omega, HI'.out, HB'.out⟩
          case measure => simp [intOf]; omega
        | false =>
          have HI' : Hid (EvI w3 w1.heap.size u7 (prj a b (x.take (j + 1)))) := Lib.hid (by rw [HX.out]; simpa using HI.out.kept HWrw3.out)
          clear e0 e1 f0 f1
          go_wp2
          go_roundw
          case rel => exact ⟨j + 1, by go_num, by omega, HI'.out, HKw3.out⟩
          case measure => simp [intOf]; omega
    · obtain rfl : j = A := by omega
      have h := HI.out
      rw [List.take_of_length_le (by rw [HA.out]; exact Nat.le_refl _)] at h
      have HE := Lib.hid h.evs
      have HK := Lib.hid (HWA.out.trans (HB.out.mono HWA.out.size))
      clear h
      go_wp2
      go_ret
      exact ⟨_, rfl, HE.out, HK.out⟩
end Go.Proofs.Ytmhaelfmojigoaa
