/- braid.waiting: for how many events ahead of it each one waits. -/
import Derived.Test.YtcbpkagegdfidaaZw
import Derived.Test.YtcbpkagegdfidaaXc
import Derived.Test.YtcbpkagegdfidaaEk
import Derived.Test.YtcbpkagegdfidaaHl
set_option linter.unusedSimpArgs false
set_option linter.unusedVariables false
namespace Go.Proofs.Ytcbpkagegdfidaa
open Go.RowKit

/-- A row of the call's own that holds the numbers g 0, g 1, and so on. -/
def IsR (w : World) (base B A : Nat) (g : Nat → Int) : Prop := w.ownsRow base 3 1 (.slice (some ⟨B, 0, Option.none⟩) A A) A ((List.range A).map fun j => .int .i64 (g j))
theorem IsR.at {w : World} {base B A : Nat} {g : Nat → Int} (h : IsR w base B A g) {j : Nat} (hj : j < A) : w.cell? ⟨B, j, Option.none⟩ = some (.int .i64 (g j)) := by
  rw [World.ownsRow.cellAt h j (by omega), List.getElem?_map, List.getElem?_range hj]
  rfl
theorem IsR.frz {w : World} {base B A : Nat} {g : Nat → Int} (h : IsR w base B A g) (j : Nat) : w.frozen? ⟨B, j, Option.none⟩ = false := World.ownsRow.frozenAt h j
theorem IsR.kept {w w' : World} {base B A : Nat} {g : Nat → Int} (h : IsR w base B A g) (k : Below w.heap.size w w') : IsR w' base B A g := own_kept h k
theorem IsR.lt {w : World} {base B A : Nat} {g : Nat → Int} (h : IsR w base B A g) : base ≤ B ∧ B < w.heap.size := World.ownsRow.lt h B rfl
theorem IsR.grown {w w' : World} {base B A : Nat} {g : Nat → Int} {row : Option Nat} (h : IsR w base B A g) (k : w.grownBy w' row) (hne : some B ≠ row) : IsR w' base B A g := World.ownsRow.kept h k (.inr hne)
theorem IsR.congr {w : World} {base B A : Nat} {g g' : Nat → Int} (h : IsR w base B A g) (e : ∀ j, j < A → g j = g' j) : IsR w base B A g' := by
  have : ((List.range A).map fun j => Value.int .i64 (g j)) = (List.range A).map fun j => Value.int .i64 (g' j) := List.map_congr_left fun j hj => by rw [e j (List.mem_range.1 hj)]
  unfold IsR at h ⊢
  rw [← this]
  exact h
theorem IsR.set {w : World} {base B A : Nat} {g : Nat → Int} (h : IsR w base B A g) {J : Nat} (hJ : J < A) (n : Int) : IsR (w.setCell ⟨B, J, Option.none⟩ (.int .i64 n)) base B A (upd g J n) := by
  have h1 := (World.ownsRow.stored h J (.int .i64 n)).1
  unfold IsR
  have e : ((List.range A).map fun j => Value.int .i64 (upd g J n j)) = ((List.range A).map fun j => Value.int .i64 (g j)).set J (.int .i64 n) := by
    apply List.ext_getElem?
    intro j
    rw [List.getElem?_set]
    by_cases hj : J = j
    · subst hj
      simp [hJ, upd_at]
    · rw [if_neg hj]
      by_cases hjA : j < A
      · simp [hjA, upd_ne g n (fun e => hj e.symm)]
      · simp [hjA]
  rw [e]
  exact h1
theorem gb_below {w w' : World} (h : Below w.heap.size w w') (row : Option Nat) : w.grownBy w' row := ⟨h.os, h.tape, h.output, h.size, fun k hk _ => h.block k hk⟩
theorem madei (A : Nat) : (madeCells #[Value.int .i64 0] A).toList = (List.range A).map fun _ => Value.int .i64 0 := by
  simp [madeCells, Nat.mod_one, Array.toList_map]

/-- Those below J have counted. -/
def wtg (x : Evl) (J : Nat) (j : Nat) : Int := if j < J then (wtn (dpi x) (fun _ => true) j j : Int) else 0
theorem wtg_upd (x : Evl) (J j : Nat) : upd (wtg x J) J (wtn (dpi x) (fun _ => true) J J : Nat) j = wtg x (J + 1) j := by
  unfold upd wtg
  by_cases h : j = J
  · subst h
    rw [if_pos rfl, if_pos (by omega)]
  · rw [if_neg h]
    by_cases h2 : j < J
    · rw [if_pos h2, if_pos (by omega)]
    · rw [if_neg h2, if_neg (by omega)]
theorem wtg_zero (x : Evl) (J j : Nat) : wtg x J j = upd (wtg x J) J ((0 : Nat) : Int) j := by
  unfold upd
  by_cases h : j = J
  · subst h
    rw [if_pos rfl]
    unfold wtg
    rw [if_neg (by omega)]
    rfl
  · rw [if_neg h]
theorem upd_upd (g : Nat → Int) (J : Nat) (n m : Int) (j : Nat) : upd (upd g J n) J m j = upd g J m j := by
  unfold upd
  by_cases h : j = J
  · rw [if_pos h, if_pos h]
  · rw [if_neg h, if_neg h, if_neg h]

set_option maxRecDepth 100000 in
set_option maxHeartbeats 16000000 in
theorem waiting_any (x : Evl) (v : Value) (w : World) (hs : EvS w v x) (hk : Evk x) : Calls Try.prog 48 #[v] w fun e w' => ∃ B, e = .returned (.slice (some ⟨B, 0, Option.none⟩) x.length x.length) ∧ IsR w' w.heap.size B x.length (wts (dpi x) fun _ => true) ∧ Below w.heap.size w w' := by
  obtain ⟨p, cap, rfl, hcap, hcm, h4⟩ := hs
  obtain ⟨A, hA⟩ : ∃ A, x.length = A := ⟨_, rfl⟩
  rw [hA] at hcap ⊢
  have hA60 : A ≤ 60 := by rw [← hA]; exact hk.1
  have HA := Lib.hid hA
  have HK := Lib.hid hk
  have H4 := Lib.hid h4
  obtain ⟨i0, hi, hz0, hz1, hz2⟩ := in_info
  clear hA h4 hk
  go_enter Try.func48, Try.ntmps48
  go_wp2_with (at_make; refine wpList_make_full _ rfl (.tmp 9) (.tmp 9) 40 rfl w.heap.size 3 i0 _ 1 Try.underlying40 hi hz0 hz1 .i64 .i64 (A : Int) (A : Int) A rfl rfl rfl rfl (by rw [hz2]; omega) (by unfold maxLen; omega) (Nat.le_refl _) ?_)
  intro w1 hown hgr
  rw [madei] at hown
  have HI0 : Hid (IsR w1 w.heap.size w.heap.size A fun _ => 0) := Lib.hid hown
  have HB0 : Hid (Below w.heap.size w w1) := Lib.hid ((Below.refl _ w).grown hgr (Nat.le_refl _) (fun k hk => by cases hk))
  obtain ⟨B, hB⟩ : ∃ B, w.heap.size = B := ⟨_, rfl⟩
  rw [hB] at HI0
  have HBE := Lib.hid hB
  clear hown hgr hi hz0 hz1 hz2
  rw [hB]
  clear hB
  go_wp2
  go_loopw [13] (fun s13 wr => ∃ (J : Nat), s13 = .int .i64 (J : Int) ∧ J ≤ A ∧ IsR wr B B A (wtg x J) ∧ Below w.heap.size w wr) (fun s _ => A - (intOf s).toNat)
  case atStart => exact ⟨0, rfl, Nat.zero_le _, HI0.out.congr (fun j _ => by simp [wtg]), HB0.out⟩
  case round =>
    clear HI0 HB0
    obtain ⟨J, rfl, hJ, hI, hb⟩ := hrel
    have HI := Lib.hid hI
    have HB := Lib.hid hb
    clear hI hb
    by_cases hlt : J < A
    · obtain ⟨f, hf⟩ : ∃ f, x[J]? = some f := ⟨_, List.getElem?_eq_getElem (by rw [HA.out]; exact hlt)⟩
      obtain ⟨b, o, rfl, hbb, hr⟩ : ∃ b o, p = some ⟨b, o, Option.none⟩ ∧ b < w.heap.size ∧ EvR w b o x := by
        rcases H4.out with ⟨_, e⟩ | h
        · rw [e] at hf; simp at hf
        · exact h
      obtain ⟨qf, mf, cf, hfc⟩ := hr.at hbb hf
      obtain ⟨c1, c2, hm⟩ := hfc wr HB.out
      have HFC := Lib.hid hfc
      have HF := Lib.hid hf
      have HR := Lib.hid hr
      have hml : (J : Int) < (A : Int) := by omega
      have hmc : J ≤ cap := by omega
      have hc0 : ¬ cap = 0 := by omega
      obtain ⟨X, hX⟩ : ∃ X, wr.heap.size = X := ⟨_, rfl⟩
      obtain ⟨wb, hwb⟩ : ∃ wb, wr.alloc (Obj.cells #[Value.int .i64 f.1, .slice qf mf cf] 38) = wb := ⟨_, rfl⟩
      have hg := heap_alloc_new wr (Obj.cells #[Value.int .i64 f.1, .slice qf mf cf] 38)
      have hba := below_alloc wr (Obj.cells #[Value.int .i64 f.1, .slice qf mf cf] 38)
      rw [hwb] at hg hba
      rw [hX] at hg
      have HIb : Hid (IsR wb B B A (upd (wtg x J) J ((0 : Nat) : Int))) := Lib.hid ((HI.out.kept hba).congr fun j _ => wtg_zero x J j)
      have HBb : Hid (Below w.heap.size w wb) := Lib.hid (HB.out.trans (hba.mono HB.out.size))
      have HXb := Lib.hid hg
      have HXE := Lib.hid hX
      have HWBE := Lib.hid hwb
      have HBX : Hid (B < X) := Lib.hid (by rw [← hX]; exact HI.out.lt.2)
      have hjw : IntKind.i64.wrap ((J : Int) + 1) = ((J + 1 : Nat) : Int) := by rw [IntKind.wrap_i64]; omega
      clear hfc hf hr hm hX hwb hg hba HI HB
      go_wp2_with fail
      rw [HWBE.out, HXE.out]
      clear c1 c2
      go_loopw [22] (fun s22 wk => ∃ (K n : Nat), s22 = .int .i64 (K : Int) ∧ K ≤ J ∧ n = wtn (dpi x) (fun _ => true) J K ∧ IsR wk B B A (upd (wtg x J) J (n : Int)) ∧ wk.heap[X]? = some (Obj.cells #[Value.int .i64 f.1, .slice qf mf cf] 38) ∧ Below w.heap.size w wk) (fun s _ => J - (intOf s).toNat)
      case atStart => exact ⟨0, 0, rfl, Nat.zero_le _, rfl, HIb.out, HXb.out, HBb.out⟩
      case round =>
        clear HIb HXb HBb HWBE HXE
        obtain ⟨K, n, rfl, hK, hn, hI, hx, hb⟩ := hrel
        by_cases hltK : K < J
        · obtain ⟨e, he⟩ : ∃ e, x[K]? = some e := ⟨_, List.getElem?_eq_getElem (by rw [HA.out]; omega)⟩
          obtain ⟨qe, me, ce, hec⟩ := HR.out.at hbb he
          obtain ⟨d1, d2, _⟩ := hec wr hb
          have d3 : wr.cell? ⟨X, 0, Option.none⟩ = some (.int .i64 f.1) := by rw [cell_of_row _ _ _ _ _ _ hx]; rfl
          have d4 : wr.cell? ⟨X, 1, Option.none⟩ = some (.slice qf mf cf) := by rw [cell_of_row _ _ _ _ _ _ hx]; rfl
          have d5 := al_cell d3 (Obj.cells #[Value.int .i64 e.1, .slice qe me ce] 38)
          have d6 := al_cell d4 (Obj.cells #[Value.int .i64 e.1, .slice qe me ce] 38)
          have hKl : (K : Int) < (J : Int) := by omega
          have hkw : IntKind.i64.wrap ((K : Int) + 1) = ((K + 1 : Nat) : Int) := by rw [IntKind.wrap_i64]; omega
          obtain ⟨d, hd⟩ : ∃ d, edep e f = d := ⟨_, rfl⟩
          have hst := wtn_step (dep := dpi x) (fun _ => true) J K
          rw [dpi_at he HF.out, hd, ← hn, Bool.true_and] at hst
          have hle := wtn_le (dep := dpi x) (fun _ => true) J K
          rw [← hn] at hle
          have hnw : IntKind.i64.wrap ((n : Int) + 1) = ((n + 1 : Nat) : Int) := by rw [IntKind.wrap_i64]; omega
          have hba := below_alloc wr (Obj.cells #[Value.int .i64 e.1, .slice qe me ce] 38)
          have hb2 := hb.trans (hba.mono hb.size)
          have hC := depend_at e f _ _ _ (hec _ hb2).2.2 (HFC.out _ hb2).2.2 (HK.out.mk8 e (List.mem_of_getElem? he)) (HK.out.mk8 f (List.mem_of_getElem? HF.out))
          rw [hd] at hC
          have HC := Lib.hid hC
          have HST := Lib.hid hst
          have HI2 := Lib.hid (hI.kept hba)
          have HX2 := Lib.hid ((hba.block X (lt_of_block hx)).trans hx)
          have HB2 := Lib.hid hb2
          clear hn hst hec he hd hC hb hI hx hb2 hba
          go_wp2_with (go_at_call 17; refine Hid.out ?_)
          refine Lib.hid ?_
          refine HC.out.mono ?_
          rintro r w3 ⟨rfl, hb3⟩
          have HI3 := Lib.hid (HI2.out.kept hb3)
          have HX3 := Lib.hid ((hb3.block X (lt_of_block HX2.out)).trans HX2.out)
          have HB3 := Lib.hid (HB2.out.trans (hb3.mono HB2.out.size))
          clear d1 d2 d3 d4 d5 d6 HC hb3 HI2 HX2 HB2
          cases d with
          | false =>
            go_wp2
            go_roundw
            case rel => exact ⟨K + 1, n, by go_num, by omega, by rw [HST.out]; rfl, HI3.out, HX3.out, HB3.out⟩
            case measure => simp [intOf]; omega
          | true =>
            have c0 := HI3.out.at hlt
            rw [upd_at] at c0
            have f0 := HI3.out.frz J
            have HI4 := Lib.hid ((HI3.out.set hlt ((n + 1 : Nat) : Int)).congr fun j _ => upd_upd _ _ _ _ j)
            have HX4 : Hid ((w3.setCell ⟨B, J, Option.none⟩ (.int .i64 ((n + 1 : Nat) : Int))).heap[X]? = some (Obj.cells #[Value.int .i64 f.1, .slice qf mf cf] 38)) := Lib.hid ((heap_setCell_other _ _ _ _ (by have := HBX.out; simp; omega)).trans HX3.out)
            have HB4 : Hid (Below w.heap.size w (w3.setCell ⟨B, J, Option.none⟩ (.int .i64 ((n + 1 : Nat) : Int)))) := Lib.hid (HB3.out.setCell (p := ⟨B, J, Option.none⟩) (by rw [HBE.out]; exact Nat.le_refl _) _)
            obtain ⟨n1, hn1⟩ : ∃ n1, n + 1 = n1 := ⟨_, rfl⟩
            rw [hn1] at hnw HI4 HX4 HB4
            have HN1 := Lib.hid hn1
            clear hn1
            go_wp2
            go_roundw
            case rel => exact ⟨K + 1, n1, by go_num, by omega, by rw [HST.out, ← HN1.out]; rfl, HI4.out, HX4.out, HB4.out⟩
            case measure => simp [intOf]; omega
        · obtain rfl : K = J := by omega
          subst hn
          have HI5 := Lib.hid (hI.congr fun j _ => wtg_upd x K j)
          have HB5 := Lib.hid hb
          clear hI hx hb
          go_wp2
          go_roundw
          case rel => exact ⟨K + 1, by go_num, by omega, HI5.out, HB5.out⟩
          case measure => simp [intOf]; omega
    · obtain rfl : J = A := by omega
      go_wp2
      go_ret
      exact ⟨_, rfl, by rw [HBE.out]; exact HI.out.congr fun j hj => by simp [hj, wts, wtg], HB.out⟩
end Go.Proofs.Ytcbpkagegdfidaa
