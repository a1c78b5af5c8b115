/- Light; TreePrints, walked. -/
import Derived.Test.YtmomdcnlhljhcaaDoorAq
import Derived.Test.YtmomdcnlhljhcaaDoorPp
import Derived.Test.YtmomdcnlhljhcaaDoorAw
import Derived.Deep.RegionHeld3
set_option linter.unusedSimpArgs false
set_option linter.unusedVariables false
namespace Go.Proofs.YtmomdcnlhljhcaaDoor
open Go.RowKit Ieee

def X7 (n : Nat) (x : Sml) (p : Option Addr) (c : Nat) (w' : World) : Prop := w'.cell? ⟨n, 0, none⟩ = some (.int .u8 (x.ce : Int)) ∧ w'.cell? ⟨n, 1, none⟩ = some (.int .u8 (x.ar : Int)) ∧ w'.cell? ⟨n, 2, none⟩ = some (.int .u8 (x.mu : Int)) ∧ w'.cell? ⟨n, 3, none⟩ = some (.int .u8 (x.se : Int)) ∧ w'.cell? ⟨n, 4, none⟩ = some (.int .u8 (x.bu : Int)) ∧ w'.cell? ⟨n, 5, none⟩ = some (.int .i8 x.n) ∧ w'.cell? ⟨n, 6, none⟩ = some (.slice p x.th.length c)
theorem X7.of {W W' : World} {n : Nat} {x : Sml} {p : Option Addr} {c : Nat} (h : W.heap[n]? = some (xbox x p c)) (hb : Below (n + 1) W W') : X7 n x p c W' := by
  have h' : W'.heap[n]? = some (xbox x p c) := (hb.block n (by omega)).trans h
  have k : ∀ i, W'.cell? ⟨n, i, none⟩ = (#[Value.int .u8 (x.ce : Int), .int .u8 (x.ar : Int), .int .u8 (x.mu : Int), .int .u8 (x.se : Int), .int .u8 (x.bu : Int), .int .i8 x.n, .slice p x.th.length c])[i]? := fun i => by rw [cell_of_row W' _ i _ 33 (0, 0) h']
  exact ⟨k 0, k 1, k 2, k 3, k 4, k 5, k 6⟩
/-- What Light says. -/
def LiR (x : Sml) (w : World) (e : Ending) (w' : World) : Prop := ∃ b : Bool, e = .returned (.bool b) ∧ (b = true → x.th.length ≤ 6 ∧ ∀ l ∈ x.th, l.length ≤ 20) ∧ Below w.heap.size w w'
set_option maxRecDepth 100000 in
theorem light_any (x : Sml) (p : Option Addr) (c B : Nat) (hc : x.th.length ≤ c ∧ c ≤ maxLen) (w : World) (hth : ThV w B x.th p) (hB : B ≤ w.heap.size) : Calls Tryd.prog 13 #[smv x p c] w (LiR x w) := by
  obtain ⟨n, hn⟩ : ∃ n, w.heap.size = n := ⟨_, rfl⟩
  obtain ⟨T, hT⟩ : ∃ T, x.th.length = T := ⟨_, rfl⟩
  have HTH := Lib.hid hth
  have HT := Lib.hid hT
  have HN := Lib.hid hn
  have hBn : B ≤ n := by omega
  obtain ⟨W, hW⟩ : ∃ W, w.alloc (.cells #[.int .u8 (x.ce : Int), .int .u8 (x.ar : Int), .int .u8 (x.mu : Int), .int .u8 (x.se : Int), .int .u8 (x.bu : Int), .int .i8 x.n, .slice p T c] 33) = W := ⟨_, rfl⟩
  have HBW : Hid (Below n w W) := Lib.hid (by rw [← hW, ← hn]; exact below_alloc _ _)
  have x6 : W.cell? ⟨n, 6, none⟩ = some (.slice p T c) := by rw [← hW, ← hn, cell_of_row _ _ 6 _ 33 (0, 0) (heap_alloc_new w _)]; rfl
  unfold smv
  rw [hT] at hc ⊢
  have hct : T ≤ 9223372036854775807 := by have := hc.1; have := hc.2; unfold maxLen at this; omega
  clear hth hB hT
  by_cases h6 : T ≤ 6
  · have h6i : ¬ (6 : Int) < (T : Int) := by omega
    go_enter Tryd.func13, Tryd.ntmps13
    go_wp2
    clear hW hn
    go_loopw [12] (fun i wr => ∃ j : Nat, j ≤ T ∧ i = .int .i64 (j : Int) ∧ wr = W ∧ ∀ k l, k < j → x.th[k]? = some l → l.length ≤ 20) (fun i _ => T - (intOf i).toNat)
    case atStart => exact ⟨0, Nat.zero_le _, rfl, rfl, fun k l h => by omega⟩
    case round =>
      obtain ⟨j, hj, rfl, rfl, hall⟩ := hrel
      have HALL := Lib.hid hall
      clear hall
      by_cases hlt : j < T
      · obtain ⟨l, hl⟩ : ∃ l, x.th[j]? = some l := ⟨x.th[j]'(by rw [HT.out]; exact hlt), List.getElem?_eq_getElem _⟩
        have hne : x.th ≠ [] := by intro e; rw [e] at hl; cases hl
        obtain ⟨g, o, rfl, hgB, hcell⟩ := HTH.out hne
        obtain ⟨vl, hvc, hlsv⟩ := hcell j l hl
        obtain ⟨pl, cl, rfl, hcl, hcm, _⟩ := hlsv
        have hgn : g < n := by omega
        have y0 : wr.cell? ⟨g, o + j, none⟩ = some (.slice pl l.length cl) := (HBW.out.cell (p := ⟨g, o + j, none⟩) hgn).trans hvc
        obtain ⟨ln, hln⟩ : ∃ ln, l.length = ln := ⟨_, rfl⟩
        have HL := Lib.hid hl
        have HLN := Lib.hid hln
        rw [hln] at y0
        have hltc : (j : Int) < (c : Int) := by have := hc.1; omega
        clear hcell hvc hl hln hne
        by_cases h20 : ln ≤ 20
        · have h20i : ¬ (20 : Int) < (ln : Int) := by omega
          go_wp2
          go_roundw
          case rel =>
            refine ⟨j + 1, by omega, by go_num, by first | rfl | trivial, fun k t hk ht => ?_⟩
            by_cases hkj : k = j
            · subst hkj
              have := HL.out
              rw [this] at ht
              injection ht with ht
              subst ht
              rw [HLN.out]; exact h20
            · exact HALL.out k t (by omega) ht
          case measure => simp [intOf]; omega
        · have h20i : (20 : Int) < (ln : Int) := by omega
          go_wp2
          go_ret
          exact ⟨false, rfl, (fun h => by cases h), by rw [HN.out]; exact HBW.out⟩
      · obtain rfl : j = T := by omega
        go_wp2
        go_ret
        refine ⟨true, rfl, fun _ => ⟨by rw [HT.out]; exact h6, fun l hl => ?_⟩, by rw [HN.out]; exact HBW.out⟩
        obtain ⟨k, hk⟩ := List.getElem?_of_mem hl
        exact HALL.out k l (by have := (List.getElem?_eq_some_iff.1 hk).1; rw [HT.out] at this; exact this) hk
  · have h6i : (6 : Int) < (T : Int) := by omega
    go_enter Tryd.func13, Tryd.ntmps13
    go_wp2
    clear hW hn
    refine bodyPost_ret (v := .bool false) (by simp [results, Tryd.results13, go_sem]) rfl ?_
    exact ⟨false, rfl, (fun h => by cases h), by rw [HN.out]; exact HBW.out⟩
set_option maxRecDepth 100000 in
set_option maxHeartbeats 3200000 in
theorem prints_any (x : Sml) (p : Option Addr) (c : Nat) (h1 : x.ce < 256) (h2 : x.ar < 256) (h3 : x.mu < 256) (h4 : x.se < 256) (h5 : x.bu < 256) (h6 : -128 ≤ x.n ∧ x.n ≤ 127) (hc : x.th.length ≤ c ∧ c ≤ maxLen) (hok : ∀ l ∈ x.th, ∀ s ∈ l, S5ok s) (w : World) (hl : Lb w) (hth : ThV w w.heap.size x.th p) :
    Calls Tryd.prog 4 #[smv x p c] w fun e w' => e = .returned (.bool true) ∧ Below w.heap.size w w' := by
  obtain ⟨n, hn⟩ : ∃ n, w.heap.size = n := ⟨_, rfl⟩
  have HN := Lib.hid hn
  have HL := Lib.hid hl
  have h7 : 7 ≤ n := by have := hl.size; omega
  rw [hn] at hth
  obtain ⟨W, hW⟩ : ∃ W, w.alloc (.cells #[.int .u8 (x.ce : Int), .int .u8 (x.ar : Int), .int .u8 (x.mu : Int), .int .u8 (x.se : Int), .int .u8 (x.bu : Int), .int .i8 x.n, .slice p x.th.length c] 33) = W := ⟨_, rfl⟩
  have HBW : Hid (Below n w W) := Lib.hid (by rw [← hW, ← hn]; exact below_alloc _ _)
  have HBX : Hid (W.heap[n]? = some (xbox x p c)) := Lib.hid (by rw [← hW, ← hn]; exact heap_alloc_new w _)
  have HWS : Hid (n + 1 ≤ W.heap.size) := Lib.hid (by rw [← hW]; simp; omega)
  have HX7 : Hid (∀ w', Below W.heap.size W w' → X7 n x p c w') := Lib.hid (fun w' hb => X7.of HBX.out (hb.mono HWS.out))
  have HAW : Hid (∀ w', Below n w w' → Calls Tryd.prog 6 #[] w' fun e w2 => e = .returned (.bool true) ∧ Below w'.heap.size w' w2) := Lib.hid (fun w' hb => awake_any w' (HL.out.on hb h7))
  have HLI : Hid (∀ w', Below n w w' → Calls Tryd.prog 13 #[smv x p c] w' (LiR x w')) := Lib.hid (fun w' hb => light_any x p c n hc w' (hth.below hb) (by have := hb.size; omega))
  have HMK : Hid (Smok x → (∀ l ∈ x.th, l.length ≤ 20) → ∀ w', Below n w w' → Calls Tryd.prog 15 #[smv x p c] w' (MkP w' (aProg x))) := Lib.hid (fun hx h20 w' hb => make_any x p c n hx (fun l hl => ⟨h20 l hl, hok l hl⟩) hc w' (hth.below hb) (by have := hb.size; omega))
  have HSM : Hid (x.th.length ≤ 6 → Smok x) := Lib.hid (fun h => ⟨h1, h2, h3, h4, h5, h6, h⟩)
  unfold smv at HLI HMK
  unfold smv
  clear hl hth hok h1 h2 h3 h4 h5 h6 hc
  go_enter Tryd.func4, Tryd.ntmps4
  go_wp2_with (go_at_call 6; refine Hid.out ?_)
  refine Lib.hid ?_
  clear hW hn
  refine (HAW.out _ HBW.out).mono ?_
  rintro e w1 ⟨rfl, hb1⟩
  have HB1 : Hid (Below n w w1) := Lib.hid (HBW.out.trans (hb1.mono (by have := HWS.out; omega)))
  have HB1W := Lib.hid hb1
  obtain ⟨c0, c1, c2, c3, c4, c5, c6⟩ := HX7.out w1 hb1
  clear hb1
  go_wp2_with (go_at_call 13; refine Hid.out ?_)
  refine Lib.hid ?_
  refine (HLI.out _ HB1.out).mono ?_
  rintro e w2 ⟨b, rfl, hb, hb2⟩
  have HB2 : Hid (Below n w w2) := Lib.hid (HB1.out.trans (hb2.mono (by have := HB1.out.size; have := HN.out; omega)))
  have HB2W : Hid (Below W.heap.size W w2) := Lib.hid (HB1W.out.trans (hb2.mono HB1W.out.size))
  obtain ⟨d0, d1, d2, d3, d4, d5, d6⟩ := HX7.out w2 HB2W.out
  clear hb2 c0 c1 c2 c3 c4 c5 c6
  cases b with
  | false =>
    go_wp2
    refine bodyPost_ret (v := .bool true) (by simp [results, Tryd.results4, go_sem]) rfl ⟨rfl, by rw [HN.out]; exact HB2.out⟩
  | true =>
    obtain ⟨t6, t20⟩ := hb rfl
    have hx := HSM.out t6
    obtain ⟨hlen, hl0, hl15⟩ := aProg_len x hx t20
    have HR := Lib.hid (aProg_right x hx)
    have HM2 := Lib.hid (HMK.out hx t20)
    obtain ⟨T, hT⟩ : ∃ T, (⟨(dcsT (aProg x)).toArray⟩ : ByteArray) = T := ⟨_, rfl⟩
    obtain ⟨L, hL⟩ : ∃ L, (aProg x).length = L := ⟨_, rfl⟩
    have HPR : Hid (∀ w' g c, Below n w w' → g < w'.heap.size → DcsAt w' (fun g => g < w'.heap.size) (aProg x) g → Calls Tryd.prog 14 #[.agg #[.slice (some ⟨g, 0, none⟩) L c]] w' fun e w2 => e = .returned (.string T) ∧ Below w'.heap.size w' w2) := Lib.hid (fun w' g c hb hg hv => by rw [← hL, ← hT]; exact print_any (aProg x) g c w' (HL.out.on hb h7) HR.out hg hl0 hv hlen)
    have HTX : Hid (∀ w' g c, Below n w w' → g < w'.heap.size → DcsAt w' (fun g => g < w'.heap.size) (aProg x) g → Calls Tryd.prog 16 #[.agg #[.slice (some ⟨g, 0, none⟩) L c]] w' fun e w2 => e = .returned (.string T) ∧ Below w'.heap.size w' w2) := Lib.hid (fun w' g c hb hg hv => by rw [← hL, ← hT]; exact ptext_any (aProg x) g c w' (HL.out.on hb h7) HR.out hg hl0 hv hlen)
    unfold MkP at HM2
    rw [hL] at HM2
    clear hb t6 t20 hx hlen hl0 hT hL HMK HSM HLI HAW
    have hbA : Below n w w2.drew := ⟨HB2.out.os, HB2.out.tape, HB2.out.output, HB2.out.size, HB2.out.block⟩
    have hbW : Below W.heap.size W w2.drew := ⟨HB2W.out.os, HB2W.out.tape, HB2W.out.output, HB2W.out.size, HB2W.out.block⟩
    have hs7 : X7 n x p c w2.drew := HX7.out _ hbW
    unfold X7 at hs7
    have HX8 := HX7
    unfold X7 at HX8
    go_wp2
    go_region_held3 (fun w' => w'.cell? ⟨n, 0, none⟩ = some (.int .u8 (x.ce : Int)) ∧ w'.cell? ⟨n, 1, none⟩ = some (.int .u8 (x.ar : Int)) ∧ w'.cell? ⟨n, 2, none⟩ = some (.int .u8 (x.mu : Int)) ∧ w'.cell? ⟨n, 3, none⟩ = some (.int .u8 (x.se : Int)) ∧ w'.cell? ⟨n, 4, none⟩ = some (.int .u8 (x.bu : Int)) ∧ w'.cell? ⟨n, 5, none⟩ = some (.int .i8 x.n) ∧ w'.cell? ⟨n, 6, none⟩ = some (.slice p x.th.length c)) (first | exact hs7 | assumption)
      (first
        | (go_at_call 15; refine (HM2.out _ hbA).mono ?_; rintro e w3 ⟨g, cx, rfl, hg0, hg1, hdv, hb3⟩; have hbA3 : Below n w w3 := hbA.trans (hb3.mono (by have := hbA.size; have := HN.out; omega)); have hbW3 : Below W.heap.size W w3 := hbW.trans (hb3.mono hbW.size); have hs7 := HX8.out _ hbW3)
        | (go_at_call 14; refine (HPR.out _ _ _ hbA3 hg1 (hdv.on (fun _ _ _ => rfl) (fun g hg => hg.2) ⟨hg0, hg1⟩)).mono ?_; rintro e w4 ⟨rfl, hb4⟩; have hbA4 : Below n w w4 := hbA3.trans (hb4.mono (by have := hbA3.size; have := HN.out; omega)); have hbW4 : Below W.heap.size W w4 := hbW3.trans (hb4.mono hbW3.size); have hs7 := HX8.out _ hbW4)
        | (go_at_call 15; refine (HM2.out _ hbA4).mono ?_; rintro e w5 ⟨g, cx, rfl, hg0, hg1, hdv, hb5⟩; have hbA5 : Below n w w5 := hbA4.trans (hb5.mono (by have := hbA4.size; have := HN.out; omega)); have hbW5 : Below W.heap.size W w5 := hbW4.trans (hb5.mono hbW4.size); have hs7 := HX8.out _ hbW5)
        | (go_at_call 16; refine (HTX.out _ _ _ hbA5 hg1 (hdv.on (fun _ _ _ => rfl) (fun g hg => hg.2) ⟨hg0, hg1⟩)).mono ?_; rintro e w6 ⟨rfl, hb6⟩; have hbA6 : Below n w w6 := hbA5.trans (hb6.mono (by have := hbA5.size; have := HN.out; omega)); have hbW6 : Below W.heap.size W w6 := hbW5.trans (hb6.mono hbW5.size); have hs7 := HX8.out _ hbW6))
    all_goals go_wp2
    all_goals refine bodyPost_ret (v := .bool true) (by simp [results, Tryd.results4, go_sem]) rfl ⟨rfl, by rw [HN.out]; exact hbA6⟩
end Go.Proofs.YtmomdcnlhljhcaaDoor
