/- The law's own text of a declaration's number, of a program. -/
import Derived.Test.YtmomdcnlhljhcaaDoorRs
set_option linter.unusedSimpArgs false
set_option linter.unusedVariables false
namespace Go.Proofs.YtmomdcnlhljhcaaDoor
open Go.RowKit Ieee

theorem itoa_small {n : Int} (h : Sm n) : (Lib.itoa n).length ≤ 21 := itoa_len h
theorem dn_len {r i : Int} (hr : Sm r) (hi : Sm i) : (dnT r i).length ≤ 44 := by
  have h1 := itoa_small hr
  have h2 := itoa_small hi
  unfold dnT
  split
  · omega
  · split
    · simp; omega
    · split <;> simp <;> omega

set_option maxRecDepth 100000 in
set_option maxHeartbeats 3200000 in
theorem number_any {r i : Int} (hr : Sm r) (hi : Sm i) (w : World) (ht : Tb w) :
    Calls Tryd.prog 28 #[.complex .f64 (fl false r) (fl false i)] w fun e w' => e = .returned (.string ⟨(dnT r i).toArray⟩) ∧ Below w.heap.size w w' := by
  have l1 := itoa_len hr
  have l2 := itoa_len hi
  have hci := fun w => run_convert_float_int (P := Tryd.prog) w 62 3 .f64 .i64 (fl false i) i (by kernel_rfl) Tryd.underlying3 (int_fl false hi)
  have hcr := fun w => run_convert_float_int (P := Tryd.prog) w 62 3 .f64 .i64 (fl false r) r (by kernel_rfl) Tryd.underlying3 (int_fl false hr)
  have bi : -9223372036854775808 ≤ i ∧ i ≤ 9223372036854775807 := by unfold Sm at hi; omega
  have br : -9223372036854775808 ≤ r ∧ r ≤ 9223372036854775807 := by unfold Sm at hr; omega
  have hIt := fun (w : World) (ht : Tb w) => Tryd.strconv_Itoa i bi.1 bi.2 w ht
  have hRt := fun (w : World) (ht : Tb w) => Tryd.strconv_Itoa r br.1 br.2 w ht
  have HIT := Lib.hid hIt
  have HRT := Lib.hid hRt
  have HT := Lib.hid ht
  clear bi br hIt hRt ht
  unfold dnT
  have c1 := cat_big (Lib.itoa i) [105] (by omega) (by simp)
  by_cases h1 : i = 0
  · rw [if_pos h1]
    subst h1
    generalize fl false r = F at *
    generalize fl false 0 = G at *
    clear hr hi c1
    go_enter Tryd.func28, Tryd.ntmps28
    go_wp2_with fail
    refine (HRT.out _ HT.out).mono ?_
    rintro e w1 ⟨rfl, k, os, rfl⟩
    go_wp2
    go_ret
    exact ⟨rfl, Lib.below_grow _ _ (Nat.le_refl _) _ _⟩
  · rw [if_neg h1]
    have h1' : (i == 0) = false := by simpa using h1
    by_cases h2 : r = 0
    · rw [if_pos h2]
      subst h2
      generalize fl false i = F at *
      generalize fl false 0 = G at *
      clear hr hi h1
      go_enter Tryd.func28, Tryd.ntmps28
      go_wp2_with fail
      refine (HIT.out _ HT.out).mono ?_
      rintro e w1 ⟨rfl, k, os, rfl⟩
      go_wp2
      go_ret
      exact ⟨rfl, Lib.below_grow _ _ (Nat.le_refl _) _ _⟩
    · rw [if_neg h2]
      have h2' : (r == 0) = false := by simpa using h2
      by_cases h3 : 0 < i
      · rw [if_pos h3]
        have k1 := cat_big (Lib.itoa r) [43] (by omega) (by simp)
        have k2 := cat_big (Lib.itoa r ++ [43]) (Lib.itoa i) (by simp; omega) (by omega)
        have k3 := cat_big (Lib.itoa r ++ [43] ++ Lib.itoa i) [105] (by simp; omega) (by simp)
        have hE : Lib.itoa r ++ ([43] ++ (Lib.itoa i ++ [105])) = Lib.itoa r ++ [43] ++ Lib.itoa i ++ [105] := by simp
        rw [hE]
        obtain ⟨T1, e1⟩ : ∃ T1, Lib.itoa r ++ [43] = T1 := ⟨_, rfl⟩
        rw [e1] at k1 k2 k3 ⊢
        obtain ⟨T2, e2⟩ : ∃ T2, T1 ++ Lib.itoa i = T2 := ⟨_, rfl⟩
        rw [e2] at k2 k3 ⊢
        obtain ⟨T3, e3⟩ : ∃ T3, T2 ++ [105] = T3 := ⟨_, rfl⟩
        rw [e3] at k3 ⊢
        generalize fl false i = F at *
        generalize fl false r = G at *
        clear hr hi h1 h2 hE e1 e2 e3 c1
        go_enter Tryd.func28, Tryd.ntmps28
        go_wp2_with fail
        refine (HRT.out _ HT.out).mono ?_
        rintro e w1 ⟨rfl, hx⟩
        have hb : Below w.heap.size w w1 := by obtain ⟨k, os, rfl⟩ := hx; exact Lib.below_grow _ _ (Nat.le_refl _) _ _
        have HB := Lib.hid hb
        clear hb hx
        go_wp2_with fail
        refine (HIT.out _ (HT.out.on HB.out)).mono ?_
        rintro e w2 ⟨rfl, hx⟩
        have hb : Below w1.heap.size w1 w2 := by obtain ⟨k, os, rfl⟩ := hx; exact Lib.below_grow _ _ (Nat.le_refl _) _ _
        have HB2 := Lib.hid (below_trans HB.out hb)
        clear hb hx
        go_wp2
        go_ret
        exact ⟨rfl, HB2.out⟩
      · rw [if_neg h3]
        have k2 := cat_big (Lib.itoa r) (Lib.itoa i) (by omega) (by omega)
        have k3 := cat_big (Lib.itoa r ++ Lib.itoa i) [105] (by simp; omega) (by simp)
        have hE : Lib.itoa r ++ (Lib.itoa i ++ [105]) = Lib.itoa r ++ Lib.itoa i ++ [105] := by simp
        rw [hE]
        obtain ⟨T2, e2⟩ : ∃ T2, Lib.itoa r ++ Lib.itoa i = T2 := ⟨_, rfl⟩
        rw [e2] at k2 k3 ⊢
        obtain ⟨T3, e3⟩ : ∃ T3, T2 ++ [105] = T3 := ⟨_, rfl⟩
        rw [e3] at k3 ⊢
        generalize fl false i = F at *
        generalize fl false r = G at *
        clear hr hi h1 h2 hE e2 e3 c1
        go_enter Tryd.func28, Tryd.ntmps28
        go_wp2_with fail
        refine (HRT.out _ HT.out).mono ?_
        rintro e w1 ⟨rfl, hx⟩
        have hb : Below w.heap.size w w1 := by obtain ⟨k, os, rfl⟩ := hx; exact Lib.below_grow _ _ (Nat.le_refl _) _ _
        have HB := Lib.hid hb
        clear hb hx
        go_wp2_with fail
        refine (HIT.out _ (HT.out.on HB.out)).mono ?_
        rintro e w2 ⟨rfl, hx⟩
        have hb : Below w1.heap.size w1 w2 := by obtain ⟨k, os, rfl⟩ := hx; exact Lib.below_grow _ _ (Nat.le_refl _) _ _
        have HB2 := Lib.hid (below_trans HB.out hb)
        clear hb hx
        go_wp2
        go_ret
        exact ⟨rfl, HB2.out⟩

/-- A declaration that is right. -/
structure Wdc (d : Dc) : Prop where
  so : d.so < 6
  re : -100 ≤ d.re ∧ d.re ≤ 100
  im : -100 ≤ d.im ∧ d.im ≤ 100
  body : Ws d.body
  bare : d.so ≠ 5 → d.body = .nil
  none : d.so = 2 ∨ d.so = 5 → d.re = 0 ∧ d.im = 0
  real : d.so ≠ 0 → d.im = 0
  name : (d.so = 0 ∧ ∃ c, d.nm = [120, c]) ∨ (d.so = 1 ∧ d.nm = [118]) ∨ (d.so = 2 ∧ ∃ c, d.nm = [109, c]) ∨ (d.so = 3 ∧ ∃ c, d.nm = [115, c]) ∨ (d.so = 4 ∧ d.nm = []) ∨ (d.so = 5 ∧ ∃ c, d.nm = [116, c])
theorem Wdc.nml {d : Dc} (h : Wdc d) : d.nm.length ≤ 2 := by
  rcases h.name with ⟨_, c, h⟩ | ⟨_, h⟩ | ⟨_, c, h⟩ | ⟨_, c, h⟩ | ⟨_, h⟩ | ⟨_, c, h⟩ <;> rw [h] <;> simp
theorem Wdc.sm {d : Dc} (h : Wdc d) : Sm d.re ∧ Sm d.im := by
  have := h.re; have := h.im; unfold Sm; omega
theorem dcsT_app (a b : List Dc) : dcsT (a ++ b) = dcsT a ++ dcsT b := by
  induction a with
  | nil => rfl
  | cons d l ih => simp [dcsT, ih]
theorem dcT_pos (d : Dc) : 1 ≤ (dcT d).length := by unfold dcT; split <;> (try split) <;> (try split) <;> simp <;> omega
theorem dcsT_len (l : List Dc) : l.length ≤ (dcsT l).length := by
  induction l with
  | nil => exact Nat.le_refl _
  | cons d l ih => have := dcT_pos d; simp [dcsT]; omega

theorem held2 {w1 w' w'' : World} {a0 a1 : Addr} {v0 v1 : Value} (h : Below w1.heap.size w1 w' ∧ w'.cell? a0 = some v0 ∧ w'.cell? a1 = some v1) (k : Below w'.heap.size w' w'') :
    Below w1.heap.size w1 w'' ∧ w''.cell? a0 = some v0 ∧ w''.cell? a1 = some v1 := ⟨below_trans h.1 k, cell_on h.2.1 k, cell_on h.2.2 k⟩
/-- Declarations in a row, whatever their At. -/
def DcsW (w : World) (S : Nat → Prop) (l : List Dc) (g : Nat) : Prop :=
  ∀ i d, l[i]? = some d → ∃ p c at_, Cd w g (i * 5) d p c at_ ∧ StsV w S d.body p c
theorem DcsAt.w {w : World} {S : Nat → Prop} {l : List Dc} {g : Nat} (h : DcsAt w S l g) : DcsW w S l g := fun i d hd => by
  obtain ⟨p, c, a, _, _, hc, hv⟩ := h i d hd
  exact ⟨p, c, a, hc, hv⟩
theorem DcsW.on {S S' : Nat → Prop} {w w' : World} (hs : Same S w w') (hS : ∀ g, S g → S' g) {l : List Dc} {g : Nat} (hg : S g) (h : DcsW w S l g) : DcsW w' S' l g := by
  intro i d hd
  obtain ⟨p, c, a, ⟨h0, h1, h2, h3, h4⟩, hv⟩ := h i d hd
  exact ⟨p, c, a, ⟨(hs g _ hg).trans h0, (hs g _ hg).trans h1, (hs g _ hg).trans h2, (hs g _ hg).trans h3, (hs g _ hg).trans h4⟩, hv.on hs hS⟩
set_option maxRecDepth 100000 in
set_option maxHeartbeats 6400000 in
theorem ptext_w (l : List Dc) (g c : Nat) (w : World) (hl : Lb w) (hw : ∀ d ∈ l, Wdc d) (hg : g < w.heap.size) (h0 : 0 < l.length) (hv : DcsW w (fun g => g < w.heap.size) l g) (hlen : (dcsT l).length ≤ 1000000) :
    Calls Tryd.prog 16 #[.agg #[.slice (some ⟨g, 0, none⟩) l.length c]] w fun en w' => en = .returned (.string ⟨(dcsT l).toArray⟩) ∧ Below w.heap.size w w' := by
  have hst := store_cx
  have HL := Lib.hid hl
  have HW := Lib.hid hw
  have HV := Lib.hid hv
  have HLEN := Lib.hid hlen
  obtain ⟨ln, hln⟩ : ∃ ln, l.length = ln := ⟨_, rfl⟩
  have HLN := Lib.hid hln
  have hlm : ln ≤ 1000000 := by have := dcsT_len l; omega
  rw [hln] at h0 ⊢
  clear hl hw hv hlen hln
  go_enter Tryd.func16, Tryd.ntmps16
  go_wp2
  go_loopw [3, 9] (fun s i wr => ∃ (j : Nat) (TP : List UInt8), j ≤ ln ∧ i = .int .i64 (j : Int) ∧ s = .string ⟨TP.toArray⟩ ∧ Below w.heap.size w wr ∧ TP = dcsT (l.take j)) (fun _ i _ => ln - (intOf i).toNat)
  case atStart => exact ⟨0, [], Nat.zero_le _, rfl, rfl, below_alloc _ _, rfl⟩
  case round =>
    obtain ⟨j, TP, hj, rfl, rfl, hbr, htp⟩ := hrel
    have HBR := Lib.hid hbr
    have HTP := Lib.hid htp
    clear hbr htp
    by_cases hlt : j < ln
    · obtain ⟨d, hd⟩ : ∃ d, l[j]? = some d := ⟨l[j]'(by rw [HLN.out]; exact hlt), List.getElem?_eq_getElem _⟩
      have hwd := HW.out d (List.mem_of_getElem? hd)
      obtain ⟨p, c', at_, hcd, hsv⟩ := HV.out j d hd
      have hS : Same (fun g => g < w.heap.size) w wr := Same.below HBR.out (fun g h => h)
      have htk : dcsT (l.take (j + 1)) = dcsT (l.take j) ++ dcT d := by rw [List.take_add_one, hd, dcsT_app]; simp [dcsT]
      have HTK := Lib.hid htk
      have htot : (dcsT l).length = (dcsT (l.take (j + 1))).length + (dcsT (l.drop (j + 1))).length := by rw [← List.length_append, ← dcsT_app, List.take_append_drop]
      have hlen := HLEN.out
      rw [htk, List.length_append] at htot
      have hdl : (dcT d).length ≤ 1000000 := by omega
      have htl : TP.length ≤ 1000000 := by rw [HTP.out]; omega
      obtain ⟨so, nm, re, im, bd⟩ := d
      obtain ⟨c0, c1, c2, c3, c4⟩ := hcd
      have c0 := (hS g _ hg).trans c0
      have c1 := (hS g _ hg).trans c1
      have c2 := (hS g _ hg).trans c2
      have c3 := (hS g _ hg).trans c3
      have c4 := (hS g _ hg).trans c4
      simp only at c0 c1 c2 c3 c4
      have hso := hwd.so
      have hnm := hwd.nml
      have hsm := hwd.sm
      simp only at hso hnm hsm
      have hdn := dn_len hsm.1 hsm.2
      have hgw : g < wr.heap.size := Nat.lt_of_lt_of_le hg HBR.out.size
      obtain ⟨DN, hDN⟩ : ∃ DN, dnT re im = DN := ⟨_, rfl⟩
      rw [hDN] at hdn
      obtain ⟨BK, hBK⟩ : ∃ BK, blkT bd = BK := ⟨_, rfl⟩
      have hbk : so = 5 → BK.length ≤ 1000000 := by
        intro h; subst h; rw [← hBK]
        simp only [dcT, ↓reduceIte, List.length_append] at hdl; omega
      obtain ⟨K, hK⟩ : ∃ K, wr.heap.size = K := ⟨_, rfl⟩
      obtain ⟨W, hW⟩ : ∃ W, wr.alloc (.cells #[.int .i64 (so : Int), .string ⟨nm.toArray⟩, .complex .f64 (fl false re) (fl false im), .slice p bd.len c', .int .i64 at_] 43) = W := ⟨_, rfl⟩
      have HBA : Hid (Below wr.heap.size wr W) := Lib.hid (by rw [← hW]; exact below_alloc _ _)
      have HCN : Hid (∀ w', Below W.heap.size W w' → Calls Tryd.prog 28 #[.complex .f64 (fl false re) (fl false im)] w' fun en w'' => en = .returned (.string ⟨DN.toArray⟩) ∧ Below w'.heap.size w' w'') :=
        Lib.hid (fun w' h' => hDN ▸ number_any hsm.1 hsm.2 w' ((HL.out.new (below_trans HBR.out HBA.out)).new h').tb)
      have HCB : Hid (so = 5 → ∀ w', Below W.heap.size W w' → Calls Tryd.prog 29 #[.slice p bd.len c'] w' fun en w'' => en = .returned (.string ⟨BK.toArray⟩) ∧ Below w'.heap.size w' w'') :=
        Lib.hid (fun h w' h' => hBK ▸ rb_any bd hwd.body p c' w' ((HL.out.new (below_trans HBR.out HBA.out)).new h') (hsv.on (Same.below (below_trans (below_trans HBR.out HBA.out) h') (fun g h => h)) (fun g h => Nat.lt_of_lt_of_le h (below_trans (below_trans HBR.out HBA.out) h').size)) (by have := hbk h; rw [← hBK] at this; exact this))
      generalize fl false re = F at *
      generalize fl false im = G at *
      generalize bd.len = bn at *
      have HWW := Lib.hid hW
      have HKK := Lib.hid hK
      clear hd hsv hS htk htot hlen hwd hsm hdl hW hK
      obtain rfl | rfl | rfl | rfl | rfl | rfl : so = 0 ∨ so = 1 ∨ so = 2 ∨ so = 3 ∨ so = 4 ∨ so = 5 := by omega
      · have HWW : Hid (wr.alloc (.cells #[.int .i64 0, .string ⟨nm.toArray⟩, .complex .f64 F G, .slice p bn c', .int .i64 at_] 43) = W) := Lib.hid HWW.out
        have k1 := cat_big [99, 101, 108, 108, 32] nm (by first | omega | (simp only [List.length_append, List.length_cons, List.length_nil]; omega)) (by first | omega | (simp only [List.length_append, List.length_cons, List.length_nil]; omega))
        have k2 := cat_big ([99, 101, 108, 108, 32] ++ nm) [32] (by first | omega | (simp only [List.length_append, List.length_cons, List.length_nil]; omega)) (by first | omega | (simp only [List.length_append, List.length_cons, List.length_nil]; omega))
        have k3 := cat_big ([99, 101, 108, 108, 32] ++ nm ++ [32]) DN (by first | omega | (simp only [List.length_append, List.length_cons, List.length_nil]; omega)) (by first | omega | (simp only [List.length_append, List.length_cons, List.length_nil]; omega))
        have k4 := cat_big ([99, 101, 108, 108, 32] ++ nm ++ [32] ++ DN) [59, 10] (by first | omega | (simp only [List.length_append, List.length_cons, List.length_nil]; omega)) (by first | omega | (simp only [List.length_append, List.length_cons, List.length_nil]; omega))
        have kf := cat_big TP ([99, 101, 108, 108, 32] ++ nm ++ [32] ++ DN ++ [59, 10]) (by omega) (by simp only [List.length_append, List.length_cons, List.length_nil]; omega)
        obtain ⟨T1, h1⟩ : ∃ T1 : List UInt8, [99, 101, 108, 108, 32] ++ nm = T1 := ⟨_, rfl⟩
        rw [h1] at k1 k2 k3 k4 kf
        obtain ⟨T2, h2⟩ : ∃ T2 : List UInt8, T1 ++ [32] = T2 := ⟨_, rfl⟩
        rw [h2] at k2 k3 k4 kf
        obtain ⟨T3, h3⟩ : ∃ T3 : List UInt8, T2 ++ DN = T3 := ⟨_, rfl⟩
        rw [h3] at k3 k4 kf
        obtain ⟨T4, h4⟩ : ∃ T4 : List UInt8, T3 ++ [59, 10] = T4 := ⟨_, rfl⟩
        rw [h4] at k4 kf
        have HDT : Hid (dcT ⟨0, nm, re, im, bd⟩ = T4) := Lib.hid (by rw [show dcT ⟨0, nm, re, im, bd⟩ = swd 0 ++ [32] ++ nm ++ [32] ++ dnT re im ++ [59, 10] from rfl, hDN]; exact (show [99, 101, 108, 108, 32] ++ nm ++ [32] ++ DN ++ [59, 10] = T4 by rw [h1, h2, h3, h4]))
        clear h1 h2 h3 h4
        go_wp2_with fail
        have x1 : W.cell? ⟨K, 1, none⟩ = some (.string ⟨nm.toArray⟩) := by rw [← HWW.out, ← HKK.out]; simp [go_sem]
        have x2 : W.cell? ⟨K, 2, none⟩ = some (.complex .f64 F G) := by rw [← HWW.out, ← HKK.out]; simp [go_sem]
        rw [HWW.out, HKK.out]
        clear c0 c1 c2 c3 c4
        go_region_held3 (fun w' => Below W.heap.size W w' ∧ w'.cell? ⟨K, 1, none⟩ = some (.string ⟨nm.toArray⟩) ∧ w'.cell? ⟨K, 2, none⟩ = some (.complex .f64 F G))
          (first | exact ⟨below_drew W, x1, x2⟩ | assumption | exact held2 (by assumption) (by assumption))
          (first | (go_at_call 28; ((with_reducible refine (HCN.out _ (And.left (by assumption))).mono ?_); rintro e w' ⟨rfl, kb⟩)))
        rename_i hH
        have HH := Lib.hid hH.1
        clear hH
        go_wp2
        go_roundw
        case rel => exact ⟨j + 1, _, by omega, by go_num, rfl, below_trans HBR.out (below_trans HBA.out HH.out), by rw [HTK.out, HTP.out, HDT.out]⟩
        case measure => simp [intOf]; omega
      · have HWW : Hid (wr.alloc (.cells #[.int .i64 1, .string ⟨nm.toArray⟩, .complex .f64 F G, .slice p bn c', .int .i64 at_] 43) = W) := Lib.hid HWW.out
        have k1 := cat_big [97, 114, 114, 97, 121, 32] nm (by first | omega | (simp only [List.length_append, List.length_cons, List.length_nil]; omega)) (by first | omega | (simp only [List.length_append, List.length_cons, List.length_nil]; omega))
        have k2 := cat_big ([97, 114, 114, 97, 121, 32] ++ nm) [32] (by first | omega | (simp only [List.length_append, List.length_cons, List.length_nil]; omega)) (by first | omega | (simp only [List.length_append, List.length_cons, List.length_nil]; omega))
        have k3 := cat_big ([97, 114, 114, 97, 121, 32] ++ nm ++ [32]) DN (by first | omega | (simp only [List.length_append, List.length_cons, List.length_nil]; omega)) (by first | omega | (simp only [List.length_append, List.length_cons, List.length_nil]; omega))
        have k4 := cat_big ([97, 114, 114, 97, 121, 32] ++ nm ++ [32] ++ DN) [59, 10] (by first | omega | (simp only [List.length_append, List.length_cons, List.length_nil]; omega)) (by first | omega | (simp only [List.length_append, List.length_cons, List.length_nil]; omega))
        have kf := cat_big TP ([97, 114, 114, 97, 121, 32] ++ nm ++ [32] ++ DN ++ [59, 10]) (by omega) (by simp only [List.length_append, List.length_cons, List.length_nil]; omega)
        obtain ⟨T1, h1⟩ : ∃ T1 : List UInt8, [97, 114, 114, 97, 121, 32] ++ nm = T1 := ⟨_, rfl⟩
        rw [h1] at k1 k2 k3 k4 kf
        obtain ⟨T2, h2⟩ : ∃ T2 : List UInt8, T1 ++ [32] = T2 := ⟨_, rfl⟩
        rw [h2] at k2 k3 k4 kf
        obtain ⟨T3, h3⟩ : ∃ T3 : List UInt8, T2 ++ DN = T3 := ⟨_, rfl⟩
        rw [h3] at k3 k4 kf
        obtain ⟨T4, h4⟩ : ∃ T4 : List UInt8, T3 ++ [59, 10] = T4 := ⟨_, rfl⟩
        rw [h4] at k4 kf
        have HDT : Hid (dcT ⟨1, nm, re, im, bd⟩ = T4) := Lib.hid (by rw [show dcT ⟨1, nm, re, im, bd⟩ = swd 1 ++ [32] ++ nm ++ [32] ++ dnT re im ++ [59, 10] from rfl, hDN]; exact (show [97, 114, 114, 97, 121, 32] ++ nm ++ [32] ++ DN ++ [59, 10] = T4 by rw [h1, h2, h3, h4]))
        clear h1 h2 h3 h4
        go_wp2_with fail
        have x1 : W.cell? ⟨K, 1, none⟩ = some (.string ⟨nm.toArray⟩) := by rw [← HWW.out, ← HKK.out]; simp [go_sem]
        have x2 : W.cell? ⟨K, 2, none⟩ = some (.complex .f64 F G) := by rw [← HWW.out, ← HKK.out]; simp [go_sem]
        rw [HWW.out, HKK.out]
        clear c0 c1 c2 c3 c4
        go_region_held3 (fun w' => Below W.heap.size W w' ∧ w'.cell? ⟨K, 1, none⟩ = some (.string ⟨nm.toArray⟩) ∧ w'.cell? ⟨K, 2, none⟩ = some (.complex .f64 F G))
          (first | exact ⟨below_drew W, x1, x2⟩ | assumption | exact held2 (by assumption) (by assumption))
          (first | (go_at_call 28; ((with_reducible refine (HCN.out _ (And.left (by assumption))).mono ?_); rintro e w' ⟨rfl, kb⟩)))
        rename_i hH
        have HH := Lib.hid hH.1
        clear hH
        go_wp2
        go_roundw
        case rel => exact ⟨j + 1, _, by omega, by go_num, rfl, below_trans HBR.out (below_trans HBA.out HH.out), by rw [HTK.out, HTP.out, HDT.out]⟩
        case measure => simp [intOf]; omega
      · have HWW : Hid (wr.alloc (.cells #[.int .i64 2, .string ⟨nm.toArray⟩, .complex .f64 F G, .slice p bn c', .int .i64 at_] 43) = W) := Lib.hid HWW.out
        have k1 := cat_big [109, 117, 116, 101, 120, 32] nm (by first | omega | (simp only [List.length_append, List.length_cons, List.length_nil]; omega)) (by first | omega | (simp only [List.length_append, List.length_cons, List.length_nil]; omega))
        have k2 := cat_big ([109, 117, 116, 101, 120, 32] ++ nm) [59, 10] (by first | omega | (simp only [List.length_append, List.length_cons, List.length_nil]; omega)) (by first | omega | (simp only [List.length_append, List.length_cons, List.length_nil]; omega))
        have kf := cat_big TP ([109, 117, 116, 101, 120, 32] ++ nm ++ [59, 10]) (by omega) (by simp only [List.length_append, List.length_cons, List.length_nil]; omega)
        obtain ⟨T1, h1⟩ : ∃ T1 : List UInt8, [109, 117, 116, 101, 120, 32] ++ nm = T1 := ⟨_, rfl⟩
        rw [h1] at k1 k2 kf
        obtain ⟨T2, h2⟩ : ∃ T2 : List UInt8, T1 ++ [59, 10] = T2 := ⟨_, rfl⟩
        rw [h2] at k2 kf
        have HDT : Hid (dcT ⟨2, nm, re, im, bd⟩ = T2) := Lib.hid (by rw [show dcT ⟨2, nm, re, im, bd⟩ = swd 2 ++ [32] ++ nm ++ [59, 10] from rfl]; exact (show [109, 117, 116, 101, 120, 32] ++ nm ++ [59, 10] = T2 by rw [h1, h2]))
        clear h1 h2
        go_wp2
        go_roundw
        case rel => exact ⟨j + 1, _, by omega, by go_num, rfl, HWW.out ▸ below_trans HBR.out HBA.out, by rw [HTK.out, HTP.out, HDT.out]⟩
        case measure => simp [intOf]; omega
      · have HWW : Hid (wr.alloc (.cells #[.int .i64 3, .string ⟨nm.toArray⟩, .complex .f64 F G, .slice p bn c', .int .i64 at_] 43) = W) := Lib.hid HWW.out
        have k1 := cat_big [115, 101, 109, 32] nm (by first | omega | (simp only [List.length_append, List.length_cons, List.length_nil]; omega)) (by first | omega | (simp only [List.length_append, List.length_cons, List.length_nil]; omega))
        have k2 := cat_big ([115, 101, 109, 32] ++ nm) [32] (by first | omega | (simp only [List.length_append, List.length_cons, List.length_nil]; omega)) (by first | omega | (simp only [List.length_append, List.length_cons, List.length_nil]; omega))
        have k3 := cat_big ([115, 101, 109, 32] ++ nm ++ [32]) DN (by first | omega | (simp only [List.length_append, List.length_cons, List.length_nil]; omega)) (by first | omega | (simp only [List.length_append, List.length_cons, List.length_nil]; omega))
        have k4 := cat_big ([115, 101, 109, 32] ++ nm ++ [32] ++ DN) [59, 10] (by first | omega | (simp only [List.length_append, List.length_cons, List.length_nil]; omega)) (by first | omega | (simp only [List.length_append, List.length_cons, List.length_nil]; omega))
        have kf := cat_big TP ([115, 101, 109, 32] ++ nm ++ [32] ++ DN ++ [59, 10]) (by omega) (by simp only [List.length_append, List.length_cons, List.length_nil]; omega)
        obtain ⟨T1, h1⟩ : ∃ T1 : List UInt8, [115, 101, 109, 32] ++ nm = T1 := ⟨_, rfl⟩
        rw [h1] at k1 k2 k3 k4 kf
        obtain ⟨T2, h2⟩ : ∃ T2 : List UInt8, T1 ++ [32] = T2 := ⟨_, rfl⟩
        rw [h2] at k2 k3 k4 kf
        obtain ⟨T3, h3⟩ : ∃ T3 : List UInt8, T2 ++ DN = T3 := ⟨_, rfl⟩
        rw [h3] at k3 k4 kf
        obtain ⟨T4, h4⟩ : ∃ T4 : List UInt8, T3 ++ [59, 10] = T4 := ⟨_, rfl⟩
        rw [h4] at k4 kf
        have HDT : Hid (dcT ⟨3, nm, re, im, bd⟩ = T4) := Lib.hid (by rw [show dcT ⟨3, nm, re, im, bd⟩ = swd 3 ++ [32] ++ nm ++ [32] ++ dnT re im ++ [59, 10] from rfl, hDN]; exact (show [115, 101, 109, 32] ++ nm ++ [32] ++ DN ++ [59, 10] = T4 by rw [h1, h2, h3, h4]))
        clear h1 h2 h3 h4
        go_wp2_with fail
        have x1 : W.cell? ⟨K, 1, none⟩ = some (.string ⟨nm.toArray⟩) := by rw [← HWW.out, ← HKK.out]; simp [go_sem]
        have x2 : W.cell? ⟨K, 2, none⟩ = some (.complex .f64 F G) := by rw [← HWW.out, ← HKK.out]; simp [go_sem]
        rw [HWW.out, HKK.out]
        clear c0 c1 c2 c3 c4
        go_region_held3 (fun w' => Below W.heap.size W w' ∧ w'.cell? ⟨K, 1, none⟩ = some (.string ⟨nm.toArray⟩) ∧ w'.cell? ⟨K, 2, none⟩ = some (.complex .f64 F G))
          (first | exact ⟨below_drew W, x1, x2⟩ | assumption | exact held2 (by assumption) (by assumption))
          (first | (go_at_call 28; ((with_reducible refine (HCN.out _ (And.left (by assumption))).mono ?_); rintro e w' ⟨rfl, kb⟩)))
        rename_i hH
        have HH := Lib.hid hH.1
        clear hH
        go_wp2
        go_roundw
        case rel => exact ⟨j + 1, _, by omega, by go_num, rfl, below_trans HBR.out (below_trans HBA.out HH.out), by rw [HTK.out, HTP.out, HDT.out]⟩
        case measure => simp [intOf]; omega
      · have HWW : Hid (wr.alloc (.cells #[.int .i64 4, .string ⟨nm.toArray⟩, .complex .f64 F G, .slice p bn c', .int .i64 at_] 43) = W) := Lib.hid HWW.out
        have k1 := cat_big [98, 117, 100, 103, 101, 116, 32] DN (by first | omega | (simp only [List.length_append, List.length_cons, List.length_nil]; omega)) (by first | omega | (simp only [List.length_append, List.length_cons, List.length_nil]; omega))
        have k2 := cat_big ([98, 117, 100, 103, 101, 116, 32] ++ DN) [59, 10] (by first | omega | (simp only [List.length_append, List.length_cons, List.length_nil]; omega)) (by first | omega | (simp only [List.length_append, List.length_cons, List.length_nil]; omega))
        have kf := cat_big TP ([98, 117, 100, 103, 101, 116, 32] ++ DN ++ [59, 10]) (by omega) (by simp only [List.length_append, List.length_cons, List.length_nil]; omega)
        obtain ⟨T1, h1⟩ : ∃ T1 : List UInt8, [98, 117, 100, 103, 101, 116, 32] ++ DN = T1 := ⟨_, rfl⟩
        rw [h1] at k1 k2 kf
        obtain ⟨T2, h2⟩ : ∃ T2 : List UInt8, T1 ++ [59, 10] = T2 := ⟨_, rfl⟩
        rw [h2] at k2 kf
        have HDT : Hid (dcT ⟨4, nm, re, im, bd⟩ = T2) := Lib.hid (by rw [show dcT ⟨4, nm, re, im, bd⟩ = swd 4 ++ [32] ++ dnT re im ++ [59, 10] from rfl, hDN]; exact (show [98, 117, 100, 103, 101, 116, 32] ++ DN ++ [59, 10] = T2 by rw [h1, h2]))
        clear h1 h2
        go_wp2_with fail
        rw [HWW.out]
        refine (HCN.out _ (Below.refl _ _)).mono ?_
        rintro en w4 ⟨rfl, hb4⟩
        have HH := Lib.hid hb4
        clear hb4
        go_wp2
        go_roundw
        case rel => exact ⟨j + 1, _, by omega, by go_num, rfl, below_trans HBR.out (below_trans HBA.out HH.out), by rw [HTK.out, HTP.out, HDT.out]⟩
        case measure => simp [intOf]; omega
      · have hbk5 := hbk rfl
        have HCB5 := Lib.hid (HCB.out rfl)
        have HWW : Hid (wr.alloc (.cells #[.int .i64 5, .string ⟨nm.toArray⟩, .complex .f64 F G, .slice p bn c', .int .i64 at_] 43) = W) := Lib.hid HWW.out
        have k1 := cat_big [116, 104, 114, 101, 97, 100, 32] nm (by first | omega | (simp only [List.length_append, List.length_cons, List.length_nil]; omega)) (by first | omega | (simp only [List.length_append, List.length_cons, List.length_nil]; omega))
        have k2 := cat_big ([116, 104, 114, 101, 97, 100, 32] ++ nm) BK (by first | omega | (simp only [List.length_append, List.length_cons, List.length_nil]; omega)) (by first | omega | (simp only [List.length_append, List.length_cons, List.length_nil]; omega))
        have k3 := cat_big ([116, 104, 114, 101, 97, 100, 32] ++ nm ++ BK) [10] (by first | omega | (simp only [List.length_append, List.length_cons, List.length_nil]; omega)) (by first | omega | (simp only [List.length_append, List.length_cons, List.length_nil]; omega))
        have kf := cat_big TP ([116, 104, 114, 101, 97, 100, 32] ++ nm ++ BK ++ [10]) (by omega) (by simp only [List.length_append, List.length_cons, List.length_nil]; omega)
        obtain ⟨T1, h1⟩ : ∃ T1 : List UInt8, [116, 104, 114, 101, 97, 100, 32] ++ nm = T1 := ⟨_, rfl⟩
        rw [h1] at k1 k2 k3 kf
        obtain ⟨T2, h2⟩ : ∃ T2 : List UInt8, T1 ++ BK = T2 := ⟨_, rfl⟩
        rw [h2] at k2 k3 kf
        obtain ⟨T3, h3⟩ : ∃ T3 : List UInt8, T2 ++ [10] = T3 := ⟨_, rfl⟩
        rw [h3] at k3 kf
        have HDT : Hid (dcT ⟨5, nm, re, im, bd⟩ = T3) := Lib.hid (by rw [show dcT ⟨5, nm, re, im, bd⟩ = swd 5 ++ [32] ++ nm ++ blkT bd ++ [10] from rfl, hBK]; exact (show [116, 104, 114, 101, 97, 100, 32] ++ nm ++ BK ++ [10] = T3 by rw [h1, h2, h3]))
        clear h1 h2 h3
        go_wp2_with fail
        have x1 : W.cell? ⟨K, 1, none⟩ = some (.string ⟨nm.toArray⟩) := by rw [← HWW.out, ← HKK.out]; simp [go_sem]
        have x3 : W.cell? ⟨K, 3, none⟩ = some (.slice p bn c') := by rw [← HWW.out, ← HKK.out]; simp [go_sem]
        rw [HWW.out, HKK.out]
        clear c0 c1 c2 c3 c4
        go_region_held3 (fun w' => Below W.heap.size W w' ∧ w'.cell? ⟨K, 1, none⟩ = some (.string ⟨nm.toArray⟩) ∧ w'.cell? ⟨K, 3, none⟩ = some (.slice p bn c'))
          (first | exact ⟨below_drew W, x1, x3⟩ | assumption | exact held2 (by assumption) (by assumption))
          (first | (go_at_call 29; ((with_reducible refine (HCB5.out _ (And.left (by assumption))).mono ?_); rintro e w' ⟨rfl, kb⟩)))
        rename_i hH
        have HH := Lib.hid hH.1
        clear hH
        go_wp2
        go_roundw
        case rel => exact ⟨j + 1, _, by omega, by go_num, rfl, below_trans HBR.out (below_trans HBA.out HH.out), by rw [HTK.out, HTP.out, HDT.out]⟩
        case measure => simp [intOf]; omega
    · obtain rfl : j = ln := by omega
      have htp : TP = dcsT l := by rw [HTP.out, List.take_of_length_le (by rw [HLN.out]; omega)]
      have HTL := Lib.hid htp
      clear htp
      go_wp2
      go_ret
      exact ⟨by rw [← HTL.out]; rfl, HBR.out⟩
theorem ptext_any (l : List Dc) (g c : Nat) (w : World) (hl : Lb w) (hw : ∀ d ∈ l, Wdc d) (hg : g < w.heap.size) (h0 : 0 < l.length) (hv : DcsAt w (fun g => g < w.heap.size) l g) (hlen : (dcsT l).length ≤ 1000000) :
    Calls Tryd.prog 16 #[.agg #[.slice (some ⟨g, 0, none⟩) l.length c]] w fun en w' => en = .returned (.string ⟨(dcsT l).toArray⟩) ∧ Below w.heap.size w w' :=
  ptext_w l g c w hl hw hg h0 hv.w hlen
end Go.Proofs.YtmomdcnlhljhcaaDoor
