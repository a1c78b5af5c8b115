/- clock.Clocks: of each event, of each thread how many happen ahead of it, it, too. -/
import Derived.Test.YtdcabhlgaecbiaaGc
set_option linter.unusedSimpArgs false
set_option linter.unusedVariables false
namespace Go.Proofs.Ytdcabhlgaecbiaa
open Go.RowKit

/-- Rows of numbers, one by one: those below J are laid. -/
structure RsI (f : Nat → List Nat) (W : World) (base B A J : Nat) (us : List Value) : Prop where
  own : W.ownsRow base 35 1 (.slice (some ⟨B, 0, Option.none⟩) A A) A us
  rows : ∀ j u, j < J → us[j]? = some u → NsS W u (f j) ∧ ∀ q, u.ownBlock = some q → q ≠ B
  rest : ∀ j u, J ≤ j → us[j]? = some u → u = .slice Option.none 0 0
theorem RsI.kept {f : Nat → List Nat} {w w' : World} {base B A J : Nat} {us : List Value} (h : RsI f w base B A J us) (k : Below w.heap.size w w') : RsI f w' base B A J us :=
  ⟨own_kept h.own k, fun j u hj hu => ⟨(h.rows j u hj hu).1.kept k, (h.rows j u hj hu).2⟩, h.rest⟩
theorem RsI.set {f : Nat → List Nat} {w : World} {base B A J : Nat} {us : List Value} {u : Value} (h : RsI f w base B A J us) (hu : NsS w u (f J)) (hq : ∀ q, u.ownBlock = some q → q ≠ B) (hJ : J < A) :
    RsI f (w.setCell ⟨B, J, Option.none⟩ u) base B A (J + 1) (us.set J u) := by
  have hlen : us.length = A := by have := h.own.1; omega
  have hst := h.own.stored J u
  have hex : Exb B w (w.setCell ⟨B, J, Option.none⟩ u) := ⟨by simp [World.setCell], fun q _ hqb => heap_setCell_other _ _ _ _ hqb⟩
  refine ⟨hst.1, fun j v hj hv => ?_, fun j v hj hv => ?_⟩
  · by_cases hjJ : J = j
    · subst hjJ
      rw [List.getElem?_set_self (by omega)] at hv
      obtain rfl := Option.some.inj hv
      exact ⟨hu.ex hex hq, hq⟩
    · rw [List.getElem?_set_ne hjJ] at hv
      obtain ⟨h1, h2⟩ := h.rows j v (by omega) hv
      exact ⟨h1.ex hex h2, h2⟩
  · rw [List.getElem?_set_ne (by omega)] at hv
    exact h.rest j v (by omega) hv
theorem RsI.rws {f : Nat → List Nat} {w : World} {base B A : Nat} {us : List Value} (h : RsI f w base B A A us) : RwS w (.slice (some ⟨B, 0, Option.none⟩) A A) ((List.range A).map f) := by
  have hlen : us.length = A := by have := h.own.1; omega
  refine ⟨_, A, by rw [List.length_map, List.length_range], ?_⟩
  by_cases hA : A = 0
  · exact .inl (by rw [hA]; rfl)
  · refine .inr ⟨B, 0, rfl, (h.own.lt B rfl).2, fun i l hi => ?_⟩
    have hiA : i < A := by have := (List.getElem?_eq_some_iff.1 hi).1; simpa using this
    rw [List.getElem?_map, List.getElem?_range hiA] at hi
    obtain rfl := Option.some.inj hi
    obtain ⟨u, hu⟩ : ∃ u, us[i]? = some u := ⟨_, List.getElem?_eq_getElem (by omega)⟩
    exact ⟨u, by rw [Nat.zero_add, h.own.cellAt i (by omega)]; exact hu, (h.rows i u hiA hu).1⟩

set_option maxRecDepth 100000 in
set_option maxHeartbeats 16000000 in
theorem ckO : CkO := by
  intro x t v w hs hk ht1 ht2
  have HS := Lib.hid hs
  have HK := Lib.hid hk
  obtain ⟨p, cap, rfl, hcap, hcm, h4⟩ := hs
  obtain ⟨A, hA⟩ : ∃ A, x.length = A := ⟨_, rfl⟩
  rw [hA] at HS hcap ⊢
  have hA60 : A ≤ 60 := by rw [← hA]; exact hk.1
  have HA := Lib.hid hA
  have H4 := Lib.hid h4
  clear hA h4 hk
  obtain ⟨i0, hi, hz0, hz1, hz2⟩ := sl_info
  obtain ⟨T, hT⟩ : ∃ T, t.toNat = T := ⟨_, rfl⟩
  rw [hT]
  have HN := Lib.hid (newO x _ w HS.out HK.out)
  by_cases hA0 : A = 0
  · subst hA0
    have hA1 : ¬ (0 : Int) < ((0 : Nat) : Int) := by omega
    have HT := Lib.hid hT
    clear hT
    go_enter Try.func14, Try.ntmps14
    go_wp2_with (first | (go_at_call 10; refine Hid.out ?_))
    refine Lib.hid ?_
    refine HN.out.mono ?_
    rintro e w2 ⟨v', rfl, ⟨po, mo, co, rfl, ho⟩, hb⟩
    have hWB : Below w.heap.size w (w2.alloc (Obj.cells #[Value.slice po mo co] 29)) := hb.alloc hb.size _
    have HWB := Lib.hid hWB
    clear hWB hb ho
    go_wp2_with (at_make; refine wpList_make_full _ rfl (.tmp 21) (.tmp 21) 31 rfl (w2.heap.size + 1) 35 i0 _ 1 Try.underlying31 hi hz0 hz1 .i64 .i64 ((0 : Nat) : Int) ((0 : Nat) : Int) 0 rfl rfl rfl rfl (by rw [hz2]; omega) (by unfold maxLen; omega) (by simp) ?_)
    intro w1 hown hgr
    have HB1 : Hid (Below w.heap.size w w1) := Lib.hid (HWB.out.trans (((Below.refl _ (w2.alloc (Obj.cells #[Value.slice po mo co] 29))).grown hgr (Nat.le_refl _) (fun k hk => by cases hk)).mono HWB.out.size))
    clear hown hgr hi hz0 hz1 hz2
    go_wp2
    go_loopw [25] (fun s25 wr => s25 = .int .i64 0 ∧ wr = w1) (fun s _ => 0)
    case atStart => exact ⟨rfl, rfl⟩
    case round =>
      obtain ⟨rfl, rfl⟩ := hrel
      go_wp2
      go_ret
      exact ⟨_, rfl, ⟨_, _, rfl, .inl rfl⟩, HB1.out⟩
  have hA1 : (0 : Int) < (A : Int) := by omega
  have hA2 : ¬ (A : Int) = 0 := by omega
  obtain ⟨Q, hQ⟩ : ∃ Q, (2147483647 : Int).tdiv (A : Int) = Q := ⟨_, rfl⟩
  have hQt : ¬ Q < t := by
    rw [← hQ, Int.tdiv_eq_ediv_of_nonneg (by omega)]
    have h1 : (127 : Int) ≤ 2147483647 / (A : Int) := by
      rw [Int.le_ediv_iff_mul_le (by omega)]
      have : (A : Int) ≤ 60 := by omega
      omega
    omega
  have hQ0 : 0 ≤ Q := by rw [← hQ, Int.tdiv_eq_ediv_of_nonneg (by omega)]; exact Int.ediv_nonneg (by omega) (by omega)
  have hQ1 : Q ≤ 2147483647 := by rw [← hQ, Int.tdiv_eq_ediv_of_nonneg (by omega)]; exact Int.ediv_le_self _ (by omega)
  have hwQ : wrap64 Q = Q := by unfold wrap64; omega
  have HT := Lib.hid hT
  clear hT
  go_enter Try.func14, Try.ntmps14
  go_wp2_with (first | (go_at_call 10; refine Hid.out ?_))
  refine Lib.hid ?_
  refine HN.out.mono ?_
  rintro e w2 ⟨v', rfl, ⟨po, mo, co, rfl, ho⟩, hb⟩
  have hmo : mo = A := by
    obtain ⟨_, _, h1, _⟩ := id ho
    simp only [Value.slice.injEq] at h1
    rw [h1.2.1, HA.out]
  subst hmo
  obtain ⟨wb, hwb⟩ : ∃ wb, w2.alloc (Obj.cells #[Value.slice po mo co] 29) = wb := ⟨_, rfl⟩
  obtain ⟨OB, hOB⟩ : ∃ OB, w2.heap.size = OB := ⟨_, rfl⟩
  have hsz : wb.heap.size = OB + 1 := by rw [← hwb, ← hOB]; simp
  have hB1 := below_alloc w2 (Obj.cells #[Value.slice po mo co] 29)
  have hg1 := heap_alloc_new w2 (Obj.cells #[Value.slice po mo co] 29)
  rw [hwb] at hg1 hB1
  rw [hOB] at hg1
  have hkb : ∀ W, Below wb.heap.size wb W → W.cell? ⟨OB, 0, Option.none⟩ = some (.slice po mo co) := fun W k => by
    have g1 := (k.block OB (by omega)).trans hg1
    rw [cell_of_row _ _ _ _ _ _ g1]; rfl
  have HKB := Lib.hid hkb
  have HWB : Hid (Below w.heap.size w wb) := Lib.hid (hb.trans (hB1.mono hb.size))
  have HSZ : Hid (wb.heap.size = OB + 1) := Lib.hid hsz
  have HWBE := Lib.hid hwb
  have HOBE := Lib.hid hOB
  have HO := Lib.hid (kpO _ _ _ _ ho hB1)
  clear hkb hwb hsz hB1 hg1 hOB ho hb
  go_wp2_with (at_make; refine wpList_make_full _ rfl (.tmp 21) (.tmp 21) 31 rfl (w2.heap.size + 1) 35 i0 _ 1 Try.underlying31 hi hz0 hz1 .i64 .i64 (mo : Int) (mo : Int) mo rfl rfl rfl rfl (by rw [hz2]; omega) (by unfold maxLen; omega) (by simp) ?_)
  intro w1 hown hgr
  rw [HWBE.out] at hgr
  rw [HOBE.out] at hown ⊢
  obtain ⟨CB, hCB⟩ : ∃ CB, OB + 1 = CB := ⟨_, rfl⟩
  rw [hCB] at hown ⊢
  have hRs : RsI (fun j => ckr x j T) w1 CB CB mo 0 (madeCells #[.slice Option.none 0 0] mo).toList := by
    refine ⟨hown, fun j u hj => by omega, fun j u _ hu => ?_⟩
    have hm := List.mem_of_getElem? hu
    simp only [madeCells, Array.toList_map, List.mem_map] at hm
    obtain ⟨q, _, rfl⟩ := hm
    simp [Nat.mod_one]
  have HR1 := Lib.hid hRs
  have HB1 : Hid (Below wb.heap.size wb w1) := Lib.hid ((Below.refl _ wb).grown hgr (Nat.le_refl _) (fun k hk => by cases hk))
  have HCB := Lib.hid hCB
  clear hown hgr hi hz0 hz1 hz2 hCB hRs
  generalize (madeCells #[Value.slice Option.none 0 0] mo).toList = us0 at HR1
  go_wp2
  go_loopw [25] (fun s25 wr => ∃ (J : Nat) (us : List Value), s25 = .int .i64 (J : Int) ∧ J ≤ mo ∧ RsI (fun j => ckr x j T) wr CB CB mo J us ∧ Below wb.heap.size wb wr) (fun s _ => mo - (intOf s).toNat)
  case atStart => exact ⟨0, us0, rfl, Nat.zero_le _, HR1.out, HB1.out⟩
  case round =>
    clear HR1 HB1
    obtain ⟨J, us, rfl, hJ, hI, hb⟩ := hrel
    have HI := Lib.hid hI
    have HB := Lib.hid hb
    clear hI hb
    by_cases hlt : J < mo
    · obtain ⟨b, o, rfl, hbb, hr⟩ : ∃ b o, p = some ⟨b, o, Option.none⟩ ∧ b < w.heap.size ∧ EvR w b o x := by
        rcases H4.out with ⟨_, e⟩ | h
        · have := HA.out; rw [e] at this; simp at this; omega
        · exact h
      have hJm : (J : Int) < (mo : Int) := by omega
      have hdr2 : Below wr.heap.size wr wr.drew := ⟨rfl, rfl, rfl, Nat.le_refl _, fun _ _ => rfl⟩
      have hbd : Below wb.heap.size wb wr.drew := HB.out.trans (hdr2.mono HB.out.size)
      have hbw : Below w.heap.size w wr.drew := HWB.out.trans (hbd.mono HWB.out.size)
      have hc := counts_in x J T b o cap po co mo wr.drew (by rw [HA.out]; exact hlt) (by have := HT.out; omega) HK.out HA.out (Nat.lt_of_lt_of_le hbb hbw.size) (fun i e he => by obtain ⟨h1, u, h2, h3⟩ := hr i e he; exact ⟨(hbw.cell (p := ⟨b, _, Option.none⟩) hbb).trans h1, u, (hbw.cell (p := ⟨b, _, Option.none⟩) hbb).trans h2, h3.kept hbw⟩) (kpO _ _ _ _ HO.out hbd)
      have c1 := HKB.out wr HB.out
      have hOw : OB < wr.heap.size := by have := HSZ.out; have := HB.out.size; omega
      have hmx : max t 0 = (T : Int) := by have := HT.out; omega
      obtain ⟨J1, hJ1⟩ : ∃ J1, J + 1 = J1 := ⟨_, rfl⟩
      rw [hJ1] at hc
      have HC := Lib.hid hc
      have hwJ : IntKind.i64.wrap ((J : Int) + 1) = (J1 : Int) := by rw [IntKind.wrap_i64]; omega
      have hJ10 : (0 : Int) ≤ (J1 : Int) := by omega
      have hmc : (J1 : Int) ≤ (cap : Int) := by omega
      have hc0 : ¬ cap = 0 := by omega
      obtain ⟨u0, hu0⟩ : ∃ u0, us[J]? = some u0 := ⟨_, List.getElem?_eq_getElem (by have := HI.out.own.1; omega)⟩
      obtain rfl := HI.out.rest J u0 (Nat.le_refl _) hu0
      have HU0 := Lib.hid hu0
      clear hbd hbw hc hr hu0
      go_wp2_with fail
      refine wp_region_lapse (by kernel_rfl) (fun w' => w'.cell? ⟨OB, 0, Option.none⟩ = some (.slice po mo co)) 11 ?_
      have hS0 : wr.drew.cell? ⟨OB, 0, Option.none⟩ = some (.slice po mo co) := c1
      refine wpAnyF_take (i := 0) (v := ?v8x0) rfl (by kernel_rfl) (by kernel_rfl) (by kernel_rfl) (by kernel_rfl) (fun _ _ _ h => h) (Or.inl ⟨by rfl, ?h8x0⟩) hS0 ?_
      case h8x0 => (intro w hSw; (try dsimp only at hSw); go_simp; try with_reducible rfl)
      try simp only [Act.put, List.setIfInBounds_toArray, List.set_cons_zero, List.set_cons_succ]
      refine wpAnyF_take (i := 1) (v := ?v8x1) rfl (by kernel_rfl) (by kernel_rfl) (by kernel_rfl) (by kernel_rfl) (fun _ _ _ h => h) (Or.inl ⟨by rfl, ?h8x1⟩) hS0 ?_
      case h8x1 => (intro w hSw; (try dsimp only at hSw); go_simp; try with_reducible rfl)
      try simp only [Act.put, List.setIfInBounds_toArray, List.set_cons_zero, List.set_cons_succ]
      refine wpAnyF_take (i := 2) (v := ?v8x2) rfl (by kernel_rfl) (by kernel_rfl) (by kernel_rfl) (by kernel_rfl) (fun _ _ _ h => h) (Or.inl ⟨by rfl, ?h8x2⟩) hS0 ?_
      case h8x2 => (intro w hSw; (try dsimp only at hSw); go_simp; try with_reducible rfl)
      try simp only [Act.put, List.setIfInBounds_toArray, List.set_cons_zero, List.set_cons_succ]
      refine wpAnyF_take (i := 3) (v := ?v8x3) rfl (by kernel_rfl) (by kernel_rfl) (by kernel_rfl) (by kernel_rfl) (fun _ _ _ h => h) (Or.inl ⟨by rfl, ?h8x3⟩) hS0 ?_
      case h8x3 => (intro w hSw; (try dsimp only at hSw); go_simp; try with_reducible rfl)
      try simp only [Act.put, List.setIfInBounds_toArray, List.set_cons_zero, List.set_cons_succ]
      refine wpAnyF_take (i := 4) (v := ?v8x4) rfl (by kernel_rfl) (by kernel_rfl) (by kernel_rfl) (by kernel_rfl) (fun _ _ _ h => h) (Or.inl ⟨by rfl, ?h8x4⟩) hS0 ?_
      case h8x4 => (intro w hSw; (try dsimp only at hSw); go_simp; try with_reducible rfl)
      try simp only [Act.put, List.setIfInBounds_toArray, List.set_cons_zero, List.set_cons_succ]
      refine wpAnyF_take (i := 5) (v := ?v8x5) rfl (by kernel_rfl) (by kernel_rfl) (by kernel_rfl) (by kernel_rfl) (fun _ _ _ h => h) (Or.inl ⟨by rfl, ?h8x5⟩) hS0 ?_
      case h8x5 => (intro w hSw; (try dsimp only at hSw); go_simp; try with_reducible rfl)
      try simp only [Act.put, List.setIfInBounds_toArray, List.set_cons_zero, List.set_cons_succ]
      refine wpAnyF_take (i := 6) (v := ?v8x6) rfl (by kernel_rfl) (by kernel_rfl) (by kernel_rfl) (by kernel_rfl) (fun _ _ _ h => h) (Or.inl ⟨by rfl, ?h8x6⟩) hS0 ?_
      case h8x6 => (intro w hSw; (try dsimp only at hSw); go_simp; try with_reducible rfl)
      try simp only [Act.put, List.setIfInBounds_toArray, List.set_cons_zero, List.set_cons_succ]
      refine wpAnyF_take (i := 7) (v := ?v8x7) rfl (by kernel_rfl) (by kernel_rfl) (by kernel_rfl) (by kernel_rfl) (fun _ _ _ h => h) (Or.inl ⟨by rfl, ?h8x7⟩) hS0 ?_
      case h8x7 => (intro w hSw; (try dsimp only at hSw); go_simp; try with_reducible rfl)
      try simp only [Act.put, List.setIfInBounds_toArray, List.set_cons_zero, List.set_cons_succ]
      refine wpAnyF_take (i := 8) (v := ?v8x8) rfl (by kernel_rfl) (by kernel_rfl) (by kernel_rfl) (by kernel_rfl) (fun _ _ _ h => h) (Or.inl ⟨by rfl, ?h8x8⟩) hS0 ?_
      case h8x8 => (intro w hSw; (try dsimp only at hSw); go_simp; try with_reducible rfl)
      try simp only [Act.put, List.setIfInBounds_toArray, List.set_cons_zero, List.set_cons_succ]
      refine wpAnyF_one (i := 9) (by kernel_rfl) rfl (fun K hK => ?_)
      go_simp
      go_at_call 24
      refine HC.out.mono ?_
      rintro e w2 ⟨u, rfl, hnu, hub, hb2⟩
      obtain ⟨pu, cu, rfl, hcu⟩ := id hnu
      have hs2 := (hb2.cell (p := ⟨OB, 0, Option.none⟩) hOw).trans c1
      have hb3 : Below wr.heap.size wr w2 := hdr2.trans (hb2.mono hdr2.size)
      have hI2 := HI.out.kept hb3
      have c5 : w2.cell? ⟨CB, J, Option.none⟩ = some (.slice Option.none 0 0) := by rw [hI2.own.cellAt J (by omega)]; exact HU0.out
      have f5 := hI2.own.frozenAt J
      refine hK.out _ _ (fun hne => hs2) ?_
      clear hK K
      try simp only [Act.put, List.setIfInBounds_toArray, List.set_cons_zero, List.set_cons_succ]
      refine wpAnyF_one (i := 10) (by kernel_rfl) rfl (fun K hK => ?_)
      go_simp
      refine hK.out _ _ (fun hne => hs2) ?_
      clear hK K
      try simp only [Act.put, List.setIfInBounds_toArray, List.set_cons_zero, List.set_cons_succ]
      refine wpAnyF_one (i := 11) (by kernel_rfl) rfl (fun K hK => ?_)
      go_simp
      refine hK.out _ _ (fun hne => absurd rfl hne) ?_
      clear hK K
      try simp only [Act.put, List.setIfInBounds_toArray, List.set_cons_zero, List.set_cons_succ]
      refine wpAnyF_done (by kernel_rfl) ?_ _
      have HNEW := Lib.hid (hI2.set (J := J) hnu (fun q hq e => by have h1 := hub q hq; have h2 := (HI.out.own.lt CB rfl).2; have h3 : wr.drew.heap.size = wr.heap.size := rfl; omega) hlt)
      have HBEL := Lib.hid ((HB.out.trans (hb3.mono HB.out.size)).setCell (p := ⟨CB, J, Option.none⟩) (by rw [HSZ.out, HCB.out]; exact Nat.le_refl CB) (.slice pu (ckr x J T).length cu))
      clear hI2 hnu hub hcu
      go_wp2
      go_roundw
      case rel => exact ⟨J + 1, _, by go_num, by omega, HNEW.out, HBEL.out⟩
      case measure => simp [intOf]; omega
    · obtain rfl : J = mo := by omega
      go_wp2
      go_ret
      exact ⟨_, rfl, HI.out.rws, HWB.out.trans (HB.out.mono HWB.out.size)⟩
end Go.Proofs.Ytdcabhlgaecbiaa
