/- clock.New: the order of events. -/
import Derived.Test.YtcbpkagegdfidaaGb
import Derived.Test.YtcbpkagegdfidaaOc
import Derived.Test.YtcbpkagegdfidaaHl
import Derived.Test.YtcbpkagegdfidaaXc
import Derived.Deep.AppendLies
set_option linter.unusedSimpArgs false
set_option linter.unusedVariables false
namespace Go.Proofs.Ytcbpkagegdfidaa
open Go.RowKit

theorem RwO.grown {w w' : World} {u : Value} {f : Nat → Bool} {j : Nat} {row : Option Nat} (h : RwO w u f j) (hg : w.grownBy w' row) (hne : ∀ q, u.ownBlock = some q → row ≠ some q) : RwO w' u f j := by
  obtain ⟨B, n, rfl, h2, h3, h4, h5⟩ := h
  exact ⟨B, n, rfl, Nat.lt_of_lt_of_le h2 hg.size, h3, h4, fun hj => (World.cell?_of_block (w := w) (hg.block B h2 (fun e => hne B rfl e.symm))).trans (h5 hj)⟩
/-- The rows of the first J events, in a list that a box holds. -/
structure OrI (wr : World) (OB RB : Nat) (x : Evl) (J : Nat) (v : Value) (us : List Value) : Prop where
  own : wr.ownsRow (OB + 1) 74 1 v J us
  ob : wr.heap[OB]? = some (.cells #[v] 58)
  rb : wr.heap[RB]? = some (.cells #[.slice Option.none 0 0] 58)
  rows : ∀ j u, us[j]? = some u → RwO wr u (fun k => hbd edep x k j) j ∧ ∀ q, u.ownBlock = some q → OB < q ∧ v.ownBlock ≠ some q
theorem OrI.obp {wr : World} {OB RB : Nat} {x : Evl} {J : Nat} {v : Value} {us : List Value} (h : OrI wr OB RB x J v us) : ObP wr v x J := by
  have hown := h.own
  have hlen : us.length = J := by have := hown.1; omega
  rcases id hown.2 with ⟨rfl, h0⟩ | ⟨g, cap, cur, rfl, hbg, hg, hn, hm, hs, ht⟩
  · exact ⟨_, _, by rw [h0], .inl h0⟩
  · refine ⟨_, _, rfl, .inr ⟨g, 0, rfl, lt_of_block hg, fun j hj => ?_⟩⟩
    obtain ⟨u, hu⟩ : ∃ u, us[j]? = some u := ⟨_, List.getElem?_eq_getElem (by omega)⟩
    exact ⟨u, by rw [Nat.zero_add, hown.cellAt j (by omega)]; exact hu, (h.rows j u hu).1⟩
theorem OrI.kept {w w' : World} {OB RB : Nat} {x : Evl} {J : Nat} {v : Value} {us : List Value} (h : OrI w OB RB x J v us) (k : Below w.heap.size w w') : OrI w' OB RB x J v us :=
  ⟨own_kept h.own k, (k.block OB (lt_of_block h.ob)).trans h.ob, (k.block RB (lt_of_block h.rb)).trans h.rb, fun j u hu => ⟨(h.rows j u hu).1.kept k, (h.rows j u hu).2⟩⟩
theorem OrI.app {w2 w3 : World} {O : Obj} {OB RB J g cap : Nat} {x : Evl} {v u : Value} {us : List Value} (hi : OrI w2 OB RB x J v us) (hRB : RB < OB) (hru : RwO w2 u (fun k => hbd edep x k J) J)
    (hub : ∀ q, u.ownBlock = some q → OB < q ∧ v.ownBlock ≠ some q) (hown : w3.ownsRow (OB + 1) 74 1 (.slice (some ⟨g, 0, Option.none⟩) (J + 1) cap) (J + 1) (us ++ [u])) (hgrow : (w2.alloc O).grownBy w3 v.ownBlock)
    (hat : v.ownBlock = some g ∨ g = w2.heap.size + 1) : OrI (w3.setCell ⟨OB, 0, Option.none⟩ (.slice (some ⟨g, 0, Option.none⟩) (J + 1) cap)) OB RB x (J + 1) (.slice (some ⟨g, 0, Option.none⟩) (J + 1) cap) (us ++ [u]) := by
  have hia := hi.kept (below_alloc w2 O)
  have hlen : us.length = J := by have := hi.own.1; omega
  have hg : OB + 1 ≤ g := (hown.lt g rfl).1
  have hvo : ∀ q, v.ownBlock = some q → OB + 1 ≤ q := fun q hq => (hi.own.lt q hq).1
  have hb3 := (hgrow.block OB (lt_of_block hia.ob) (fun e => by have := hvo _ e.symm; omega)).trans hia.ob
  have hr3 := (hgrow.block RB (lt_of_block hia.rb) (fun e => by have := hvo _ e.symm; omega)).trans hia.rb
  have hset := gb_set w3 ⟨OB, 0, Option.none⟩ (.slice (some ⟨g, 0, Option.none⟩) (J + 1) cap)
  have key : ∀ {z : Value} {f : Nat → Bool} {j : Nat}, RwO w2 z f j → (∀ q, z.ownBlock = some q → OB < q ∧ v.ownBlock ≠ some q) →
      RwO (w3.setCell ⟨OB, 0, Option.none⟩ (.slice (some ⟨g, 0, Option.none⟩) (J + 1) cap)) z f j ∧ ∀ q, z.ownBlock = some q → OB < q ∧ (Value.slice (some ⟨g, 0, Option.none⟩) (J + 1) cap).ownBlock ≠ some q := by
    intro z f j hz hq
    refine ⟨((hz.kept (below_alloc w2 O)).grown hgrow (fun q h => (hq q h).2)).grown hset (fun q h e => by have := (hq q h).1; have := Option.some.inj e; simp at this; omega), fun q h => ⟨(hq q h).1, fun e => ?_⟩⟩
    have e2 : g = q := Option.some.inj e
    rcases hat with hat | hat
    · exact (hq q h).2 (by rw [hat, e2])
    · obtain ⟨B, n, rfl, hB, _⟩ := hz
      have : B = q := Option.some.inj h
      omega
  refine ⟨hown.kept hset (.inr fun e => by have := Option.some.inj e; simp at this; omega), ?_, ?_, fun j z hz => ?_⟩
  · rw [heap_setCell_same w3 OB 0 #[v] 58 _ hb3]; rfl
  · rw [heap_setCell_other _ _ _ _ (by simp; omega)]; exact hr3
  · by_cases hj : j < us.length
    · rw [List.getElem?_append_left hj] at hz
      exact key (hi.rows j z hz).1 (hi.rows j z hz).2
    · rw [List.getElem?_append_right (by omega)] at hz
      have hj0 : j - us.length = 0 := by
        have := (List.getElem?_eq_some_iff.1 hz).1
        simp at this; omega
      rw [hj0] at hz
      simp only [List.getElem?_cons_zero, Option.some.injEq] at hz
      subst hz
      obtain rfl : j = J := by omega
      exact key hru hub
theorem OrI.fin {wr : World} {OB RB : Nat} {x : Evl} {J : Nat} {v : Value} {us : List Value} (h : OrI wr OB RB x J v us) (hRB : RB < OB) (z : Value) : ObP (wr.setCell ⟨RB, 0, Option.none⟩ z) v x J := by
  have hset := gb_set wr ⟨RB, 0, Option.none⟩ z
  have hown := h.own.kept hset (by
    rcases hv : v.ownBlock with _ | q
    · exact .inl rfl
    · refine .inr fun e => ?_
      have h1 := (h.own.lt q hv).1
      have h2 : q = RB := Option.some.inj e
      omega)
  have hlen : us.length = J := by have := hown.1; omega
  rcases id hown.2 with ⟨rfl, h0⟩ | ⟨g, cap, cur, rfl, hbg, hg, hn, hm, hs, ht⟩
  · exact ⟨_, _, by rw [h0], .inl h0⟩
  · refine ⟨_, _, rfl, .inr ⟨g, 0, rfl, lt_of_block hg, fun j hj => ?_⟩⟩
    obtain ⟨u, hu⟩ : ∃ u, us[j]? = some u := ⟨_, List.getElem?_eq_getElem (by omega)⟩
    refine ⟨u, by rw [Nat.zero_add, hown.cellAt j (by omega)]; exact hu, (h.rows j u hu).1.grown hset fun q hq e => ?_⟩
    have h1 := ((h.rows j u hu).2 q hq).1
    have h2 : RB = q := Option.some.inj e
    omega
/-- As ObP, and every block from base on. -/
def ObG (base : Nat) (w : World) (v : Value) (x : Evl) (J : Nat) : Prop :=
  ∃ p c, v = .slice p J c ∧ (J = 0 ∨ ∃ b o, p = some ⟨b, o, Option.none⟩ ∧ base ≤ b ∧ b < w.heap.size ∧ ∀ j, j < J → ∃ u, w.cell? ⟨b, o + j, Option.none⟩ = some u ∧ RwO w u (fun k => hbd edep x k j) j ∧ ∀ q, u.ownBlock = some q → base ≤ q)
theorem ObG.obp {base : Nat} {w : World} {v : Value} {x : Evl} {J : Nat} (h : ObG base w v x J) : ObP w v x J := by
  obtain ⟨p, c, h1, h2⟩ := h
  refine ⟨p, c, h1, ?_⟩
  rcases h2 with h2 | ⟨b, o, h2, _, h3, h4⟩
  · exact .inl h2
  · refine .inr ⟨b, o, h2, h3, fun j hj => ?_⟩
    obtain ⟨u, h5, h6, _⟩ := h4 j hj
    exact ⟨u, h5, h6⟩
/-- All blocks but one stand. -/
def Exo (B : Nat) (w w' : World) : Prop := w.heap.size ≤ w'.heap.size ∧ ∀ q, q < w.heap.size → q ≠ B → w'.heap[q]? = w.heap[q]?
theorem Exo.refl (B : Nat) (w : World) : Exo B w w := ⟨Nat.le_refl _, fun _ _ _ => rfl⟩
theorem Exo.below {B : Nat} {w w' w2 : World} (h : Exo B w w') (k : Below w'.heap.size w' w2) : Exo B w w2 :=
  ⟨Nat.le_trans h.1 k.size, fun q hq hn => (k.block q (Nat.lt_of_lt_of_le hq h.1)).trans (h.2 q hq hn)⟩
theorem Exo.grown {B : Nat} {w w' w2 : World} {row : Option Nat} (h : Exo B w w') (g : w'.grownBy w2 row) (hr : ∀ q, row = some q → q = B ∨ w.heap.size ≤ q) : Exo B w w2 :=
  ⟨Nat.le_trans h.1 g.size, fun q hq hn => (g.block q (Nat.lt_of_lt_of_le hq h.1) (fun e => by
    rcases hr q e.symm with h | h
    · exact hn h
    · omega)).trans (h.2 q hq hn)⟩
theorem ObG.kept {base B : Nat} {w w' : World} {v : Value} {x : Evl} {J : Nat} (h : ObG base w v x J) (k : Exo B w w') (hB : B < base) : ObG base w' v x J := by
  obtain ⟨p, c, h1, h2⟩ := h
  refine ⟨p, c, h1, ?_⟩
  rcases h2 with h2 | ⟨b, o, h2, hbb, h3, h4⟩
  · exact .inl h2
  · refine .inr ⟨b, o, h2, hbb, Nat.lt_of_lt_of_le h3 k.1, fun j hj => ?_⟩
    obtain ⟨u, h5, ⟨Bu, n, h6, h7, h8, h9, h10⟩, h11⟩ := h4 j hj
    have hbu : base ≤ Bu := h11 Bu (by rw [h6]; rfl)
    exact ⟨u, (World.cell?_of_block (w := w) (k.2 b h3 (by omega))).trans h5, ⟨Bu, n, h6, Nat.lt_of_lt_of_le h7 k.1, h8, h9, fun hj => (World.cell?_of_block (w := w) (k.2 Bu h7 (by omega))).trans (h10 hj)⟩, h11⟩
theorem OrI.finG {wr : World} {OB RB : Nat} {x : Evl} {J : Nat} {v : Value} {us : List Value} (h : OrI wr OB RB x J v us) (hRB : RB < OB) (z : Value) : ObG RB (wr.setCell ⟨RB, 0, Option.none⟩ z) v x J := by
  have hset := gb_set wr ⟨RB, 0, Option.none⟩ z
  have hown := h.own.kept hset (by
    rcases hv : v.ownBlock with _ | q
    · exact .inl rfl
    · refine .inr fun e => ?_
      have h1 := (h.own.lt q hv).1
      have h2 : q = RB := Option.some.inj e
      omega)
  have hlen : us.length = J := by have := hown.1; omega
  rcases id hown.2 with ⟨rfl, h0⟩ | ⟨g, cap, cur, rfl, hbg, hg, hn, hm, hs, ht⟩
  · exact ⟨_, _, by rw [h0], .inl h0⟩
  · refine ⟨_, _, rfl, .inr ⟨g, 0, rfl, by omega, lt_of_block hg, fun j hj => ?_⟩⟩
    obtain ⟨u, hu⟩ : ∃ u, us[j]? = some u := ⟨_, List.getElem?_eq_getElem (by omega)⟩
    refine ⟨u, by rw [Nat.zero_add, hown.cellAt j (by omega)]; exact hu, (h.rows j u hu).1.grown hset (fun q hq e => ?_), fun q hq => ?_⟩
    · have h1 := ((h.rows j u hu).2 q hq).1
      have h2 : RB = q := Option.some.inj e
      omega
    · have h1 := ((h.rows j u hu).2 q hq).1
      omega
theorem pl_info : ∃ i0, Try.prog.info? 74 = some i0 ∧ i0.zero = some (.slice Option.none 0 0) ∧ i0.size = 1 ∧ i0.bytes = 24 := info_parts (by kernel_rfl)
def ObS (w : World) (v : Value) (x : Evl) : Prop := ObP w v x x.length
theorem kpO : KpO ObS := fun _ _ _ _ h k => ObP.kept h k

set_option maxRecDepth 100000 in
set_option maxHeartbeats 16000000 in
theorem newG (x : Evl) (v : Value) (w : World) (hs : EvS w v x) (hk : Evk x) : Calls Try.prog 25 #[v] w fun e w' => ∃ v', e = .returned v' ∧ (∃ p m c, v' = .agg #[.slice p m c] ∧ ObG w.heap.size w' (.slice p m c) x x.length) ∧ Below w.heap.size w w' := by
  have HS := Lib.hid hs
  have HK := Lib.hid hk
  obtain ⟨p, cap, rfl, hcap, hcm, h4⟩ := hs
  obtain ⟨A, hA⟩ : ∃ A, x.length = A := ⟨_, rfl⟩
  rw [hA] at HS hcap ⊢
  have hA60 : A ≤ 60 := by rw [← hA]; exact hk.1
  have HA := Lib.hid hA
  have H4 := Lib.hid h4
  clear hA h4 hk
  obtain ⟨wb, hwb⟩ : ∃ wb, (w.alloc (Obj.cells #[Value.slice Option.none 0 0] 58)).alloc (Obj.cells #[Value.slice Option.none 0 0] 58) = wb := ⟨_, rfl⟩
  obtain ⟨RB, hRB⟩ : ∃ RB, w.heap.size = RB := ⟨_, rfl⟩
  have hsz : wb.heap.size = RB + 1 + 1 := by rw [← hwb, ← hRB]; simp
  have hB1 := below_alloc w (Obj.cells #[Value.slice Option.none 0 0] 58)
  have hB2 := below_alloc (w.alloc (Obj.cells #[Value.slice Option.none 0 0] 58)) (Obj.cells #[Value.slice Option.none 0 0] 58)
  have hg1 := heap_alloc_new w (Obj.cells #[Value.slice Option.none 0 0] 58)
  have hg2 := heap_alloc_new (w.alloc (Obj.cells #[Value.slice Option.none 0 0] 58)) (Obj.cells #[Value.slice Option.none 0 0] 58)
  rw [← hB2.block w.heap.size (by simp)] at hg1
  have hWb : Below w.heap.size w wb := by rw [← hwb]; exact hB1.trans (hB2.mono hB1.size)
  have hs1 : (w.alloc (Obj.cells #[Value.slice Option.none 0 0] 58)).heap.size = RB + 1 := by rw [← hRB]; simp
  rw [hwb] at hg1 hg2
  rw [hs1] at hg2
  rw [hRB] at hg1
  have HI0 : Hid (OrI wb (RB + 1) RB x 0 (.slice Option.none 0 0) []) := Lib.hid ⟨World.ownsRow_nil _ _ _ _, hg2, hg1, fun j u hu => by simp at hu⟩
  have HB0 := Lib.hid hWb
  have HWBE := Lib.hid hwb
  have HRB := Lib.hid hRB
  obtain ⟨i0, hi, hz0, hz1, hz2⟩ := pl_info
  clear hsz hB1 hB2 hg1 hg2 hWb hs1 hwb hRB
  go_enter Try.func25, Try.ntmps25
  go_wp2_with fail
  rw [HWBE.out, HRB.out]
  go_loopw [7] (fun s7 wr => ∃ (J : Nat) (v : Value) (us : List Value), s7 = .int .i64 (J : Int) ∧ J ≤ A ∧ OrI wr (RB + 1) RB x J v us ∧ Below w.heap.size w wr) (fun s _ => A - (intOf s).toNat)
  case atStart => exact ⟨0, _, _, rfl, Nat.zero_le _, HI0.out, HB0.out⟩
  case round =>
    clear HI0 HB0
    obtain ⟨J, v, us, rfl, hJ, hI, hb⟩ := hrel
    have HI := Lib.hid hI
    have HB := Lib.hid hb
    clear hI hb
    by_cases hlt : J < A
    · obtain ⟨f, hf⟩ : ∃ f, x[J]? = some f := ⟨_, List.getElem?_eq_getElem (by rw [HA.out]; exact hlt)⟩
      obtain ⟨b, o, rfl, hbb, hr⟩ : ∃ b o, p = some ⟨b, o, Option.none⟩ ∧ b < w.heap.size ∧ EvR w b o x := by
        rcases H4.out with ⟨_, e⟩ | h
        · rw [e] at hf; simp at hf
        · exact h
      obtain ⟨qf, mf, cf, hfc⟩ := hr.at hbb hf
      obtain ⟨pv, mv, cv, rfl⟩ := own_form HI.out.own
      have hmv : mv = J := by
        obtain ⟨_, _, h1, _⟩ := HI.out.obp
        simp only [Value.slice.injEq] at h1
        exact h1.2.1
      subst hmv
      obtain ⟨c2, c3, hm⟩ := hfc wr HB.out
      have hdr : Below wr.heap.size wr wr.drew := ⟨rfl, rfl, rfl, Nat.le_refl _, fun _ _ => rfl⟩
      have hbdr : Below w.heap.size w wr.drew := HB.out.trans (hdr.mono HB.out.size)
      have HC := Lib.hid (aheadof_any x mv f (some ⟨b, o, Option.none⟩) cap pv cv qf mf cf wr.drew (by omega) hf HK.out (.inr ⟨b, o, rfl, Nat.lt_of_lt_of_le hbb hbdr.size, fun i e he => by obtain ⟨h1, u, h2, h3⟩ := hr i e he; exact ⟨(hbdr.cell (p := ⟨b, _, Option.none⟩) hbb).trans h1, u, (hbdr.cell (p := ⟨b, _, Option.none⟩) hbb).trans h2, h3.kept hbdr⟩⟩) (hfc wr.drew hbdr).2.2 (HI.out.obp.kept hdr))
      have c1 : wr.cell? ⟨RB + 1, 0, Option.none⟩ = some (.slice pv mv cv) := by rw [cell_of_row _ _ _ _ _ _ HI.out.ob]; rfl
      have hbw : b < wr.heap.size := Nat.lt_of_lt_of_le hbb HB.out.size
      have hml : (mv : Int) < (A : Int) := by omega
      have hdr2 : Below wr.heap.size wr wr.drew := ⟨rfl, rfl, rfl, Nat.le_refl _, fun _ _ => rfl⟩
      have hmc : mv ≤ cap := by omega
      have hc0 : ¬ cap = 0 := by omega
      have HF := Lib.hid hf
      clear hfc hr hf hm hdr hbdr
      go_wp2_with fail
      refine wp_region_lapse (by kernel_rfl) (fun w' => w'.cell? ⟨RB + 1, 0, Option.none⟩ = some (.slice pv mv cv) ∧ w'.cell? ⟨b, o + mv * 2, Option.none⟩ = some (.int .i64 f.1) ∧ w'.cell? ⟨b, o + mv * 2 + 1, Option.none⟩ = some (.slice qf mf cf)) 14 ?_
      have hS0 : wr.drew.cell? ⟨RB + 1, 0, Option.none⟩ = some (.slice pv mv cv) ∧ wr.drew.cell? ⟨b, o + mv * 2, Option.none⟩ = some (.int .i64 f.1) ∧ wr.drew.cell? ⟨b, o + mv * 2 + 1, Option.none⟩ = some (.slice qf mf cf) := ⟨c1, c2, c3⟩
      refine wpAnyF_take (i := 0) (v := ?v5x0) rfl (by kernel_rfl) (by kernel_rfl) (by kernel_rfl) (by kernel_rfl) (fun _ _ _ h => h) (Or.inl ⟨by rfl, ?h5x0⟩) hS0 ?_
      case h5x0 => (intro w hSw; (try dsimp only at hSw); obtain ⟨z1, z2, z3⟩ := hSw; go_simp; try with_reducible rfl)
      simp only [Act.put, List.setIfInBounds_toArray, List.set_cons_zero, List.set_cons_succ]
      refine wpAnyF_take (i := 1) (v := ?v5x1) rfl (by kernel_rfl) (by kernel_rfl) (by kernel_rfl) (by kernel_rfl) (fun _ _ _ h => h) (Or.inl ⟨by rfl, ?h5x1⟩) hS0 ?_
      case h5x1 => (intro w hSw; (try dsimp only at hSw); obtain ⟨z1, z2, z3⟩ := hSw; go_simp; try with_reducible rfl)
      simp only [Act.put, List.setIfInBounds_toArray, List.set_cons_zero, List.set_cons_succ]
      refine wpAnyF_take (i := 2) (v := ?v5x2) rfl (by kernel_rfl) (by kernel_rfl) (by kernel_rfl) (by kernel_rfl) (fun _ _ _ h => h) (Or.inl ⟨by rfl, ?h5x2⟩) hS0 ?_
      case h5x2 => (intro w hSw; (try dsimp only at hSw); obtain ⟨z1, z2, z3⟩ := hSw; go_simp; try with_reducible rfl)
      simp only [Act.put, List.setIfInBounds_toArray, List.set_cons_zero, List.set_cons_succ]
      refine wpAnyF_take (i := 3) (v := ?v5x3) rfl (by kernel_rfl) (by kernel_rfl) (by kernel_rfl) (by kernel_rfl) (fun _ _ _ h => h) (Or.inl ⟨by rfl, ?h5x3⟩) hS0 ?_
      case h5x3 => (intro w hSw; (try dsimp only at hSw); obtain ⟨z1, z2, z3⟩ := hSw; go_simp; try with_reducible rfl)
      simp only [Act.put, List.setIfInBounds_toArray, List.set_cons_zero, List.set_cons_succ]
      refine wpAnyF_take (i := 4) (v := ?v5x4) rfl (by kernel_rfl) (by kernel_rfl) (by kernel_rfl) (by kernel_rfl) (fun _ _ _ h => h) (Or.inl ⟨by rfl, ?h5x4⟩) hS0 ?_
      case h5x4 => (intro w hSw; (try dsimp only at hSw); obtain ⟨z1, z2, z3⟩ := hSw; go_simp; try with_reducible rfl)
      simp only [Act.put, List.setIfInBounds_toArray, List.set_cons_zero, List.set_cons_succ]
      refine wpAnyF_take (i := 5) (v := ?v5x5) rfl (by kernel_rfl) (by kernel_rfl) (by kernel_rfl) (by kernel_rfl) (fun _ _ _ h => h) (Or.inl ⟨by rfl, ?h5x5⟩) hS0 ?_
      case h5x5 => (intro w hSw; (try dsimp only at hSw); obtain ⟨z1, z2, z3⟩ := hSw; go_simp; try with_reducible rfl)
      simp only [Act.put, List.setIfInBounds_toArray, List.set_cons_zero, List.set_cons_succ]
      refine wpAnyF_take (i := 6) (v := ?v5x6) rfl (by kernel_rfl) (by kernel_rfl) (by kernel_rfl) (by kernel_rfl) (fun _ _ _ h => h) (Or.inl ⟨by rfl, ?h5x6⟩) hS0 ?_
      case h5x6 => (intro w hSw; (try dsimp only at hSw); obtain ⟨z1, z2, z3⟩ := hSw; go_simp; try with_reducible rfl)
      simp only [Act.put, List.setIfInBounds_toArray, List.set_cons_zero, List.set_cons_succ]
      refine wpAnyF_take (i := 7) (v := ?v5x7) rfl (by kernel_rfl) (by kernel_rfl) (by kernel_rfl) (by kernel_rfl) (fun _ _ _ h => h) (Or.inl ⟨by rfl, ?h5x7⟩) hS0 ?_
      case h5x7 => (intro w hSw; (try dsimp only at hSw); obtain ⟨z1, z2, z3⟩ := hSw; go_simp; try with_reducible rfl)
      simp only [Act.put, List.setIfInBounds_toArray, List.set_cons_zero, List.set_cons_succ]
      refine wpAnyF_take (i := 8) (v := ?v5x8) rfl (by kernel_rfl) (by kernel_rfl) (by kernel_rfl) (by kernel_rfl) (fun _ _ _ h => h) (Or.inl ⟨by rfl, ?h5x8⟩) hS0 ?_
      case h5x8 => (intro w hSw; (try dsimp only at hSw); obtain ⟨z1, z2, z3⟩ := hSw; go_simp; try with_reducible rfl)
      simp only [Act.put, List.setIfInBounds_toArray, List.set_cons_zero, List.set_cons_succ]
      refine wpAnyF_take (i := 9) (v := ?v5x9) rfl (by kernel_rfl) (by kernel_rfl) (by kernel_rfl) (by kernel_rfl) (fun _ _ _ h => h) (Or.inl ⟨by rfl, ?h5x9⟩) hS0 ?_
      case h5x9 => (intro w hSw; (try dsimp only at hSw); obtain ⟨z1, z2, z3⟩ := hSw; go_simp; try with_reducible rfl)
      simp only [Act.put, List.setIfInBounds_toArray, List.set_cons_zero, List.set_cons_succ]
      refine wpAnyF_one (i := 10) (by kernel_rfl) rfl (fun K hK => ?_)
      go_simp
      go_at_call 38
      refine HC.out.mono ?_
      rintro e w2 ⟨u, rfl, hru, hub, hb2⟩
      have hs2 : w2.cell? ⟨RB + 1, 0, Option.none⟩ = some (.slice pv mv cv) ∧ w2.cell? ⟨b, o + mv * 2, Option.none⟩ = some (.int .i64 f.1) ∧ w2.cell? ⟨b, o + mv * 2 + 1, Option.none⟩ = some (.slice qf mf cf) := ⟨(hb2.cell (p := ⟨RB + 1, 0, Option.none⟩) (lt_of_block HI.out.ob)).trans c1, (hb2.cell (p := ⟨b, _, Option.none⟩) hbw).trans c2, (hb2.cell (p := ⟨b, _, Option.none⟩) hbw).trans c3⟩
      obtain ⟨Bu, nu, rfl, hBu, hnu, htu, hcu⟩ := id hru
      have hi2 := HI.out.kept (w' := w2) (hdr2.trans (hb2.mono hdr2.size))
      refine hK.out _ _ (fun hne => hs2) ?_
      clear hK K
      try simp only [Act.put, List.setIfInBounds_toArray, List.set_cons_zero, List.set_cons_succ]
      refine wpAnyF_one (i := 11) (by kernel_rfl) rfl (fun K hK => ?_)
      go_simp
      refine hK.out _ _ (fun hne => ⟨al_cell hs2.1 _, al_cell hs2.2.1 _, al_cell hs2.2.2 _⟩) ?_
      clear hK K
      try simp only [Act.put, List.setIfInBounds_toArray, List.set_cons_zero, List.set_cons_succ]
      refine wpAnyF_one (i := 12) (by kernel_rfl) rfl (fun K hK => ?_)
      refine step_append_lies _ (by rfl) (.tmp 11) (.tmp 21) 56 (by rfl) (RB + 1 + 1) 74 i0 _ 1 24 Try.underlying56 hi hz0 hz1 hz2 rfl (by decide) (.slice pv mv cv) mv us (by rfl) (own_kept hi2.own (below_alloc w2 _)) ⟨w2.heap.size, 0, Option.none⟩ 1 1 [.slice (some ⟨Bu, 0, Option.none⟩) (rwl mv) (rwl mv)] (by rfl) (by rfl) (World.news_of_block (heap_alloc_new w2 _)) (by intro z hz; simp only [List.mem_singleton] at hz; subst hz; rfl) (by decide) (by unfold maxLen; omega) (by omega) (by have := lt_of_block hi2.ob; simp; omega) (w2.heap.size + 1) (by simp) ?_
      intro g cap2 w3 hown hgrow hat hlt
      have hia := hi2.kept (below_alloc w2 (Obj.cells #[Value.slice (some ⟨Bu, 0, Option.none⟩) (rwl mv) (rwl mv)] 74))
      have hvo : ∀ q, (Value.slice pv mv cv).ownBlock = some q → RB + 1 + 1 ≤ q := fun q hq => (hia.own.lt q hq).1
      have hb3 := (hgrow.block (RB + 1) (lt_of_block hia.ob) (fun e => by have := hvo _ e.symm; omega)).trans hia.ob
      have hf3 := frozen_of_row w3 (RB + 1) 0 _ 58 hb3
      have hbB : some b ≠ (Value.slice pv mv cv).ownBlock := fun e => by have := hvo _ e.symm; have := HRB.out; omega
      have hbA : b < (w2.alloc (Obj.cells #[Value.slice (some ⟨Bu, 0, Option.none⟩) (rwl mv) (rwl mv)] 74)).heap.size := by have := hb2.size; simp at this ⊢; omega
      have hs3 : w3.cell? ⟨RB + 1, 0, Option.none⟩ = some (.slice pv mv cv) ∧ w3.cell? ⟨b, o + mv * 2, Option.none⟩ = some (.int .i64 f.1) ∧ w3.cell? ⟨b, o + mv * 2 + 1, Option.none⟩ = some (.slice qf mf cf) :=
        ⟨by rw [cell_of_row _ _ _ _ _ _ hb3]; rfl, (World.cell?_of_block (w := w2.alloc (Obj.cells #[Value.slice (some ⟨Bu, 0, Option.none⟩) (rwl mv) (rwl mv)] 74)) (hgrow.block b hbA hbB)).trans (al_cell hs2.2.1 _), (World.cell?_of_block (w := w2.alloc (Obj.cells #[Value.slice (some ⟨Bu, 0, Option.none⟩) (rwl mv) (rwl mv)] 74)) (hgrow.block b hbA hbB)).trans (al_cell hs2.2.2 _)⟩
      have hnew := hi2.app (by omega) hru (fun q hq => by
        have h1 := hub q hq
        have h2 := lt_of_block HI.out.ob
        have h3 : wr.drew.heap.size = wr.heap.size := rfl
        refine ⟨by omega, fun e => ?_⟩
        have h4 := (HI.out.own.lt q e).2
        omega) hown hgrow hat
      have hbel : Below w.heap.size w (w3.setCell ⟨RB + 1, 0, Option.none⟩ (.slice (some ⟨g, 0, Option.none⟩) (mv + 1) cap2)) := by
        have h1 := HB.out.trans ((hdr2.trans (hb2.mono hdr2.size)).mono HB.out.size)
        have h2 := h1.trans ((below_alloc w2 (Obj.cells #[Value.slice (some ⟨Bu, 0, Option.none⟩) (rwl mv) (rwl mv)] 74)).mono h1.size)
        exact (h2.grown hgrow h2.size (fun q hq => by have := hvo q hq; have := HRB.out; omega)).setCell (p := ⟨RB + 1, 0, Option.none⟩) (by rw [HRB.out]; exact Nat.le_succ _) _
      have HNEW := Lib.hid hnew
      have HBEL := Lib.hid hbel
      clear hnew hbel hia hvo hb3 hbB hbA hat hown hgrow hi2
      refine hK.out _ _ (fun hne => hs3) ?_
      clear hK K
      try simp only [Act.put, List.setIfInBounds_toArray, List.set_cons_zero, List.set_cons_succ]
      refine wpAnyF_one (i := 13) (by kernel_rfl) rfl (fun K hK => ?_)
      go_simp
      refine hK.out _ _ (fun hne => hs3) ?_
      clear hK K
      try simp only [Act.put, List.setIfInBounds_toArray, List.set_cons_zero, List.set_cons_succ]
      refine wpAnyF_one (i := 14) (by kernel_rfl) rfl (fun K hK => ?_)
      go_simp
      refine hK.out _ _ (fun hne => absurd rfl hne) ?_
      clear hK K
      try simp only [Act.put, List.setIfInBounds_toArray, List.set_cons_zero, List.set_cons_succ]
      refine wpAnyF_done (by kernel_rfl) ?_ _
      go_wp2
      go_roundw
      case rel => exact ⟨mv + 1, _, _, by go_num, by omega, HNEW.out, HBEL.out⟩
      case measure => simp [intOf]; omega
    · obtain rfl : J = A := by omega
      have c1 : wr.cell? ⟨RB + 1, 0, Option.none⟩ = some v := by rw [cell_of_row _ _ _ _ _ _ HI.out.ob]; rfl
      have c0 : wr.cell? ⟨RB, 0, Option.none⟩ = some (.slice Option.none 0 0) := by rw [cell_of_row _ _ _ _ _ _ HI.out.rb]; rfl
      have f0 := frozen_of_row wr RB 0 _ 58 HI.out.rb
      obtain ⟨pv, mv, cv, rfl⟩ := own_form HI.out.own
      have HFIN := Lib.hid (HI.out.finG (by omega) (.slice pv mv cv))
      have HBF : Hid (Below w.heap.size w (wr.setCell ⟨RB, 0, Option.none⟩ (.slice pv mv cv))) := Lib.hid (HB.out.setCell (p := ⟨RB, 0, Option.none⟩) (by rw [HRB.out]; exact Nat.le_refl _) _)
      have cf := ss (v := .slice pv mv cv) c0
      go_wp2
      refine bodyPost_ret (v := .agg #[.slice pv mv cv]) (by simp [results, Try.results25, go_sem, cf]) rfl ⟨_, rfl, ⟨pv, mv, cv, rfl, ?_⟩, HBF.out⟩
      rw [HRB.out]
      exact HFIN.out
theorem newO : NewO ObS := by
  intro x v w hs hk
  refine (newG x v w hs hk).mono ?_
  rintro e w' ⟨v', h1, ⟨p, m, c, h2, h3⟩, h4⟩
  exact ⟨v', h1, ⟨p, m, c, h2, h3.obp⟩, h4⟩
end Go.Proofs.Ytcbpkagegdfidaa
