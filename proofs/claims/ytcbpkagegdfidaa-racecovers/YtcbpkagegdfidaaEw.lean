/- The law's Events. -/
import Derived.Test.YtcbpkagegdfidaaEv
import Derived.Deep.RegionLaw
set_option linter.unusedSimpArgs false
set_option linter.unusedVariables false
namespace Go.Proofs.Ytcbpkagegdfidaa
open Go.RowKit

/-- An append whose run is known, as one step of a region that draws. -/
theorem step_app {P : Program} {ops : Array Oper} {o : Oper} {a : Act} {w : World} {K : Act → World → Prop} {Q : Exit → Act → World → Prop} {E : Prop} (hgd : Region.wanted o (yielded ops a.tmps) = true) (s x : Operand) (t : TypeId)
    (ho : o.op = .call { callee := .builtin .append, args := #[s, x], argTypes := #[t, t] }) (v u v' : Value) (w' : World) (hs : a.eval s = v) (hx : a.eval x = u)
    (hr : ∀ ty, (Builtin.append_ #[t, t] ty #[v, u]).run P w = .ok v' w') (hK : K (a.put o.dst v') w') : if Region.wanted o (yielded ops a.tmps) = true then Oper.wp P o a w K Q else E := by
  rw [if_pos hgd]
  unfold Oper.wp execOp
  simp only [ho, resolve, invoke, builtin, Sem.run_bind, Sem.run_pure, Result.andThen_ok, List.map_toArray, List.map_cons, List.map_nil, hs, hx, hr]
  exact hK
theorem MkS.grown {w w' : World} {u : Value} {m : List (Int × Bool)} {row : Option Nat} (h : MkS w u m) (hg : w.grownBy w' row) (hu : ∀ q, u.ownBlock = some q → row ≠ some q) : MkS w' u m := by
  obtain ⟨p, cap, rfl, h2, h3, h4⟩ := h
  refine ⟨p, cap, rfl, h2, h3, ?_⟩
  rcases h4 with h4 | ⟨b, o, rfl, hb, hr⟩
  · exact .inl h4
  · have hbr : some b ≠ row := fun e => hu b rfl e.symm
    have hk : w'.heap[b]? = w.heap[b]? := hg.block b hb hbr
    refine .inr ⟨b, o, rfl, Nat.lt_of_lt_of_le hb hg.size, fun i x hx => ?_⟩
    exact ⟨(World.cell?_of_block (w := w) hk).trans (hr i x hx).1, (World.cell?_of_block (w := w) hk).trans (hr i x hx).2⟩
theorem MkS.blk {w : World} {u : Value} {m : List (Int × Bool)} (h : MkS w u m) {q : Nat} (hq : u.ownBlock = some q) : q < w.heap.size := by
  obtain ⟨p, cap, rfl, h2, h3, h4⟩ := h
  rcases h4 with ⟨rfl, _⟩ | ⟨b, o, rfl, hb, hr⟩
  · cases hq
  · cases hq; exact hb
/-- Events in a row of the call's own. -/
def EvI (w : World) (base : Nat) (v : Value) (x : List (Int × List (Int × Bool))) : Prop := ∃ cs, w.ownsRow base 38 2 v x.length cs ∧ ∀ i e, x[i]? = some e → cs[i * 2]? = some (.int .i64 e.1) ∧ ∃ u, cs[i * 2 + 1]? = some u ∧ MkS w u e.2 ∧ ∀ q, u.ownBlock = some q → v.ownBlock ≠ some q
theorem EvI.nil (w : World) (base : Nat) : EvI w base (.slice Option.none 0 0) [] := ⟨[], World.ownsRow_nil _ _ _ _, fun i e h => by simp at h⟩
theorem EvI.kept {w w' : World} {base : Nat} {v : Value} {x : List (Int × List (Int × Bool))} (h : EvI w base v x) (k : Below w.heap.size w w') : EvI w' base v x := by
  obtain ⟨cs, h1, h2⟩ := h
  refine ⟨cs, h1.kept (row := Option.none) ⟨k.os, k.tape, k.output, k.size, fun q hq _ => k.block q hq⟩ (by cases hv : v.ownBlock <;> simp), fun i e hi => ?_⟩
  obtain ⟨h3, u, h4, h5, h6⟩ := h2 i e hi
  exact ⟨h3, u, h4, h5.kept k, h6⟩
theorem EvI.evs {w : World} {base : Nat} {v : Value} {x : List (Int × List (Int × Bool))} (h : EvI w base v x) : EvS w v x := by
  obtain ⟨cs, h0, h⟩ := h
  have h1 := h0
  rcases h0.2 with ⟨rfl, hn⟩ | ⟨g, cap, cur, rfl, hbg, hg, hn, hm, hs, ht⟩
  · exact ⟨Option.none, 0, by rw [hn], by omega, Nat.zero_le _, .inl ⟨rfl, List.eq_nil_of_length_eq_zero hn⟩⟩
  · refine ⟨_, cap, rfl, hn, hm, .inr ⟨g, 0, rfl, lt_of_block hg, fun i e hi => ?_⟩⟩
    have hil := (List.getElem?_eq_some_iff.1 hi).1
    obtain ⟨h3, u, h4, h5, _⟩ := h i e hi
    refine ⟨?_, u, ?_, h5⟩
    · rw [Nat.zero_add, h1.cellAt (i * 2) (by omega), h3]
    · rw [Nat.zero_add, h1.cellAt (i * 2 + 1) (by omega), h4]
theorem ev_info : ∃ i0, Try.prog.info? 38 = some i0 ∧ i0.zero = some (.agg #[.int .i64 0, .slice Option.none 0 0]) ∧ i0.size = 2 ∧ i0.bytes = 32 := by
  have h : (Try.prog.info? 38).map (fun i => (i.zero, i.size, i.bytes)) = some (some (.agg #[.int .i64 0, .slice Option.none 0 0]), 2, 32) := by kernel_rfl
  cases hq : Try.prog.info? 38 with
  | none => rw [hq] at h; cases h
  | some i =>
    rw [hq] at h
    simp only [Option.map_some, Option.some.injEq, Prod.mk.injEq] at h
    exact ⟨i, rfl, h.1, h.2.1, h.2.2⟩
/-- An event appended. -/
theorem app_ev (W : World) (base : Nat) (v u : Value) (x : List (Int × List (Int × Bool))) (t : Int) (m : List (Int × Bool)) (h : EvI W base v x) (hl : x.length ≤ 1000) (hb : base ≤ W.heap.size) (a : Addr) (h0 : W.cell? (a.add 0) = some (.int .i64 t)) (h1 : W.cell? (a.add 1) = some u) (hu : MkS W u m) (hq : ∀ q, u.ownBlock = some q → v.ownBlock ≠ some q) :
    ∃ v' w', (∀ ty, (Builtin.append_ #[25, 25] ty #[v, .slice (some a) 1 1]).run Try.prog W = .ok v' w') ∧ EvI w' base v' (x ++ [(t, m)]) ∧ W.grownBy w' v.ownBlock := by
  obtain ⟨i0, hi, hz, hs, hby⟩ := ev_info
  obtain ⟨cs, hown, hc⟩ := h
  obtain ⟨pu, cu, hue, _⟩ := id hu
  have hn : ∀ j c, ([Value.int .i64 t, u] : List Value)[j]? = some c → W.cell? (a.add j) = some c := by
    intro j c hj
    match j with
    | 0 => simp at hj; rw [← hj]; exact h0
    | 1 => simp at hj; rw [← hj]; exact h1
    | j + 2 => simp at hj
  have hone : ∀ c ∈ ([Value.int .i64 t, u] : List Value), c.oneCell' = true := by
    intro c hc
    simp only [List.mem_cons, List.not_mem_nil, or_false] at hc
    rcases hc with rfl | rfl
    · rfl
    · rw [hue]; rfl
  have key := fun ty => run_append_own_at (P := Try.prog) W base 25 ty 38 i0 _ 2 32 Try.underlying25 hi hz hs hby rfl (by omega) v x.length cs hown a 1 1 [Value.int .i64 t, u] rfl hn hone (by unfold maxLen; omega) (by omega) hb
  obtain ⟨v', w', hr, ho, hg, _, hat⟩ := key 0
  have hlen : cs.length = x.length * 2 := hown.1
  have hne : ∀ {c : Value} {mm : List (Int × Bool)}, MkS W c mm → (∀ q, c.ownBlock = some q → v.ownBlock ≠ some q) → MkS w' c mm ∧ ∀ q, c.ownBlock = some q → v'.ownBlock ≠ some q := fun {c mm} hc hcq => by
    refine ⟨hc.grown hg hcq, fun q hq e => ?_⟩
    rcases hat with hat | hat
    · exact hcq q hq (hat ▸ e)
    · rw [hat] at e
      have := hc.blk hq
      have := Option.some.inj e
      omega
  refine ⟨v', w', fun ty => ?_, ⟨cs ++ [Value.int .i64 t, u], by simpa using ho, fun i e hi => ?_⟩, hg⟩
  · obtain ⟨v2, w2, hr2, _⟩ := key ty
    exact hr
  · by_cases hix : i < x.length
    · rw [List.getElem?_append_left hix] at hi
      obtain ⟨h3, c, h4, h5, h6⟩ := hc i e hi
      obtain ⟨g1, g2⟩ := hne h5 h6
      exact ⟨by rw [List.getElem?_append_left (by omega)]; exact h3, c, by rw [List.getElem?_append_left (by omega)]; exact h4, g1, g2⟩
    · rw [List.getElem?_append_right (by omega)] at hi
      have hi0 : i - x.length = 0 := by
        have := (List.getElem?_eq_some_iff.1 hi).1
        simp at this; omega
      rw [hi0] at hi
      simp only [List.getElem?_cons_zero, Option.some.injEq] at hi
      subst hi
      have hie : i = x.length := by omega
      subst hie
      obtain ⟨g1, g2⟩ := hne hu hq
      refine ⟨?_, u, ?_, g1, g2⟩
      · rw [List.getElem?_append_right (by omega), show x.length * 2 - cs.length = 0 by omega]; rfl
      · rw [List.getElem?_append_right (by omega), show x.length * 2 + 1 - cs.length = 1 by omega]; rfl
/-- The events. -/
def evs (l : List (Int × List (Int × Bool))) : List (Int × List (Int × Bool)) := l.map fun e => (e.1 % 5, nrm e.2)
theorem evs_len (l : List (Int × List (Int × Bool))) : (evs l).length = l.length := by simp [evs]
theorem evs_take {l : List (Int × List (Int × Bool))} {j : Nat} {e : Int × List (Int × Bool)} (h : l[j]? = some e) : evs (l.take (j + 1)) = evs (l.take j) ++ [(e.1 % 5, nrm e.2)] := by
  rw [show l.take (j + 1) = l.take j ++ (l[j]?).toList from List.take_add_one, h]
  simp [evs]

set_option maxRecDepth 100000 in
set_option maxHeartbeats 8000000 in
theorem events_any (l : List (Int × List (Int × Bool))) (v : Value) (w : World) (hs : ES w v l) (hl : l.length ≤ 1000) (hok : eok l) (h8 : ∀ e ∈ l, e.2.length ≤ 1000) : Calls Try.prog 9 #[v] w fun e w' => ∃ v', e = .returned v' ∧ EvS w' v' (evs l) ∧ Below w.heap.size w w' := by
  obtain ⟨p, cap, rfl, hcap⟩ := hs.form
  obtain ⟨A, hA⟩ : ∃ A, l.length = A := ⟨_, rfl⟩
  rw [hA] at hs hcap hl ⊢
  have HS := Lib.hid hs
  have HA := Lib.hid hA
  have HOK := Lib.hid hok
  have H8 := Lib.hid h8
  clear hs hA hok h8
  go_enter Try.func9, Try.ntmps9
  go_wp2
  go_loopw [3, 8] (fun s3 s wr => ∃ (j : Nat), s = .int .i64 (j : Int) ∧ j ≤ A ∧ EvI wr w.heap.size s3 (evs (l.take j)) ∧ Below w.heap.size w wr) (fun _ s _ => A - (intOf s).toNat)
  case atStart => exact ⟨0, rfl, by omega, by simpa [evs] using EvI.nil _ _, Below.refl _ _⟩
  case round =>
    obtain ⟨j, rfl, hj, ha, hb⟩ := hrel
    have HI := Lib.hid ha
    have HB := Lib.hid hb
    clear ha hb
    by_cases hlt : j < A
    · obtain ⟨x, hx⟩ : ∃ x, l[j]? = some x := ⟨_, List.getElem?_eq_getElem (by rw [HA.out]; exact hlt)⟩
      obtain ⟨b, o, q, m, c, rfl, hbb, hm, hc⟩ := HS.out.one hx
      obtain ⟨c0, c1, _⟩ := hc wr HB.out
      have hxm := List.mem_of_getElem? hx
      obtain ⟨z, ms⟩ := x
      obtain ⟨⟨hz0, hz1⟩, hsm⟩ := HOK.out _ hxm
      have hml := H8.out _ hxm
      simp only at hz0 hz1 hsm hml c0 hm
      obtain ⟨n, rfl⟩ : ∃ n : Nat, z = (n : Int) := ⟨z.toNat, by omega⟩
      have HX := Lib.hid hx
      have HC := Lib.hid hc
      have HSM := Lib.hid hsm
      clear hx hc hm hxm hsm
      have hn5 : IntKind.i64.wrap ((n : Int) % 5) = (n : Int) % 5 := by rw [IntKind.wrap_i64]; omega
      have hn7 : (n : Int).tmod 5 = (n : Int) % 5 := Int.tmod_eq_emod_of_nonneg (by omega)
      have hn6 : IntKind.u8.wrap ((n : Int) % 5) = (n : Int) % 5 := by rw [IntKind.wrap_u8]; omega
      obtain ⟨Y, hY⟩ : ∃ Y, wr.alloc (Obj.cells #[Value.int IntKind.u8 (n : Int), Value.slice q m c] 54) = Y := ⟨_, rfl⟩
      have hg := heap_alloc_new wr (Obj.cells #[Value.int IntKind.u8 (n : Int), Value.slice q m c] 54)
      rw [hY] at hg
      have hYs : Y.heap.size = wr.heap.size + 1 := by rw [← hY]; simp
      have hYb : Below wr.heap.size wr Y := by rw [← hY]; exact below_alloc wr _
      have mk : ∀ W, Below w.heap.size w W → W.heap[wr.heap.size]? = some (.cells #[Value.int IntKind.u8 (n : Int), Value.slice q m c] 54 (0, 0)) → (Below w.heap.size w W ∧ W.cell? ⟨wr.heap.size, 0, Option.none⟩ = some (.int .u8 (n : Int)) ∧ W.cell? ⟨wr.heap.size, 1, Option.none⟩ = some (.slice q m c)) := fun W k h => ⟨k, by rw [cell_of_row _ _ _ _ _ _ h]; rfl, by rw [cell_of_row _ _ _ _ _ _ h]; rfl⟩
      have hwY : Below w.heap.size w Y := HB.out.trans (hYb.mono HB.out.size)
      have keep : ∀ W, Below Y.heap.size Y W → (Below w.heap.size w W ∧ W.cell? ⟨wr.heap.size, 0, Option.none⟩ = some (.int .u8 (n : Int)) ∧ W.cell? ⟨wr.heap.size, 1, Option.none⟩ = some (.slice q m c)) := fun W k => mk W (hwY.trans (k.mono hwY.size)) ((k.block _ (by omega)).trans hg)
      have hIY := HI.out.kept hYb
      have K1 : Hid (∀ W, (Below w.heap.size w W ∧ W.cell? ⟨wr.heap.size, 0, Option.none⟩ = some (.int .u8 (n : Int)) ∧ W.cell? ⟨wr.heap.size, 1, Option.none⟩ = some (.slice q m c)) → Below Y.heap.size Y W → Calls Try.prog 24 #[.slice q m c] W fun e w' => ∃ v', e = .returned v' ∧ MkS w' v' ms ∧ Below Y.heap.size Y w' ∧ (Below w.heap.size w w' ∧ w'.cell? ⟨wr.heap.size, 0, Option.none⟩ = some (.int .u8 (n : Int)) ∧ w'.cell? ⟨wr.heap.size, 1, Option.none⟩ = some (.slice q m c))) := Lib.hid fun W k kY => by
        have ht := (HC.out W k.1).2.2
        refine (marks_any ms _ W ht hml HSM.out).mono ?_
        rintro e w' ⟨v', rfl, h1, h2⟩
        have h3 := kY.trans (h2.mono kY.size)
        exact ⟨v', rfl, h1, h3, keep w' h3⟩
      have K2 : Hid (∀ W v, (Below w.heap.size w W ∧ W.cell? ⟨wr.heap.size, 0, Option.none⟩ = some (.int .u8 (n : Int)) ∧ W.cell? ⟨wr.heap.size, 1, Option.none⟩ = some (.slice q m c)) → Below Y.heap.size Y W → MkS W v ms → Calls Try.prog 22 #[.int .i64 ((n : Int) % 5), v] W fun e w' => ∃ p M k, e = .returned (.agg #[.int .i64 ((n : Int) % 5), .slice p M k]) ∧ (Below w.heap.size w w' ∧ w'.cell? ⟨wr.heap.size, 0, Option.none⟩ = some (.int .u8 (n : Int)) ∧ w'.cell? ⟨wr.heap.size, 1, Option.none⟩ = some (.slice q m c)) ∧
          (Below w.heap.size w (w'.alloc (.cells #[.int .i64 ((n : Int) % 5), .slice p M k] 38)) ∧ (w'.alloc (.cells #[.int .i64 ((n : Int) % 5), .slice p M k] 38)).cell? ⟨wr.heap.size, 0, Option.none⟩ = some (.int .u8 (n : Int)) ∧ (w'.alloc (.cells #[.int .i64 ((n : Int) % 5), .slice p M k] 38)).cell? ⟨wr.heap.size, 1, Option.none⟩ = some (.slice q m c)) ∧
          ∃ v6 w6, (∀ ty, (Builtin.append_ #[25, 25] ty #[u3, .slice (some ⟨w'.heap.size, 0, Option.none⟩) 1 1]).run Try.prog (w'.alloc (.cells #[.int .i64 ((n : Int) % 5), .slice p M k] 38)) = .ok v6 w6) ∧ EvI w6 w.heap.size v6 (evs (l.take (j + 1))) ∧ (Below w.heap.size w w6 ∧ w6.cell? ⟨wr.heap.size, 0, Option.none⟩ = some (.int .u8 (n : Int)) ∧ w6.cell? ⟨wr.heap.size, 1, Option.none⟩ = some (.slice q m c))) := Lib.hid fun W v k kY hm => by
        refine (new_blk ((n : Int) % 5) ms v W hm hml).mono ?_
        rintro e w' ⟨v', rfl, h1, hq, h2⟩
        have h3 := kY.trans (h2.mono kY.size)
        obtain ⟨p, K, rfl, hpk⟩ := id h1
        have h4 : Below Y.heap.size Y (w'.alloc (.cells #[.int .i64 ((n : Int) % 5), .slice p (nrm ms).length K] 38)) := h3.alloc h3.size _
        refine ⟨p, _, K, rfl, keep w' h3, keep _ h4, ?_⟩
        have hn := heap_alloc_new w' (Obj.cells #[Value.int .i64 ((n : Int) % 5), .slice p (nrm ms).length K] 38)
        have hi := hIY.kept h4
        have hlt : (evs (l.take j)).length ≤ 1000 := by rw [evs_len, List.length_take]; omega
        obtain ⟨v6, w6, hr, hi6, hg6⟩ := app_ev _ w.heap.size u3 (.slice p (nrm ms).length K) (evs (l.take j)) ((n : Int) % 5) (nrm ms) hi hlt (Nat.le_trans hwY.size h4.size) ⟨w'.heap.size, 0, Option.none⟩ (by rw [add_lit, cell_of_row _ _ _ _ _ _ hn]; rfl) (by rw [add_lit, cell_of_row _ _ _ _ _ _ hn]; rfl) (h1.kept (below_alloc w' _))
          (fun g hgq e => by
            have hge := hq g hgq
            obtain ⟨cs, hown, _⟩ := HI.out
            have := (hown.lt g e).2
            have := kY.size
            omega)
        refine ⟨v6, w6, hr, by rw [evs_take HX.out]; exact hi6, ?_⟩
        have hrow : ∀ g, u3.ownBlock = some g → w.heap.size ≤ g ∧ g < wr.heap.size := fun g hg => by
          obtain ⟨cs, hown, _⟩ := HI.out
          exact hown.lt g hg
        have h5 : Below w.heap.size w w6 := (hwY.trans (h4.mono hwY.size)).grown hg6 (Nat.le_trans hwY.size h4.size) fun g hg => (hrow g hg).1
        refine mk w6 h5 ?_
        have hb6 : w6.heap[wr.heap.size]? = (w'.alloc (.cells #[.int .i64 ((n : Int) % 5), .slice p (nrm ms).length K] 38)).heap[wr.heap.size]? := hg6.block _ (by have := h4.size; omega) (fun e => by have := hrow _ e.symm; omega)
        rw [hb6, h4.block _ (by omega), hg]
      have hs0 := keep Y.drew ⟨rfl, rfl, rfl, Nat.le_refl _, fun _ _ => rfl⟩
      have hb0 : Below Y.heap.size Y Y.drew := ⟨rfl, rfl, rfl, Nat.le_refl _, fun _ _ => rfl⟩
      have HY := Lib.hid hY
      clear hg hYs hYb mk hwY keep hIY hY
      go_wp2_with fail
      rw [HY.out]
      go_region_held3 (fun w' => (Below w.heap.size w w' ∧ w'.cell? ⟨wr.heap.size, 0, Option.none⟩ = some (.int .u8 (n : Int)) ∧ w'.cell? ⟨wr.heap.size, 1, Option.none⟩ = some (.slice q m c)))
        (first | exact hs0 | assumption)
        (first
          | (refine step_app (by rfl) (.tmp 12) (.tmp 21) 25 (by rfl) _ _ v6 w6 (by rfl) (by rfl) hr ?_)
          | (go_at_call 24; refine (K1.out _ (by assumption) (by assumption)).mono ?_; rintro e w' ⟨v2, rfl, hm2, hbY, hsA⟩)
          | (go_at_call 22; refine (K2.out _ _ (by assumption) (by assumption) (by assumption)).mono ?_; rintro e w' ⟨p4, M4, k4, rfl, hsB, hsC, v6, w6, hr, hi6, hsD⟩))
      have HI6 := Lib.hid hi6
      have HB6 := Lib.hid hsD.1
      clear hsA hsB hsC hsD hr hi6 hm2 hbY hs0 hb0
      go_wp2
      go_roundw
      case rel => exact ⟨j + 1, by go_num, by omega, HI6.out, HB6.out⟩
      case measure => simp [intOf]; omega
    · obtain rfl : j = A := by omega
      go_wp2
      go_ret
      have h := HI.out
      rw [List.take_of_length_le (by rw [HA.out]; exact Nat.le_refl _)] at h
      exact ⟨_, rfl, h.evs, HB.out⟩
end Go.Proofs.Ytcbpkagegdfidaa
