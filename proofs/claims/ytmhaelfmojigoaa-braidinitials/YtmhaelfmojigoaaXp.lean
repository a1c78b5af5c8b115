/- Events whose marks lie in given blocks: clone and swap keep that. -/
import Derived.Test.YtmhaelfmojigoaaSp
import Derived.Test.YtmhaelfmojigoaaEq
import Derived.Test.YtmhaelfmojigoaaEk
set_option linter.unusedSimpArgs false
set_option linter.unusedVariables false
namespace Go.Proofs.Ytmhaelfmojigoaa
open Go.RowKit

/-- Marks, and where they lie. -/
def MkP (P : Value → Prop) (w : World) (u : Value) (m : List (Int × Bool)) : Prop := MkS w u m ∧ P u
theorem MkP.kept {P : Value → Prop} {w w' : World} {u : Value} {m : List (Int × Bool)} (h : MkP P w u m) (k : Below w.heap.size w w') : MkP P w' u m := ⟨h.1.kept k, h.2⟩
theorem MkP.grown {P : Value → Prop} {w w' : World} {u : Value} {m : List (Int × Bool)} {row : Option Nat} (h : MkP P w u m) (hg : w.grownBy w' row) (hu : ∀ q, u.ownBlock = some q → row ≠ some q) : MkP P w' u m := ⟨h.1.grown hg hu, h.2⟩
variable {P : Value → Prop}
def EvRP (P : Value → Prop) (w : World) (b o : Nat) (x : List (Int × List (Int × Bool))) : Prop := ∀ i e, x[i]? = some e → w.cell? ⟨b, o + i * 2, Option.none⟩ = some (.int .i64 e.1) ∧ ∃ u, w.cell? ⟨b, o + i * 2 + 1, Option.none⟩ = some u ∧ MkP P w u e.2
def EvSP (P : Value → Prop) (w : World) (v : Value) (x : List (Int × List (Int × Bool))) : Prop := ∃ p cap, v = .slice p x.length cap ∧ x.length ≤ cap ∧ cap ≤ maxLen ∧ ((p = Option.none ∧ x = []) ∨ ∃ b o, p = some ⟨b, o, Option.none⟩ ∧ b < w.heap.size ∧ EvRP P w b o x)
theorem EvRP.kept {w w' : World} {b o : Nat} {x : List (Int × List (Int × Bool))} (h : EvRP P w b o x) (hb : b < w.heap.size) (k : Below w.heap.size w w') : EvRP P w' b o x := fun i e hi => by
  obtain ⟨h1, u, h2, h3⟩ := h i e hi
  exact ⟨(k.cell (p := ⟨b, _, Option.none⟩) hb).trans h1, u, (k.cell (p := ⟨b, _, Option.none⟩) hb).trans h2, h3.kept k⟩
theorem EvSP.kept {w w' : World} {v : Value} {x : List (Int × List (Int × Bool))} (h : EvSP P w v x) (k : Below w.heap.size w w') : EvSP P w' v x := by
  obtain ⟨p, cap, h1, h2, h3, h4⟩ := h
  refine ⟨p, cap, h1, h2, h3, ?_⟩
  rcases h4 with h4 | ⟨b, o, hp, hb, hr⟩
  · exact .inl h4
  · exact .inr ⟨b, o, hp, Nat.lt_of_lt_of_le hb k.size, hr.kept hb k⟩
def EvIP (P : Value → Prop) (w : World) (base : Nat) (v : Value) (x : List (Int × List (Int × Bool))) : Prop := ∃ cs, w.ownsRow base 39 2 v x.length cs ∧ ∀ i e, x[i]? = some e → cs[i * 2]? = some (.int .i64 e.1) ∧ ∃ u, cs[i * 2 + 1]? = some u ∧ MkP P w u e.2 ∧ ∀ q, u.ownBlock = some q → v.ownBlock ≠ some q
theorem EvIP.nil (w : World) (base : Nat) : EvIP P w base (.slice Option.none 0 0) [] := ⟨[], World.ownsRow_nil _ _ _ _, fun i e h => by simp at h⟩
theorem EvIP.kept {w w' : World} {base : Nat} {v : Value} {x : List (Int × List (Int × Bool))} (h : EvIP P w base v x) (k : Below w.heap.size w w') : EvIP P w' base v x := by
  obtain ⟨cs, h1, h2⟩ := h
  refine ⟨cs, h1.kept (row := Option.none) ⟨k.os, k.tape, k.output, k.size, fun q hq _ => k.block q hq⟩ (by cases hv : v.ownBlock <;> simp), fun i e hi => ?_⟩
  obtain ⟨h3, u, h4, h5, h6⟩ := h2 i e hi
  exact ⟨h3, u, h4, h5.kept k, h6⟩
theorem EvIP.evs {w : World} {base : Nat} {v : Value} {x : List (Int × List (Int × Bool))} (h : EvIP P w base v x) : EvSP P w v x := by
  obtain ⟨cs, h0, h⟩ := h
  have h1 := h0
  rcases h0.2 with ⟨rfl, hn⟩ | ⟨g, cap, cur, rfl, hbg, hg, hn, hm, hs, ht⟩
  · exact ⟨Option.none, 0, by rw [hn], by omega, Nat.zero_le _, .inl ⟨rfl, List.eq_nil_of_length_eq_zero hn⟩⟩
  · refine ⟨_, cap, rfl, hn, hm, .inr ⟨g, 0, rfl, lt_of_block hg, fun i e hi => ?_⟩⟩
    have hil := (List.getElem?_eq_some_iff.1 hi).1
    obtain ⟨h3, u, h4, h5, _⟩ := h i e hi
    refine ⟨?_, u, ?_, h5⟩
    · rw [Nat.zero_add, h1.cellAt (i * 2) (by omega), h3]
    · rw [Nat.zero_add, h1.cellAt (i * 2 + 1) (by omega), h4]
theorem EvSP.toS {w : World} {v : Value} {x : List (Int × List (Int × Bool))} (h : EvSP P w v x) : EvS w v x := by
  obtain ⟨p, cap, h1, h2, h3, h4⟩ := h
  refine ⟨p, cap, h1, h2, h3, ?_⟩
  rcases h4 with h4 | ⟨b, o, hp, hb, hr⟩
  · exact .inl h4
  · exact .inr ⟨b, o, hp, hb, fun i e hi => by
      obtain ⟨h1, u, h2, h3⟩ := hr i e hi
      exact ⟨h1, u, h2, h3.1⟩⟩
/-- In a world each slice of marks lies in a block that is there. -/
theorem EvS.toP {w : World} {v : Value} {x : List (Int × List (Int × Bool))} (h : EvS w v x) : EvSP (fun u => ∀ q, u.ownBlock = some q → q < w.heap.size) w v x := by
  obtain ⟨p, cap, h1, h2, h3, h4⟩ := h
  refine ⟨p, cap, h1, h2, h3, ?_⟩
  rcases h4 with h4 | ⟨b, o, hp, hb, hr⟩
  · exact .inl h4
  · exact .inr ⟨b, o, hp, hb, fun i e hi => by
      obtain ⟨h1, u, h2, h3⟩ := hr i e hi
      exact ⟨h1, u, h2, h3, fun q hq => h3.blk hq⟩⟩
theorem EvSP.mono {Q : Value → Prop} (hPQ : ∀ u, P u → Q u) {w : World} {v : Value} {x : List (Int × List (Int × Bool))} (h : EvSP P w v x) : EvSP Q w v x := by
  obtain ⟨p, cap, h1, h2, h3, h4⟩ := h
  refine ⟨p, cap, h1, h2, h3, ?_⟩
  rcases h4 with h4 | ⟨b, o, hp, hb, hr⟩
  · exact .inl h4
  · exact .inr ⟨b, o, hp, hb, fun i e hi => by
      obtain ⟨h1, u, h2, h3⟩ := hr i e hi
      exact ⟨h1, u, h2, h3.1, hPQ _ h3.2⟩⟩
theorem EvSP.blk {w : World} {v : Value} {x : List (Int × List (Int × Bool))} (h : EvSP P w v x) {q : Nat} (hq : v.ownBlock = some q) : q < w.heap.size := by
  obtain ⟨p, cap, rfl, h2, h3, h4⟩ := h
  rcases h4 with ⟨rfl, _⟩ | ⟨b, o, rfl, hb, _⟩
  · cases hq
  · cases hq; exact hb
/-- One row may have been written: neither the events' own, nor their marks'. -/
theorem EvSP.grown {w w' : World} {v : Value} {x : List (Int × List (Int × Bool))} {row : Option Nat} (h : EvSP P w v x) (hg : w.grownBy w' row) (hv : ∀ q, v.ownBlock = some q → row ≠ some q) (hP : ∀ u, P u → ∀ q, u.ownBlock = some q → row ≠ some q) : EvSP P w' v x := by
  obtain ⟨p, cap, rfl, h2, h3, h4⟩ := h
  refine ⟨p, cap, rfl, h2, h3, ?_⟩
  rcases h4 with h4 | ⟨b, o, rfl, hb, hr⟩
  · exact .inl h4
  · have hk : w'.heap[b]? = w.heap[b]? := hg.block b hb (fun e => hv b rfl e.symm)
    refine .inr ⟨b, o, rfl, Nat.lt_of_lt_of_le hb hg.size, fun i e hi => ?_⟩
    obtain ⟨h1, u, h2, h3⟩ := hr i e hi
    exact ⟨(World.cell?_of_block (w := w) hk).trans h1, u, (World.cell?_of_block (w := w) hk).trans h2, h3.grown hg (hP u h3.2)⟩
theorem EvRP.at {w : World} {b o i : Nat} {x : List (Int × List (Int × Bool))} {e : Int × List (Int × Bool)} (h : EvRP P w b o x) (hb : b < w.heap.size) (hx : x[i]? = some e) :
    ∃ q m c, ∀ W, Below w.heap.size w W → W.cell? ⟨b, o + i * 2, Option.none⟩ = some (.int .i64 e.1) ∧ W.cell? ⟨b, o + i * 2 + 1, Option.none⟩ = some (.slice q m c) ∧ MkP P W (.slice q m c) e.2 := by
  obtain ⟨h1, u, h2, h3⟩ := h i e hx
  obtain ⟨q, c, rfl, _⟩ := id h3.1
  exact ⟨q, _, c, fun W k => ⟨(k.cell (p := ⟨b, _, Option.none⟩) hb).trans h1, (k.cell (p := ⟨b, _, Option.none⟩) hb).trans h2, h3.kept k⟩⟩
theorem EvRP.cell {w : World} {b o : Nat} {x : List (Int × List (Int × Bool))} (h : EvRP P w b o x) {j : Nat} (hj : j < x.length * 2) : ∃ u, w.cell? ⟨b, o + j, Option.none⟩ = some u ∧ u.oneCell' = true := by
  obtain ⟨e, he⟩ := ev_half hj
  obtain ⟨h1, u, h2, h3⟩ := h _ e he
  obtain ⟨pu, cu, hue, _⟩ := id h3.1
  rcases Nat.mod_two_eq_zero_or_one j with hm | hm
  · exact ⟨_, by rw [show o + j = o + j / 2 * 2 by omega]; exact h1, rfl⟩
  · exact ⟨u, by rw [show o + j = o + j / 2 * 2 + 1 by omega]; exact h2, by rw [hue]; rfl⟩
theorem clone_evp (x : List (Int × List (Int × Bool))) (v : Value) (w : World) (hs : EvSP P w v x) (hl : x.length ≤ 1000) : Calls Try.prog 23 #[v] w fun e w' => ∃ v', e = .returned v' ∧ EvIP P w' w.heap.size v' x ∧ Below w.heap.size w w' := by
  obtain ⟨p, cap, rfl, hcap, hcm, h4⟩ := hs
  rcases h4 with ⟨rfl, rfl⟩ | ⟨b, o, rfl, hb, hr⟩
  · refine (Try.slices_Clone_nil_f23 0 cap w).mono ?_
    rintro e w' ⟨rfl, rfl⟩
    exact ⟨_, rfl, EvIP.nil _ _, Below.refl _ _⟩
  · obtain ⟨i0, hi, hz, hsz, hby⟩ := ev_info
    have hlen : (cellsAt w b o (x.length * 2)).length = x.length * 2 := by simp [cellsAt]
    have hat : ∀ (j : Nat) u, (cellsAt w b o (x.length * 2))[j]? = some u → w.cell? ⟨b, o + j, Option.none⟩ = some u := by
      intro j u hu
      have hj : j < x.length * 2 := by rw [← hlen]; exact (List.getElem?_eq_some_iff.1 hu).1
      obtain ⟨u', h1, _⟩ := hr.cell hj
      rw [cellsAt_get hj h1] at hu
      rw [h1, hu]
    have hone : ∀ u ∈ cellsAt w b o (x.length * 2), u.oneCell' = true := by
      intro u hu
      obtain ⟨j, hj⟩ := List.mem_iff_getElem?.1 hu
      have hjl : j < x.length * 2 := by rw [← hlen]; exact (List.getElem?_eq_some_iff.1 hj).1
      obtain ⟨u', h1, h2⟩ := hr.cell hjl
      rw [cellsAt_get hjl h1] at hj
      cases hj
      exact h2
    refine (Try.slices_Clone_f23 i0 _ 2 32 hi hz hsz hby rfl (by omega) Try.sizeOf39 b o x.length cap _ w hlen (by unfold maxLen; omega) (by omega) hat hone).mono ?_
    rintro e w' ⟨v', rfl, hown, _, hbel⟩
    refine ⟨v', rfl, ⟨_, hown, fun i e he => ?_⟩, hbel⟩
    have hi2 := (List.getElem?_eq_some_iff.1 he).1
    obtain ⟨h1, u, h2, h3⟩ := hr i e he
    refine ⟨cellsAt_get (by omega) h1, u, cellsAt_get (by omega) (by rw [← Nat.add_assoc]; exact h2), h3.kept hbel, fun q hq e => ?_⟩
    have := h3.1.blk hq
    have := (hown.lt q e).1
    omega
set_option maxRecDepth 100000 in
set_option maxHeartbeats 8000000 in
theorem swap_outp (x : List (Int × List (Int × Bool))) (i : Nat) (v : Value) (w : World) (hs : EvSP P w v x) (hl : x.length ≤ 1000) (hi : x.length ≤ i + 1) (hi2 : i ≤ 1000) :
    Calls Try.prog 20 #[v, .int .i64 (i : Int)] w fun e w' => ∃ v', e = .returned v' ∧ EvIP P w' w.heap.size v' (swp edep x i) ∧ Below w.heap.size w w' := by
  have HC := Lib.hid (clone_evp x v w hs hl)
  obtain ⟨p, cap, rfl, hcap, hcm, h4⟩ := hs
  have HSW := Lib.hid (swp_out (dep := edep) hi)
  obtain ⟨A, hA⟩ : ∃ A, x.length = A := ⟨_, rfl⟩
  rw [hA] at HC hcap hl hi ⊢
  have hlt : decide ((i : Int) + 1 < (A : Int)) = false := decide_eq_false (by omega)
  have h0 : (0 : Int) ≤ (i : Int) := by omega
  clear h4 hA
  go_enter Try.func20, Try.ntmps20
  go_wp2_with (go_at_call 23; refine Hid.out ?_)
  refine Lib.hid ?_
  refine HC.out.mono ?_
  rintro e w1 ⟨v1, rfl, hv, hb⟩
  have HV := Lib.hid hv
  have HB := Lib.hid hb
  clear hv hb
  go_wp2_with fail
  go_quiet (fail)
  have HZ : Hid (EvIP P (w1.drewN nq) w.heap.size v1 (swp edep x i) ∧ Below w.heap.size w (w1.drewN nq)) := Lib.hid ⟨by rw [HSW.out]; exact HV.out.kept ⟨rfl, rfl, rfl, Nat.le_refl _, fun _ _ => rfl⟩, HB.out.trans ⟨rfl, rfl, rfl, Nat.le_refl _, fun _ _ => rfl⟩⟩
  generalize w1.drewN nq = w9 at HZ ⊢
  go_wp2
  go_ret
  exact ⟨_, rfl, HZ.out.1, HZ.out.2⟩
theorem mk_setp {W : World} {g o : Nat} {v u : Value} {m : List (Int × Bool)} (h : MkP P W u m) (h2 : ∀ q, u.ownBlock = some q → some g ≠ some q) : MkP P (W.setCell ⟨g, o, Option.none⟩ v) u m := h.grown (gb_set W ⟨g, o, Option.none⟩ v) h2
set_option maxHeartbeats 1600000 in
/-- Two events exchanged in a row of the call's own. -/
theorem xch_evp {w : World} {base g cap i A : Nat} {x : List (Int × List (Int × Bool))} {e f : Int × List (Int × Bool)} {pa pb : Value} (h : EvIP P w base (.slice (some ⟨g, 0, Option.none⟩) A cap) x) (hA : x.length = A) (he : x[i]? = some e) (hf : x[i + 1]? = some f) (cA : A ≤ cap) (cm : cap ≤ maxLen)
    (c0 : w.cell? ⟨g, i * 2, Option.none⟩ = some (.int .i64 e.1)) (c1 : w.cell? ⟨g, i * 2 + 1, Option.none⟩ = some pa) (c2 : w.cell? ⟨g, (i + 1) * 2, Option.none⟩ = some (.int .i64 f.1)) (c3 : w.cell? ⟨g, (i + 1) * 2 + 1, Option.none⟩ = some pb) (hg : g < w.heap.size) :
    EvSP P ((((w.setCell ⟨g, i * 2, Option.none⟩ (.int .i64 f.1)).setCell ⟨g, i * 2 + 1, Option.none⟩ pb).setCell ⟨g, (i + 1) * 2, Option.none⟩ (.int .i64 e.1)).setCell ⟨g, (i + 1) * 2 + 1, Option.none⟩ pa).drew (.slice (some ⟨g, 0, Option.none⟩) A cap) (xch x i) := by
  have key : ∀ X, (((w.setCell ⟨g, i * 2, Option.none⟩ (.int .i64 f.1)).setCell ⟨g, i * 2 + 1, Option.none⟩ pb).setCell ⟨g, (i + 1) * 2, Option.none⟩ (.int .i64 e.1)).setCell ⟨g, (i + 1) * 2 + 1, Option.none⟩ pa = X → EvSP P X (.slice (some ⟨g, 0, Option.none⟩) A cap) (xch x i) := by
    intro X hX
    subst hX
    obtain ⟨cs, hown, hc⟩ := h
    rw [hA] at hown
    have hev : ∀ k y, x[k]? = some y → w.cell? ⟨g, k * 2, Option.none⟩ = some (.int .i64 y.1) ∧ ∃ u, w.cell? ⟨g, k * 2 + 1, Option.none⟩ = some u ∧ MkP P w u y.2 ∧ ∀ q, u.ownBlock = some q → some g ≠ some q := by
      intro k y hy
      have hk := (List.getElem?_eq_some_iff.1 hy).1
      obtain ⟨h1, u, h2, h3, h4⟩ := hc k y hy
      exact ⟨by rw [hown.cellAt (k * 2) (by omega), h1], u, by rw [hown.cellAt (k * 2 + 1) (by omega), h2], h3, h4⟩
    have kept : ∀ u m, MkP P w u m → (∀ q, u.ownBlock = some q → some g ≠ some q) → MkP P ((((w.setCell ⟨g, i * 2, Option.none⟩ (.int .i64 f.1)).setCell ⟨g, i * 2 + 1, Option.none⟩ pb).setCell ⟨g, (i + 1) * 2, Option.none⟩ (.int .i64 e.1)).setCell ⟨g, (i + 1) * 2 + 1, Option.none⟩ pa) u m := fun u m h1 h2 =>
      mk_setp (mk_setp (mk_setp (mk_setp h1 h2) h2) h2) h2
    obtain ⟨e1, ea, e2, e3, e4⟩ := hev i e he
    obtain ⟨f1, fa, f2, f3, f4⟩ := hev (i + 1) f hf
    have ea' : pa = ea := Option.some.inj (c1.symm.trans e2)
    have fa' : pb = fa := Option.some.inj (c3.symm.trans f2)
    subst ea'
    subst fa'
    have hx : xch x i = (x.set i f).set (i + 1) e := by unfold xch; rw [he, hf]
    have hil := (List.getElem?_eq_some_iff.1 he).1
    have hfl := (List.getElem?_eq_some_iff.1 hf).1
    refine ⟨_, cap, by rw [xch_len, hA], by rw [xch_len, hA]; exact cA, cm, .inr ⟨g, 0, rfl, by simpa using hg, fun k y hy => ?_⟩⟩
    rw [Nat.zero_add]
    rw [hx] at hy
    by_cases hk1 : i + 1 = k
    · subst hk1
      rw [List.getElem?_set_self (by rw [List.length_set]; omega)] at hy
      have hye := Option.some.inj hy
      subst hye
      exact ⟨(so (by omega)).trans (ss ((so (by omega)).trans ((so (by omega)).trans c2))), pa, ss ((so (by omega)).trans ((so (by omega)).trans ((so (by omega)).trans c3))), kept _ _ e3 e4⟩
    · rw [List.getElem?_set_ne hk1] at hy
      by_cases hk : i = k
      · subst hk
        rw [List.getElem?_set_self hil] at hy
        have hye := Option.some.inj hy
        subst hye
        exact ⟨(so (by omega)).trans ((so (by omega)).trans ((so (by omega)).trans (ss c0))), pb, (so (by omega)).trans ((so (by omega)).trans (ss ((so (by omega)).trans c1))), kept _ _ f3 f4⟩
      · rw [List.getElem?_set_ne hk] at hy
        obtain ⟨h1, u, h2, h3, h4⟩ := hev k y hy
        exact ⟨(so (by omega)).trans ((so (by omega)).trans ((so (by omega)).trans ((so (by omega)).trans h1))), u, (so (by omega)).trans ((so (by omega)).trans ((so (by omega)).trans ((so (by omega)).trans h2))), kept _ _ h3 h4⟩
  exact (key _ rfl).kept ⟨rfl, rfl, rfl, Nat.le_refl _, fun _ _ => rfl⟩

set_option maxRecDepth 100000 in
set_option maxHeartbeats 16000000 in
theorem swap_inp (x : List (Int × List (Int × Bool))) (i : Nat) (v : Value) (w : World) (hs : EvSP P w v x) (hl : x.length ≤ 1000) (hi : i + 1 < x.length) (h8 : ∀ e ∈ x, e.2.length ≤ 1000) :
    Calls Try.prog 20 #[v, .int .i64 (i : Int)] w fun e w' => ∃ v', e = .returned v' ∧ EvSP P w' v' (swp edep x i) ∧ (∀ q, v'.ownBlock = some q → w.heap.size ≤ q) ∧ Below w.heap.size w w' := by
  have HC := Lib.hid (clone_evp x v w hs hl)
  obtain ⟨p, cap, rfl, hcap, hcm, h4⟩ := hs
  obtain ⟨e, he⟩ : ∃ e, x[i]? = some e := ⟨_, List.getElem?_eq_getElem (by omega)⟩
  obtain ⟨f, hf⟩ : ∃ f, x[i + 1]? = some f := ⟨_, List.getElem?_eq_getElem (by omega)⟩
  have hsw := swp_in (dep := edep) he hf
  obtain ⟨A, hA⟩ : ∃ A, x.length = A := ⟨_, rfl⟩
  rw [hA] at HC hcap hl hi ⊢
  obtain ⟨b0, o0, rfl, hbb, hr⟩ : ∃ b o, p = some ⟨b, o, Option.none⟩ ∧ b < w.heap.size ∧ EvRP P w b o x := by
    rcases h4 with ⟨_, h⟩ | h
    · rw [h] at he; simp at he
    · exact h
  obtain ⟨qf, mf, cf, hfc⟩ := hr.at hbb he
  obtain ⟨qg, mg, cg, hgc⟩ := hr.at hbb hf
  have hle := h8 e (List.mem_of_getElem? he)
  have hlf := h8 f (List.mem_of_getElem? hf)
  have HE := Lib.hid he
  have HF := Lib.hid hf
  have HSW := Lib.hid hsw
  have HA := Lib.hid hA
  have HFC := Lib.hid hfc
  have HGC := Lib.hid hgc
  have h0 : (0 : Int) ≤ (i : Int) := by omega
  have h1 : (i : Int) + 1 < (A : Int) := by omega
  have h2 : (i : Int) < (A : Int) := by omega
  have h3 : (0 : Int) ≤ (i : Int) + 1 := by omega
  have hw : IntKind.i64.wrap ((i : Int) + 1) = (i : Int) + 1 := by rw [IntKind.wrap_i64]; omega
  have d0 : decide ((0 : Int) ≤ (i : Int)) = true := decide_eq_true h0
  have d1 : decide ((i : Int) + 1 < (A : Int)) = true := decide_eq_true h1
  clear h4 he hf hr hA hsw hfc hgc h8
  go_enter Try.func20, Try.ntmps20
  go_wp2_with (go_at_call 23; refine Hid.out ?_)
  refine Lib.hid ?_
  refine HC.out.mono ?_
  rintro r w1 ⟨v1, rfl, hv, hb⟩
  have HV := Lib.hid hv
  have HB := Lib.hid hb
  have keep : ∀ W, Below w1.heap.size w1 W → (Below w1.heap.size w1 W ∧ W.cell? ⟨b0, o0 + i * 2, Option.none⟩ = some (.int .i64 e.1) ∧ W.cell? ⟨b0, o0 + i * 2 + 1, Option.none⟩ = some (.slice qf mf cf) ∧ W.cell? ⟨b0, o0 + (i + 1) * 2, Option.none⟩ = some (.int .i64 f.1) ∧ W.cell? ⟨b0, o0 + (i + 1) * 2 + 1, Option.none⟩ = some (.slice qg mg cg)) := fun W kk => by
    have kw := hb.trans (kk.mono hb.size)
    have g1 := HFC.out W kw
    have g2 := HGC.out W kw
    exact ⟨kk, g1.1, g1.2.1, g2.1, g2.2.1⟩
  have K2 : Hid (∀ W, (Below w1.heap.size w1 W ∧ W.cell? ⟨b0, o0 + i * 2, Option.none⟩ = some (.int .i64 e.1) ∧ W.cell? ⟨b0, o0 + i * 2 + 1, Option.none⟩ = some (.slice qf mf cf) ∧ W.cell? ⟨b0, o0 + (i + 1) * 2, Option.none⟩ = some (.int .i64 f.1) ∧ W.cell? ⟨b0, o0 + (i + 1) * 2 + 1, Option.none⟩ = some (.slice qg mg cg)) → Calls Try.prog 19 #[.agg #[.int .i64 e.1, .slice qf mf cf], .agg #[.int .i64 f.1, .slice qg mg cg]] W fun r w' => r = .returned (.bool (edep e f)) ∧ (Below w1.heap.size w1 w' ∧ w'.cell? ⟨b0, o0 + i * 2, Option.none⟩ = some (.int .i64 e.1) ∧ w'.cell? ⟨b0, o0 + i * 2 + 1, Option.none⟩ = some (.slice qf mf cf) ∧ w'.cell? ⟨b0, o0 + (i + 1) * 2, Option.none⟩ = some (.int .i64 f.1) ∧ w'.cell? ⟨b0, o0 + (i + 1) * 2 + 1, Option.none⟩ = some (.slice qg mg cg))) := Lib.hid fun W kk => by
    have kw := HB.out.trans (kk.1.mono HB.out.size)
    refine (depend_at e f _ _ W (HFC.out W kw).2.2.1 (HGC.out W kw).2.2.1 hle hlf).mono ?_
    rintro r w' ⟨rfl, hb⟩
    exact ⟨rfl, keep w' (kk.1.trans (hb.mono kk.1.size))⟩
  have hs0 := keep w1.drew ⟨rfl, rfl, rfl, Nat.le_refl _, fun _ _ => rfl⟩
  clear keep hv hb hle hlf HC
  obtain ⟨d, hd⟩ : ∃ d, edep e f = d := ⟨_, rfl⟩
  rw [hd] at K2 HSW
  clear hd
  go_wp2_with fail
  go_region_held3 (fun w' => (Below w1.heap.size w1 w' ∧ w'.cell? ⟨b0, o0 + i * 2, Option.none⟩ = some (.int .i64 e.1) ∧ w'.cell? ⟨b0, o0 + i * 2 + 1, Option.none⟩ = some (.slice qf mf cf) ∧ w'.cell? ⟨b0, o0 + (i + 1) * 2, Option.none⟩ = some (.int .i64 f.1) ∧ w'.cell? ⟨b0, o0 + (i + 1) * 2 + 1, Option.none⟩ = some (.slice qg mg cg)))
    (first | exact hs0 | assumption)
    (first
      | (go_at_call 19; refine (K2.out _ (by assumption)).mono ?_; rintro r w' ⟨rfl, hsA⟩))
  have KX : Hid (Below w1.heap.size w1 w') := Lib.hid hsA.1
  have HV2 : Hid (EvIP P w' w.heap.size v1 x) := Lib.hid (HV.out.kept hsA.1)
  have HB2 : Hid (Below w.heap.size w w') := Lib.hid (HB.out.trans (hsA.1.mono HB.out.size))
  clear hsA hs0
  cases d with
  | true =>
    have HSX : Hid (swp edep x i = x) := Lib.hid (by rw [HSW.out]; rfl)
    go_wp2
    go_ret
    exact ⟨_, rfl, by rw [HSX.out]; exact HV2.out.evs, fun q hq => by obtain ⟨cs, hown, _⟩ := HV2.out; exact (hown.lt q hq).1, HB2.out⟩
  | false =>
    have HSX : Hid (swp edep x i = xch x i) := Lib.hid (by rw [HSW.out]; rfl)
    obtain ⟨cs, hown, hce⟩ := HV2.out
    rcases id hown.2 with ⟨_, hn⟩ | ⟨g, cap', cur, rfl, hbg, hg, hn, hm, hz, ht⟩
    · rw [HA.out] at hn; omega
    · have HX := Lib.hid HA.out
      rw [HA.out] at hn hown
      obtain ⟨u1, va, u2, ma, na⟩ := hce i e HE.out
      obtain ⟨u3, vb, u4, mb, nb⟩ := hce (i + 1) f HF.out
      obtain ⟨pa, ca, rfl, _⟩ := id ma.1
      obtain ⟨pb, cb, rfl, _⟩ := id mb.1
      have c0 : w'.cell? ⟨g, i * 2, Option.none⟩ = some (.int .i64 e.1) := by rw [hown.cellAt (i * 2) (by omega), u1]
      have c1 : w'.cell? ⟨g, i * 2 + 1, Option.none⟩ = some (.slice pa e.2.length ca) := by rw [hown.cellAt (i * 2 + 1) (by omega), u2]
      have c2 : w'.cell? ⟨g, (i + 1) * 2, Option.none⟩ = some (.int .i64 f.1) := by rw [hown.cellAt ((i + 1) * 2) (by omega), u3]
      have c3 : w'.cell? ⟨g, (i + 1) * 2 + 1, Option.none⟩ = some (.slice pb f.2.length cb) := by rw [hown.cellAt ((i + 1) * 2 + 1) (by omega), u4]
      have f0 := hown.frozenAt (i * 2)
      have f1 := hown.frozenAt (i * 2 + 1)
      have f2 := hown.frozenAt ((i + 1) * 2)
      have f3 := hown.frozenAt ((i + 1) * 2 + 1)
      have hgs : g < w'.heap.size := lt_of_block hg
      have hV := HV2.out
      rw [HA.out] at hV
      have HE2 := Lib.hid (xch_evp hV HA.out HE.out HF.out hn hm c0 c1 c2 c3 hgs)
      have HB3 : Hid (Below w.heap.size w ((((w'.setCell ⟨g, i * 2, Option.none⟩ (.int .i64 f.1)).setCell ⟨g, i * 2 + 1, Option.none⟩ (.slice pb f.2.length cb)).setCell ⟨g, (i + 1) * 2, Option.none⟩ (.int .i64 e.1)).setCell ⟨g, (i + 1) * 2 + 1, Option.none⟩ (.slice pa e.2.length ca)).drew) := Lib.hid (bd4 HB2.out hbg)
      clear u1 u2 u3 u4 ma mb na nb hown hce hg hz ht hV
      rw [HX.out]
      go_wp2_with fail
      go_region
      generalize ((((w'.setCell ⟨g, i * 2, Option.none⟩ (.int .i64 f.1)).setCell ⟨g, i * 2 + 1, Option.none⟩ (.slice pb f.2.length cb)).setCell ⟨g, (i + 1) * 2, Option.none⟩ (.int .i64 e.1)).setCell ⟨g, (i + 1) * 2 + 1, Option.none⟩ (.slice pa e.2.length ca)).drew = X at HE2 HB3 ⊢
      clear c0 c1 c2 c3 f0 f1 f2 f3
      go_wp2
      go_ret
      exact ⟨_, rfl, by rw [HSX.out]; exact HE2.out, fun q hq => by cases hq; exact hbg, HB3.out⟩
/-- The law's swap, at any place. -/
theorem swap_p (x : List (Int × List (Int × Bool))) (i : Nat) (v : Value) (w : World) (hs : EvSP P w v x) (hl : x.length ≤ 1000) (hi2 : i ≤ 1000) (h8 : ∀ e ∈ x, e.2.length ≤ 1000) :
    Calls Try.prog 20 #[v, .int .i64 (i : Int)] w fun e w' => ∃ v', e = .returned v' ∧ EvSP P w' v' (swp edep x i) ∧ (∀ q, v'.ownBlock = some q → w.heap.size ≤ q) ∧ Below w.heap.size w w' := by
  by_cases hi : i + 1 < x.length
  · exact swap_inp x i v w hs hl hi h8
  · refine (swap_outp x i v w hs hl (by omega) hi2).mono ?_
    rintro e w' ⟨v', rfl, hv, hb⟩
    exact ⟨v', rfl, hv.evs, fun q hq => by obtain ⟨cs, hown, _⟩ := hv; exact (hown.lt q hq).1, hb⟩
end Go.Proofs.Ytmhaelfmojigoaa
