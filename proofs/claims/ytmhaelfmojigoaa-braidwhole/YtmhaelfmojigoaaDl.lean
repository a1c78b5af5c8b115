/- slices.Delete of one event, in a row of the call's own. -/
import Derived.Test.YtmhaelfmojigoaaXp
import Derived.Deep.RegionLaw
import Derived.Lib.SliceRun
set_option linter.unusedSimpArgs false
set_option linter.unusedVariables false
namespace Go.Proofs.Ytmhaelfmojigoaa
open Go.RowKit

/-- A list with others laid over it from a place on. -/
def setL : List Value → Nat → List Value → List Value
  | xs, _, [] => xs
  | xs, o, v :: r => setL (xs.set o v) (o + 1) r
theorem setL_len : ∀ (vs xs : List Value) (o : Nat), (setL xs o vs).length = xs.length
  | [], _, _ => rfl
  | v :: r, xs, o => by rw [setL, setL_len r]; simp
theorem setL_out : ∀ (vs xs : List Value) (o j : Nat), (j < o ∨ o + vs.length ≤ j) → (setL xs o vs)[j]? = xs[j]?
  | [], _, _, _, _ => rfl
  | v :: r, xs, o, j, h => by
    simp only [List.length_cons] at h
    rw [setL, setL_out r _ _ _ (by omega), List.getElem?_set_ne (by omega)]
theorem setL_in : ∀ (vs xs : List Value) (o j : Nat), o ≤ j → j < o + vs.length → j < xs.length → (setL xs o vs)[j]? = vs[j - o]?
  | [], _, o, j, h1, h2, _ => by simp at h2; omega
  | v :: r, xs, o, j, h1, h2, h3 => by
    simp only [List.length_cons] at h2
    rw [setL]
    by_cases hj : j = o
    · subst hj
      rw [setL_out r _ _ _ (by omega), List.getElem?_set_self h3, Nat.sub_self]; rfl
    · rw [setL_in r _ _ _ (by omega) (by omega) (by simpa using h3)]
      obtain ⟨d, hd⟩ : ∃ d, j - o = d + 1 := ⟨j - o - 1, by omega⟩
      rw [hd, List.getElem?_cons_succ, show j - (o + 1) = d by omega]
theorem own_setL {base : Nat} {e : TypeId} {size g n cap : Nat} : ∀ (vs : List Value) (o : Nat) (w : World) (xs : List Value), w.ownsRow base e size (.slice (some ⟨g, 0, Option.none⟩) n cap) n xs →
    (w.setCells g o vs).ownsRow base e size (.slice (some ⟨g, 0, Option.none⟩) n cap) n (setL xs o vs) ∧ w.grownBy (w.setCells g o vs) (some g)
  | [], _, w, _, h => ⟨h, ⟨rfl, rfl, rfl, Nat.le_refl _, fun _ _ _ => rfl⟩⟩
  | v :: r, o, w, xs, h => by
    obtain ⟨h1, h2⟩ := h.stored o v
    obtain ⟨h3, h4⟩ := own_setL r (o + 1) _ _ h1
    exact ⟨h3, ⟨h4.os.trans h2.os, h4.tape.trans h2.tape, h4.output.trans h2.output, Nat.le_trans h2.size h4.size, fun k hk hne => (h4.block k (Nat.lt_of_lt_of_le hk h2.size) hne).trans (h2.block k hk hne)⟩⟩
theorem own_cut {w : World} {base : Nat} {e : TypeId} {size g n cap m : Nat} {xs : List Value} (h : w.ownsRow base e size (.slice (some ⟨g, 0, Option.none⟩) n cap) n xs) (hm : m ≤ n) : w.ownsRow base e size (.slice (some ⟨g, 0, Option.none⟩) m cap) m (xs.take (m * size)) := by
  have hmn : m * size ≤ n * size := Nat.mul_le_mul_right _ hm
  refine ⟨by rw [List.length_take, h.1]; omega, ?_⟩
  rcases h.2 with ⟨e', _⟩ | ⟨g', cap', cur, e', hbg, hg, hnc, hcm, hcs, ht⟩
  · simp at e'
  · simp only [Value.slice.injEq, Option.some.injEq, Addr.mk.injEq, and_true, true_and] at e'
    obtain ⟨rfl, rfl⟩ := e'
    exact .inr ⟨g, cap, cur, rfl, hbg, hg, by omega, hcm, hcs, by rw [← ht, List.take_take, Nat.min_eq_left hmn]⟩
theorem grown_trans {a b c : World} {row : Option Nat} (h2 : a.grownBy b row) (h4 : b.grownBy c row) : a.grownBy c row :=
  ⟨h4.os.trans h2.os, h4.tape.trans h2.tape, h4.output.trans h2.output, Nat.le_trans h2.size h4.size, fun k hk hne => (h4.block k (Nat.lt_of_lt_of_le hk h2.size) hne).trans (h2.block k hk hne)⟩
theorem grown_drew (w : World) (row : Option Nat) : w.grownBy w.drew row := ⟨rfl, rfl, rfl, Nat.le_refl _, fun _ _ _ => rfl⟩
/-- clear of one event. -/
theorem clear_one (W : World) (ty : TypeId) (g o c : Nat) (h0 : (W.cell? ⟨g, o, Option.none⟩).isSome = true) (h1 : (W.cell? ⟨g, o + 1, Option.none⟩).isSome = true) (f0 : W.frozen? ⟨g, o, Option.none⟩ = false) (f1 : W.frozen? ⟨g, o + 1, Option.none⟩ = false) :
    (Builtin.clear_ #[25] ty #[.slice (some ⟨g, o, Option.none⟩) 1 c]).run Try.prog W = .ok (.tuple #[]) (W.setCells g o [.int .i64 0, .slice Option.none 0 0]) := by
  have hst := run_storeCells_cells (P := Try.prog) g o [Value.int .i64 0, .slice Option.none 0 0] 0 W (by intro j hj; match j with | 0 => exact h0 | 1 => exact h1 | j + 2 => simp at hj; omega) (by intro j hj; match j with | 0 => exact f0 | 1 => exact f1 | j + 2 => simp at hj; omega) (by intro v hv; simp at hv; rcases hv with rfl | rfl <;> rfl)
  simp only [Nat.add_zero] at hst
  have hzc : (Builtin.zeroCells (Value.agg #[.int .i64 0, .slice Option.none 0 0]).cells 1).toList = [Value.int .i64 0, .slice Option.none 0 0] := by kernel_rfl
  simp [Builtin.clear_, run_underlying Try.underlying25, Try.zeroValue39, hzc, hst]
set_option maxRecDepth 100000 in
set_option maxHeartbeats 16000000 in
theorem delete_ev {P : Value → Prop} (x : List (Int × List (Int × Bool))) (k g A cap base : Nat) (w : World) (h : EvIP P w base (.slice (some ⟨g, 0, Option.none⟩) A cap) x) (hA : x.length = A) (hk : k < A) (hl : A ≤ 1000) :
    Calls Try.prog 24 #[.slice (some ⟨g, 0, Option.none⟩) A cap, .int .i64 (k : Int), .int .i64 ((k : Int) + 1)] w fun e w' => e = .returned (.slice (some ⟨g, 0, Option.none⟩) (A - 1) cap) ∧ EvIP P w' base (.slice (some ⟨g, 0, Option.none⟩) (A - 1) cap) (x.eraseIdx k) ∧ w.grownBy w' (some g) := by
  obtain ⟨cs, hown, hc⟩ := h
  rw [hA] at hown
  obtain ⟨i0, hi, hz, hsz, hby⟩ := ev_info
  obtain ⟨hcA, hcm⟩ : A ≤ cap ∧ cap ≤ maxLen := by
    rcases hown.2 with ⟨e, _⟩ | ⟨g', cap', cur, e, _, _, h1, h2, _⟩
    · simp at e
    · simp at e; omega
  have hcsl : cs.length = A * 2 := hown.1
  obtain ⟨news, hnews⟩ : ∃ news, news = cs.drop ((k + 1) * 2) := ⟨_, rfl⟩
  have hnl : news.length = (A - (k + 1)) * 2 := by rw [hnews, List.length_drop, hcsl]; omega
  have hone : ∀ u ∈ cs, u.oneCell' = true := by
    intro u hu
    obtain ⟨j, hj⟩ := List.mem_iff_getElem?.1 hu
    have hjl := (List.getElem?_eq_some_iff.1 hj).1
    obtain ⟨e, he⟩ := ev_half (x := x) (j := j) (by omega)
    obtain ⟨h1, v, h2, h3, _⟩ := hc _ e he
    obtain ⟨pu, cu, hue, _⟩ := id h3.1
    rcases Nat.mod_two_eq_zero_or_one j with hm | hm
    · rw [show j / 2 * 2 = j by omega, hj] at h1; rw [Option.some.inj h1]; rfl
    · rw [show j / 2 * 2 + 1 = j by omega, hj] at h2; rw [Option.some.inj h2, hue]; rfl
  obtain ⟨ad, had, hsrc⟩ : ∃ ad : Addr, (if cap = k + 1 then some (⟨g, 0, Option.none⟩ : Addr) else some ⟨g, (k + 1) * 2, Option.none⟩) = some ad ∧ Hid (∀ t u, news[t]? = some u → w.drew.cell? (ad.add t) = some u) := by
    by_cases h : cap = k + 1
    · refine ⟨⟨g, 0, Option.none⟩, by simp [h], fun t u hu => ?_⟩
      have h0 : news.length = 0 := by rw [hnl]; omega
      rw [List.length_eq_zero_iff.1 h0] at hu
      simp at hu
    · refine ⟨⟨g, (k + 1) * 2, Option.none⟩, by simp [h], fun t u hu => ?_⟩
      have ht := (List.getElem?_eq_some_iff.1 hu).1
      rw [hnews, List.getElem?_drop] at hu
      have h1 := hown.cellAt ((k + 1) * 2 + t) (by omega)
      rw [Addr.add_lit]
      exact h1.trans hu
  have s1 : Hid (∀ u ∈ news, u.oneCell' = true) := fun u hu => hone u (by rw [hnews] at hu; exact List.mem_of_mem_drop hu)
  have hcl0 : ∀ j, j < A * 2 → (w.cell? ⟨g, j, Option.none⟩).isSome = true := fun j hj => by rw [hown.cellAt j hj, List.getElem?_eq_getElem (by omega)]; rfl
  have s3 : Hid (∀ t, t < news.length → (w.drew.cell? ⟨g, 0 + k * 2 + t, Option.none⟩).isSome = true ∧ w.drew.frozen? ⟨g, 0 + k * 2 + t, Option.none⟩ = false) := by
    intro t ht
    rw [hnl] at ht
    exact ⟨hcl0 _ (by omega), hown.frozenAt _⟩
  have hown0 : w.drew.ownsRow base 39 2 (.slice (some ⟨g, 0, Option.none⟩) A cap) A cs := hown.kept (grown_drew w Option.none) (.inr (by simp [Value.ownBlock]))
  obtain ⟨o1, g1⟩ := own_setL news (0 + k * 2) _ _ hown0
  obtain ⟨W1, hW1⟩ : ∃ W1, W1 = w.drew.setCells g (0 + k * 2) news := ⟨_, rfl⟩
  rw [← hW1] at o1 g1
  have hcl : ∀ ty, (Builtin.clear_ #[25] ty #[.slice (some ⟨g, (A - 1) * 2, Option.none⟩) 1 (cap - (A - 1))]).run Try.prog W1 = .ok (.tuple #[]) (W1.setCells g ((A - 1) * 2) [.int .i64 0, .slice Option.none 0 0]) := fun ty => by
    have hsome : ∀ j, j < A * 2 → (W1.cell? ⟨g, j, Option.none⟩).isSome = true := fun j hj => by rw [o1.cellAt j hj, List.getElem?_eq_getElem (by rw [setL_len]; omega)]; rfl
    exact clear_one W1 ty g ((A - 1) * 2) _ (hsome _ (by omega)) (hsome _ (by omega)) (o1.frozenAt _) (o1.frozenAt _)
  have hcl2 : ∀ ty, (Builtin.clear_ #[25] ty #[.slice (some ⟨g, (k + (A - (k + 1))) * 2, Option.none⟩) (A - (k + (A - (k + 1)))) (cap - (k + (A - (k + 1))))]).run Try.prog W1 = .ok (.tuple #[]) (W1.setCells g ((A - 1) * 2) [.int .i64 0, .slice Option.none 0 0]) := fun ty => by
    rw [show k + (A - (k + 1)) = A - 1 by omega, show A - (A - 1) = 1 by omega]; exact hcl ty
  obtain ⟨o2, g2⟩ := own_setL [Value.int .i64 0, .slice Option.none 0 0] ((A - 1) * 2) _ _ o1
  have hfin : Hid (∀ W, W = W1.setCells g ((A - 1) * 2) [.int .i64 0, .slice Option.none 0 0] → EvIP P W base (.slice (some ⟨g, 0, Option.none⟩) (A - 1) cap) (x.eraseIdx k) ∧ w.grownBy W (some g)) := by
    rintro W rfl
    have hgr := grown_trans (grown_trans (grown_drew w (some g)) g1) g2
    have hel : (x.eraseIdx k).length = A - 1 := by rw [List.length_eraseIdx, if_pos (by omega), hA]
    refine ⟨⟨_, by rw [hel]; exact own_cut o2 (by omega), fun i e he => ?_⟩, hgr⟩
    have hil := (List.getElem?_eq_some_iff.1 he).1
    rw [hel] at hil
    have hat : ∀ d, d < 2 → ((setL (setL cs (0 + k * 2) news) ((A - 1) * 2) [Value.int .i64 0, .slice Option.none 0 0]).take ((A - 1) * 2))[i * 2 + d]? = cs[(if i < k then i else i + 1) * 2 + d]? := by
      intro d hd
      rw [List.getElem?_take, if_pos (by omega), setL_out _ _ _ _ (by left; omega)]
      by_cases hik : i < k
      · rw [setL_out _ _ _ _ (by left; omega), if_pos hik]
      · rw [setL_in _ _ _ _ (by omega) (by omega) (by omega), if_neg hik, hnews, List.getElem?_drop]
        congr 1; omega
    have hex : x[if i < k then i else i + 1]? = some e := by
      rw [List.getElem?_eraseIdx] at he
      by_cases hik : i < k
      · rw [if_pos hik] at he ⊢; exact he
      · rw [if_neg hik] at he ⊢; exact he
    obtain ⟨h1, u, h2, h3, h4⟩ := hc _ e hex
    have a0 := hat 0 (by omega)
    have a1 := hat 1 (by omega)
    rw [Nat.add_zero, Nat.add_zero] at a0
    exact ⟨a0.trans h1, u, a1.trans h2, h3.grown hgr (fun q hq e => h4 q hq (by rw [← e]; rfl)), fun q hq e => h4 q hq e⟩
  have hW : Hid (W1 = w.drew.setCells g (0 + k * 2) news) := hW1
  have HNL := Lib.hid hnl
  have hk1 : (k : Int) ≤ (k : Int) + 1 := by omega
  have hk2 : (k : Int) + 1 ≤ (A : Int) := by omega
  clear hcl hown hc hnews hone hcl0 hown0 o1 g1 o2 g2 hW1 hcsl hnl
  have hk0 : (0 : Int) ≤ (k : Int) + 1 := by omega
  have hic : k ≤ cap := by omega
  have hjc : k + 1 ≤ cap := by omega
  have hjA : k + 1 ≤ A := by omega
  have mixed : Try.prog.follows Departure.mixedOrders = true := by kernel_rfl
  go_enter Try.func24, Try.ntmps24
  go_wp2_with fail
  go_region_law_o (refine step_append_room rfl (.tmp 22) (.tmp 25) 25 rfl 39 i0 2 Try.underlying25 hi hsz g 0 k cap (by simp [Act.eval, Act.put]) ad (A - (k + 1)) (cap - (k + 1)) news (by simp [Act.eval, Act.put]) HNL.out hsrc.out s1.out (by omega) s3.out ?_; rw [← hW.out])
  go_wp2
  obtain ⟨W2, hW2⟩ : ∃ W2, W2 = W1.setCells g ((A - 1) * 2) [.int .i64 0, .slice Option.none 0 0] := ⟨_, rfl⟩
  have HF := Lib.hid (hfin.out W2 hW2)
  rw [← hW2]
  go_ret
  exact ⟨by rw [show k + (A - (k + 1)) = A - 1 by omega]; rfl, HF.out.1, HF.out.2⟩
end Go.Proofs.Ytmhaelfmojigoaa
