/- Marks in a row; races that stay where they are while another row turns. -/
import Derived.Test.YtcbpkagegdfidaaCv
set_option linter.unusedSimpArgs false
set_option linter.unusedVariables false
namespace Go.Proofs.Ytcbpkagegdfidaa
open Go.RowKit

open Classical in
/-- A row of marks: 1 where P holds, else 0. -/
noncomputable def mrk (P : Nat → Prop) (J : Nat) : List Value := (List.range J).map fun q => .int .i64 (if P q then 1 else 0)
theorem mrk_len (P : Nat → Prop) (J : Nat) : (mrk P J).length = J := by simp [mrk]
theorem mrk_yes {P : Nat → Prop} {J q : Nat} (hq : q < J) (h : P q) : (mrk P J)[q]? = some (.int .i64 1) := by
  unfold mrk
  rw [List.getElem?_map, List.getElem?_range hq]
  simp [h]
theorem mrk_no {P : Nat → Prop} {J q : Nat} (hq : q < J) (h : ¬ P q) : (mrk P J)[q]? = some (.int .i64 0) := by
  unfold mrk
  rw [List.getElem?_map, List.getElem?_range hq]
  simp [h]
theorem mrk_any {P : Nat → Prop} {J q : Nat} (hq : q < J) : ∃ z, (mrk P J)[q]? = some (.int .i64 z) := by
  by_cases h : P q
  · exact ⟨1, mrk_yes hq h⟩
  · exact ⟨0, mrk_no hq h⟩
theorem mrk_congr {P Q : Nat → Prop} {J : Nat} (h : ∀ q, q < J → (P q ↔ Q q)) : mrk P J = mrk Q J := by
  apply List.ext_getElem?
  intro q
  by_cases hq : q < J
  · by_cases hp : P q
    · rw [mrk_yes hq hp, mrk_yes hq ((h q hq).1 hp)]
    · rw [mrk_no hq hp, mrk_no hq fun hQ => hp ((h q hq).2 hQ)]
  · rw [List.getElem?_eq_none (by rw [mrk_len]; omega), List.getElem?_eq_none (by rw [mrk_len]; omega)]
theorem mrk_set {P : Nat → Prop} {J k : Nat} (hk : k < J) : (mrk P J).set k (.int .i64 1) = mrk (fun q => P q ∨ q = k) J := by
  apply List.ext_getElem?
  intro q
  by_cases hqk : k = q
  · subst hqk
    rw [List.getElem?_set_self (by rw [mrk_len]; exact hk), mrk_yes hk (.inr rfl)]
  · rw [List.getElem?_set_ne hqk]
    by_cases hq : q < J
    · by_cases hp : P q
      · rw [mrk_yes hq hp, mrk_yes hq (.inl hp)]
      · rw [mrk_no hq hp, mrk_no hq fun h => h.elim hp fun h => hqk h.symm]
    · rw [List.getElem?_eq_none (by rw [mrk_len]; omega), List.getElem?_eq_none (by rw [mrk_len]; omega)]
theorem mrk_zero {P : Nat → Prop} {J : Nat} (h : ∀ q, ¬ P q) : (madeCells #[Value.int .i64 0] J).toList = mrk P J := by
  rw [toList_madeCells_one]
  apply List.ext_getElem?
  intro q
  by_cases hq : q < J
  · rw [mrk_no hq (h q), List.getElem?_replicate, if_pos hq]
  · rw [List.getElem?_eq_none (l := List.replicate J _) (by simp; omega), List.getElem?_eq_none (by rw [mrk_len]; omega)]
/-- All cells of a row are slices: races lie elsewhere. -/
theorem rc_ex {w5 W : World} {B A base : Nat} {us : List Value} {v : Value} {R : List (Nat × Nat)} (h : RcS w5 v R) (ho : w5.ownsRow base 40 1 (.slice (some ⟨B, 0, Option.none⟩) A A) A us) (hs : ∀ (j : Nat) u, us[j]? = some u → ∃ p m c, u = .slice p m c) (k : Exb B w5 W) : RcS W v R := by
  obtain ⟨p, cap, rfl, h2, h4⟩ := h
  refine ⟨p, cap, rfl, h2, ?_⟩
  rcases h4 with h4 | ⟨b, o, rfl, hb, hr⟩
  · exact .inl h4
  · refine .inr ⟨b, o, rfl, Nat.lt_of_lt_of_le hb k.size, fun i q hi => ?_⟩
    have hne : b ≠ B := by
      rintro rfl
      have h1 := (hr i q hi).1
      rcases ho.2 with ⟨h', _⟩ | ⟨g, cap', cur, h', _, hg, _, _, hcs, ht⟩
      · simp at h'
      · simp only [Value.slice.injEq, Option.some.injEq, Addr.mk.injEq, and_true, true_and] at h'
        obtain ⟨h5, h6⟩ := h'
        subst h5
        subst h6
        rw [cell_of_row _ _ _ _ _ _ hg] at h1
        have h7 : cur.toList = us := by rw [← ht, List.take_of_length_le]; simp [hcs]
        have h8 : us[o + i * 2]? = some (.int .i64 (q.1 : Int)) := by rw [← h7, Array.getElem?_toList]; exact h1
        obtain ⟨p, m, c, h9⟩ := hs _ _ h8
        cases h9
    exact ⟨(World.cell?_of_block (w := w5) (k.block b hb hne)).trans (hr i q hi).1, (World.cell?_of_block (w := w5) (k.block b hb hne)).trans (hr i q hi).2⟩
theorem Exb.trans {B : Nat} {a b c : World} (h : Exb B a b) (k : Exb B b c) : Exb B a c := ⟨Nat.le_trans h.size k.size, fun q hq hb => (k.block q (Nat.lt_of_lt_of_le hq h.size) hb).trans (h.block q hq hb)⟩
theorem AhI.kept {x : Evl} {w W W' : World} {B A J : Nat} {us : List Value} (h : AhI edep x w W B A J us) (k : Below W.heap.size W W') : AhI edep x w W' B A J us :=
  ⟨own_kept h.own k, fun j u hj hu => ⟨(h.rows j u hj hu).1.kept k, (h.rows j u hj hu).2⟩, h.rest⟩
theorem AhI.slices {x : Evl} {w W : World} {B A J : Nat} {us : List Value} (h : AhI edep x w W B A J us) (j : Nat) (u : Value) (hu : us[j]? = some u) : ∃ p m c, u = .slice p m c := by
  by_cases hj : j < J
  · obtain ⟨p, c, h1, _⟩ := (h.rows j u hj hu).1
    exact ⟨p, _, c, h1⟩
  · exact ⟨_, _, _, h.rest j u (by omega) hu⟩
theorem crs_yes {x : Evl} {i j : Nat} {e f : Int × List (Int × Bool)} (hij : i < j) (he : x[i]? = some e) (hf : x[j]? = some f) (h : e.1 = f.1 ∨ (i, j) ∈ racs edep (·.1) x x.length) : crs x i j := ⟨hij, e, f, he, hf, h⟩
theorem crs_no {x : Evl} {i j : Nat} {e f : Int × List (Int × Bool)} (he : x[i]? = some e) (hf : x[j]? = some f) (h : e.1 ≠ f.1) (h2 : (i, j) ∉ racs edep (·.1) x x.length) : ¬ crs x i j := by
  rintro ⟨_, a, b, ha, hb, h3⟩
  rw [he] at ha
  rw [hf] at hb
  cases ha
  cases hb
  exact h3.elim h h2
end Go.Proofs.Ytcbpkagegdfidaa
