/- Counts by threads: rows of numbers; what law 11's counting asks of clock.Clocks. -/
import Derived.Test.YtdcabhlgaecbiaaOc
set_option linter.unusedSimpArgs false
set_option linter.unusedVariables false
namespace Go.Proofs.Ytdcabhlgaecbiaa
open Go.RowKit

/-- A slice of rows of numbers. -/
def RwS (w : World) (v : Value) (L : List (List Nat)) : Prop := ∃ p cap, v = .slice p L.length cap ∧ (L = [] ∨ ∃ b o, p = some ⟨b, o, Option.none⟩ ∧ b < w.heap.size ∧ ∀ (i : Nat) l, L[i]? = some l → ∃ u, w.cell? ⟨b, o + i, Option.none⟩ = some u ∧ NsS w u l)
theorem RwS.kept {w w' : World} {v : Value} {L : List (List Nat)} (h : RwS w v L) (k : Below w.heap.size w w') : RwS w' v L := by
  obtain ⟨p, cap, rfl, h⟩ := h
  refine ⟨p, cap, rfl, ?_⟩
  rcases h with h | ⟨b, o, rfl, hb, hr⟩
  · exact .inl h
  · refine .inr ⟨b, o, rfl, Nat.lt_of_lt_of_le hb k.size, fun i l hi => ?_⟩
    obtain ⟨u, h1, h2⟩ := hr i l hi
    exact ⟨u, (k.cell (p := ⟨b, _, Option.none⟩) hb).trans h1, h2.kept k⟩
/-- The clocks of the event at j, of so many threads. -/
noncomputable def ckr (x : Evl) (j n : Nat) : List Nat := (List.range n).map fun (t : Nat) => cnt edep (·.1) x j (t : Int)
def CkO : Prop := ∀ (x : Evl) (t : Int) v w, EvS w v x → Evk x → -128 ≤ t → t ≤ 127 → Calls Try.prog 14 #[v, .int .i64 t] w fun e w' => ∃ v', e = .returned v' ∧ RwS w' v' ((List.range x.length).map fun j => ckr x j t.toNat) ∧ Below w.heap.size w w'
/-- Counted so far: itself, and of those ahead the first m. -/
noncomputable def cm (x : Evl) (j m t : Nat) : Nat := (if thi x j = (t : Int) then 1 else 0) + (((ahd edep x j).take m).filter fun i => decide (thi x i = (t : Int))).length
theorem cm_step {x : Evl} {j m i : Nat} (h : (ahd edep x j)[m]? = some i) (t : Nat) : cm x j (m + 1) t = cm x j m t + (if thi x i = (t : Int) then 1 else 0) := by
  unfold cm
  rw [show (ahd edep x j).take (m + 1) = (ahd edep x j).take m ++ ((ahd edep x j)[m]?).toList from List.take_add_one, h, List.filter_append, List.length_append, Nat.add_assoc]
  congr 1
  simp only [Option.toList_some, List.filter_cons, List.filter_nil]
  by_cases hh : thi x i = (t : Int)
  · simp [hh]
  · simp [hh]
theorem cm_le (x : Evl) (j m t : Nat) : cm x j m t ≤ m + 1 := by
  unfold cm
  have h1 := List.length_filter_le (fun i => decide (thi x i = (t : Int))) ((ahd edep x j).take m)
  have h2 : ((ahd edep x j).take m).length ≤ m := by rw [List.length_take]; omega
  split <;> omega
theorem cnt_cm {x : Evl} {j L : Nat} (hj : j < x.length) (hL : (ahd edep x j).length = L) (t : Nat) : cnt edep (·.1) x j (t : Int) = cm x j L t := by
  unfold cnt cm
  rw [List.range_succ, List.filter_append, List.length_append, Nat.add_comm, List.take_of_length_le (by omega)]
  have hthr : ∀ i, i < x.length → (decide (∃ a, x[i]? = some a ∧ (fun a : Int × List (Int × Bool) => a.1) a = (t : Int)) = decide (thi x i = (t : Int))) := fun i hi => by
    apply decide_eq_decide.2
    have he : x[i]? = some x[i]! := by rw [getElem!_pos x i hi]; exact List.getElem?_eq_getElem hi
    constructor
    · rintro ⟨a, h1, h2⟩
      rw [he] at h1
      obtain rfl := Option.some.inj h1
      exact h2
    · intro h
      exact ⟨_, he, h⟩
  congr 1
  · rw [List.filter_cons, List.filter_nil, hthr j hj]
    by_cases h : thi x j = (t : Int)
    · simp [h]
    · simp [h]
  · unfold ahd
    rw [List.filter_filter]
    congr 1
    apply List.filter_congr
    intro i hi
    have hij := List.mem_range.1 hi
    rw [hthr i (by omega), Bool.and_comm]
    congr 1
    unfold hbd
    exact decide_eq_decide.2 ⟨fun h => h.elim (fun h => by omega) id, .inr⟩
theorem cnt_big {x : Evl} {j : Nat} {t : Int} (hx : ∀ e ∈ x, e.1 < t) : cnt edep (·.1) x j t = 0 := by
  unfold cnt
  apply List.length_eq_zero_iff.2
  apply List.filter_eq_nil_iff.2
  intro i _
  simp only [Bool.and_eq_true, decide_eq_true_eq, not_and, not_exists]
  intro _ a ha h
  have := hx a (List.mem_of_getElem? ha)
  omega
/-- Five numbers in a row. -/
def five (c : Nat → Nat) : List Value := (List.range 5).map fun t => .int .i64 ((c t : Nat) : Int)
theorem five_get {c : Nat → Nat} {t : Nat} (h : t < 5) : (five c)[t]? = some (.int .i64 (c t : Nat)) := by
  unfold five
  rw [List.getElem?_map, List.getElem?_range h]
  rfl
theorem five_len (c : Nat → Nat) : (five c).length = 5 := by simp [five]
theorem five_set {c d : Nat → Nat} {k : Nat} (hk : k < 5) (h : ∀ t, d t = c t + (if t = k then 1 else 0)) : (five c).set k (.int .i64 ((c k + 1 : Nat) : Int)) = five d := by
  apply List.ext_getElem?
  intro q
  by_cases hqk : k = q
  · subst hqk
    rw [List.getElem?_set_self (by rw [five_len]; exact hk), five_get hk, h, if_pos rfl]
  · rw [List.getElem?_set_ne hqk]
    by_cases hq : q < 5
    · rw [five_get hq, five_get hq, h, if_neg (fun e => hqk e.symm), Nat.add_zero]
    · rw [List.getElem?_eq_none (by rw [five_len]; omega), List.getElem?_eq_none (by rw [five_len]; omega)]
theorem five_zero : (madeCells #[Value.int .i64 0] 5).toList = five fun _ => 0 := by
  rw [toList_madeCells_one]
  rfl
end Go.Proofs.Ytdcabhlgaecbiaa
