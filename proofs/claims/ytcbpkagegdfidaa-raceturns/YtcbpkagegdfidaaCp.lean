/- Events copied into a row just made; their marks exchanged for others. -/
import Derived.Test.YtcbpkagegdfidaaCy
import Derived.Test.YtcbpkagegdfidaaCe
import Derived.Test.YtcbpkagegdfidaaXc
set_option linter.unusedSimpArgs false
set_option linter.unusedVariables false
namespace Go.Proofs.Ytcbpkagegdfidaa
open Go.RowKit

theorem copy_ev (x : List (Int × List (Int × Bool))) (b o i j A cap : Nat) (w : World) (hb : b < w.heap.size) (hr : EvR w b o x) (hA : x.length = A) (hij : i ≤ j) (hiA : i ≤ A) (hj : j ≤ 1000) :
    ∃ w', (∀ ty, (Builtin.copy_ #[25, 25] ty #[.slice (some ⟨w.heap.size, 0, Option.none⟩) i j, .slice (some ⟨b, o, Option.none⟩) A cap]).run Try.prog (w.alloc (.cells (madeCells (Value.agg #[.int .i64 0, .slice Option.none 0 0]).cells (j * 2)) 38)) = .ok (goInt i) w') ∧ EvI w' w.heap.size (.slice (some ⟨w.heap.size, 0, Option.none⟩) i j) (x.take i) ∧ Below w.heap.size w w' := by
  obtain ⟨i0, hi, hz, hsz, hby⟩ := ev_info
  have hlen : (cellsAt w b o (i * 2)).length = i * 2 := by simp [cellsAt]
  have hwA := below_alloc w (.cells (madeCells (Value.agg #[.int .i64 0, .slice Option.none 0 0]).cells (j * 2)) 38)
  have hgA := heap_alloc_new w (.cells (madeCells (Value.agg #[.int .i64 0, .slice Option.none 0 0]).cells (j * 2)) 38)
  obtain ⟨W, hW⟩ : ∃ W, w.alloc (.cells (madeCells (Value.agg #[.int .i64 0, .slice Option.none 0 0]).cells (j * 2)) 38) = W := ⟨_, rfl⟩
  rw [hW] at hwA hgA ⊢
  have hat : ∀ (k : Nat) u, (cellsAt w b o (i * 2))[k]? = some u → W.cell? ((⟨b, o, Option.none⟩ : Addr).add k) = some u := by
    intro k u hu
    have hk : k < i * 2 := by rw [← hlen]; exact (List.getElem?_eq_some_iff.1 hu).1
    obtain ⟨u', h1, _⟩ := hr.cell (j := k) (by omega)
    rw [cellsAt_get hk h1] at hu
    rw [add_lit, hwA.cell (p := ⟨b, _, Option.none⟩) hb, h1, hu]
  have hone : ∀ u ∈ cellsAt w b o (i * 2), u.oneCell' = true := by
    intro u hu
    obtain ⟨k, hk⟩ := List.mem_iff_getElem?.1 hu
    have hkl : k < i * 2 := by rw [← hlen]; exact (List.getElem?_eq_some_iff.1 hk).1
    obtain ⟨u', h1, h2⟩ := hr.cell (j := k) (by omega)
    rw [cellsAt_get hkl h1] at hk
    cases hk
    exact h2
  have hcs : (madeCells (Value.agg #[.int .i64 0, .slice Option.none 0 0]).cells (j * 2)).size = j * 2 := size_madeCells _ _
  have hrun := fun ty => run_copy_two (P := Try.prog) W 25 25 ty 38 w.heap.size 0 i j ⟨b, o, Option.none⟩ A cap _ 38 (cellsAt w b o (i * 2)) Try.underlying25 (by rw [hi]; simp [hsz]) hgA (by rw [hlen, show Nat.min A i = i from Nat.min_eq_right hiA]) hat (by rw [hlen, hcs]; omega) hone
  rw [show Nat.min A i = i from Nat.min_eq_right hiA] at hrun
  have htl : (x.take i).length = i := by rw [List.length_take, Nat.min_eq_left (by omega)]
  refine ⟨_, hrun, ⟨cellsAt w b o (i * 2), ⟨?_, .inr ⟨w.heap.size, j, _, by rw [htl], Nat.le_refl _, setRow_heap W _ _ _ 38 (0, 0) hgA, ?_, ?_, ?_, ?_⟩⟩, ?_⟩, ?_⟩
  · rw [hlen, htl]
  · rw [htl]; exact hij
  · unfold maxLen; omega
  · simp [hlen, hcs]; omega
  · rw [htl]
    simp [hlen]
  · intro k e he
    have hk : k < i := by have := (List.getElem?_eq_some_iff.1 he).1; rw [List.length_take] at this; omega
    rw [List.getElem?_take, if_pos hk] at he
    obtain ⟨h1, u, h2, h3⟩ := hr k e he
    have hbel : Below w.heap.size w (W.setRow w.heap.size (((madeCells (Value.agg #[.int .i64 0, .slice Option.none 0 0]).cells (j * 2)).toList.take 0 ++ cellsAt w b o (i * 2) ++ (madeCells (Value.agg #[.int .i64 0, .slice Option.none 0 0]).cells (j * 2)).toList.drop (0 + (cellsAt w b o (i * 2)).length)).toArray)) := below_setRow hwA (Nat.le_refl _) _
    refine ⟨cellsAt_get (by omega) h1, u, cellsAt_get (by omega) (by rw [← Nat.add_assoc]; exact h2), h3.kept hbel, fun q hq e => ?_⟩
    have h4 := h3.blk hq
    have h5 : w.heap.size = q := Option.some.inj e
    omega
  · exact below_setRow hwA (Nat.le_refl _) _
theorem EvI.marks {w : World} {base g n cap k : Nat} {x : List (Int × List (Int × Bool))} {e : Int × List (Int × Bool)} {u : Value} (h : EvI w base (.slice (some ⟨g, 0, Option.none⟩) n cap) x) (hn : x.length = n) (he : x[k]? = some e) (hu : MkS w u e.2) (hq : ∀ q, u.ownBlock = some q → g ≠ q) :
    EvI (w.setCell ⟨g, k * 2 + 1, Option.none⟩ u) base (.slice (some ⟨g, 0, Option.none⟩) n cap) x ∧ w.grownBy (w.setCell ⟨g, k * 2 + 1, Option.none⟩ u) (some g) := by
  obtain ⟨cs, hown, hc⟩ := h
  rw [hn] at hown
  obtain ⟨o1, g1⟩ := hown.stored (k * 2 + 1) u
  have hkl := (List.getElem?_eq_some_iff.1 he).1
  have hcl : cs.length = n * 2 := hown.1
  refine ⟨⟨cs.set (k * 2 + 1) u, by rw [hn]; exact o1, fun i f hf => ?_⟩, g1⟩
  obtain ⟨h1, c, h2, h3, h4⟩ := hc i f hf
  refine ⟨by rw [List.getElem?_set_ne (by omega)]; exact h1, ?_⟩
  by_cases hik : i = k
  · subst hik
    rw [he] at hf
    obtain rfl := Option.some.inj hf
    exact ⟨u, by rw [List.getElem?_set_self (by omega)], mk_set hu (fun q hq' e => hq q hq' (Option.some.inj e)), fun q hq' e => hq q hq' (Option.some.inj e)⟩
  · exact ⟨c, by rw [List.getElem?_set_ne (by omega)]; exact h2, mk_set h3 h4, h4⟩
end Go.Proofs.Ytcbpkagegdfidaa
