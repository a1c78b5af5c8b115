/- Events as the laws make them; their threads; how many happen ahead. -/
import Derived.Test.YtcbpkagegdfidaaAe
import Derived.Test.YtcbpkagegdfidaaTz
set_option linter.unusedSimpArgs false
set_option linter.unusedVariables false
namespace Go.Proofs.Ytcbpkagegdfidaa
open Go.RowKit

abbrev Evl := List (Int × List (Int × Bool))
/-- Events as the laws make them: not many, few marks, threads from 0 to 4. -/
def Evk (x : Evl) : Prop := x.length ≤ 60 ∧ ∀ e ∈ x, e.2.length ≤ 1000 ∧ 0 ≤ e.1 ∧ e.1 < 5
theorem Evk.sub {x y : Evl} (h : Evk x) (hl : y.length ≤ 60) (hs : ∀ e ∈ y, e ∈ x) : Evk y := ⟨hl, fun e he => h.2 e (hs e he)⟩
theorem Evk.tr {x y : Evl} (h : Evk x) (ht : Tr edep x y) : Evk y := ⟨by rw [← ht.len]; exact h.1, fun e he => h.2 e (ht.perm.mem_iff.2 he)⟩
theorem Evk.nf {x : Evl} (h : Evk x) : Evk (nf edep (·.1) x) := h.tr (nf_tr x)
theorem Evk.mk8 {x : Evl} (h : Evk x) : ∀ e ∈ x, e.2.length ≤ 1000 := fun e he => (h.2 e he).1
theorem evs_k {l : Evl} (hl : l.length ≤ 60) (hok : eok l) (h8 : ∀ e ∈ l, e.2.length ≤ 8) : Evk (evs l) := by
  refine ⟨by rw [evs_len]; exact hl, fun e he => ?_⟩
  unfold evs at he
  obtain ⟨f, hf, rfl⟩ := List.mem_map.1 he
  have h1 := nrm_len f.2
  have h2 := h8 f hf
  have h3 := (hok f hf).1
  exact ⟨by show (nrm f.2).length ≤ 1000; omega, by show 0 ≤ f.1 % 5; omega, by show f.1 % 5 < 5; omega⟩
theorem ES.kept {w w' : World} {v : Value} {l : Evl} (h : ES w v l) (k : Below w.heap.size w w') : ES w' v l := by
  rcases h with h | ⟨a, cap, h1, h2, h3, h4⟩
  · exact .inl h
  · refine .inr ⟨a, cap, h1, h2, h3, fun hl => ?_⟩
    obtain ⟨b, o, hp, hb, hr⟩ := h4 hl
    refine ⟨b, o, hp, Nat.lt_of_lt_of_le hb k.size, fun i e hi => ?_⟩
    obtain ⟨g1, u, g2, g3⟩ := hr i e hi
    exact ⟨(k.cell (p := ⟨b, _, Option.none⟩) hb).trans g1, u, (k.cell (p := ⟨b, _, Option.none⟩) hb).trans g2, g3.kept k⟩
/-- Few enough. -/
def lgt (l : Evl) (most : Int) : Bool := l.all (fun e => decide (e.2.length ≤ 8)) && decide ((l.length : Int) ≤ most)
theorem lgt_true {l : Evl} {most : Int} (h : lgt l most = true) : (∀ e ∈ l, e.2.length ≤ 8) ∧ (l.length : Int) ≤ most := by
  unfold lgt at h
  simp only [Bool.and_eq_true, List.all_eq_true, decide_eq_true_eq] at h
  exact h
theorem dep_thr (a b : Int × List (Int × Bool)) (h : a.1 = b.1) : edep a b = true := by simp [edep, h]
theorem hbd_mem (x : Evl) (i k : Nat) : decide (i ∈ ahd edep x k) = hbd edep x i k := by
  rw [Bool.eq_iff_iff, decide_eq_true_eq, mem_ahd, hbd_iff]
theorem ahd_len (x : Evl) (k : Nat) : (ahd edep x k).length ≤ k := ahn_len k k
/-- The threads by places. -/
def thi (x : List (Int × List (Int × Bool))) (i : Nat) : Int := (x[i]!).1
theorem thi_at {x : List (Int × List (Int × Bool))} {i : Nat} {e : Int × List (Int × Bool)} (he : x[i]? = some e) : thi x i = e.1 := by
  obtain ⟨h1, h2⟩ := List.getElem?_eq_some_iff.1 he
  unfold thi
  rw [getElem!_pos x i h1, h2]
end Go.Proofs.Ytcbpkagegdfidaa
