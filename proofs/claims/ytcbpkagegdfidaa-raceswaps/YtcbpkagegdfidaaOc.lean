/- What law 11's statements ask of clock.New, Before, Clocks, each as one contract. -/
import Derived.Test.YtcbpkagegdfidaaEk
set_option linter.unusedSimpArgs false
set_option linter.unusedVariables false
namespace Go.Proofs.Ytcbpkagegdfidaa
open Go.RowKit

/-- Does one place happen ahead of another one? (Of any two numbers.) -/
noncomputable def hbI (x : Evl) (i j : Int) : Bool := decide (0 ≤ i) && decide (0 ≤ j) && hbd edep x i.toNat j.toNat
theorem hbI_nat (x : Evl) (i j : Nat) : hbI x (i : Int) (j : Int) = hbd edep x i j := by
  unfold hbI
  rw [decide_eq_true (by omega : (0 : Int) ≤ (i : Int)), decide_eq_true (by omega : (0 : Int) ≤ (j : Int))]
  rfl
theorem hbI_true {x : Evl} {i j : Int} (h : hbI x i j = true) : 0 ≤ i ∧ i < j ∧ j < x.length := by
  unfold hbI at h
  simp only [Bool.and_eq_true, decide_eq_true_eq] at h
  have h1 := (hbd_iff.1 h.2).lt
  have h2 := (hbd_iff.1 h.2).len
  omega
theorem hbd_lt {x : Evl} {i j : Nat} (h : hbd edep x i j = true) : i < j := (hbd_iff.1 h).lt
theorem hbd_trans {x : Evl} {i j k : Nat} (h : hbd edep x i j = true) (g : hbd edep x j k = true) : hbd edep x i k = true := hbd_iff.2 ((hbd_iff.1 h).trans (hbd_iff.1 g))
theorem hbd_dep {x : Evl} {i j : Nat} {a b : Int × List (Int × Bool)} (hij : i < j) (ha : x[i]? = some a) (hb : x[j]? = some b) (h : edep a b = true) : hbd edep x i j = true :=
  hbd_iff.2 (hb_iff.2 ⟨b, hb, .inl ⟨hij, a, ha, h⟩⟩)
/-- An order lies in memory: what its fields are. -/
def OrdV (Ob : World → Value → Evl → Prop) (w : World) (v : Value) (x : Evl) : Prop := ∃ p m c, v = .agg #[.slice p m c] ∧ Ob w (.slice p m c) x
def KpO (Ob : World → Value → Evl → Prop) : Prop := ∀ w w' v x, Ob w v x → Below w.heap.size w w' → Ob w' v x
def AwO : Prop := ∀ w, Calls Try.prog 37 #[] w fun e w' => e = .returned (.bool true) ∧ Below w.heap.size w w'
def NewO (Ob : World → Value → Evl → Prop) : Prop := ∀ (x : Evl) v w, EvS w v x → Evk x → Calls Try.prog 25 #[v] w fun e w' => ∃ v', e = .returned v' ∧ OrdV Ob w' v' x ∧ Below w.heap.size w w'
def BefO (Ob : World → Value → Evl → Prop) : Prop := ∀ (x : Evl) p m c (i j : Int) w, Ob w (.slice p m c) x → Evk x → Calls Try.prog 27 #[.agg #[.slice p m c], .int .i64 i, .int .i64 j] w fun e w' => e = .returned (.bool (hbI x i j)) ∧ Below w.heap.size w w'
end Go.Proofs.Ytcbpkagegdfidaa
