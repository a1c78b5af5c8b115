/- What the statements of stages 11 to 13 ask of the program's own functions, each as one contract; what all of them begin with. -/
import Derived.Test.YtcbpkagegdfidaaEk
import Derived.Test.YtcbpkagegdfidaaNb
import Derived.Test.YtcbpkagegdfidaaCe
import Derived.Test.YtcbpkagegdfidaaXc
import Derived.Test.YtcbpkagegdfidaaEq
set_option linter.unusedSimpArgs false
set_option linter.unusedVariables false
namespace Go.Proofs.Ytcbpkagegdfidaa
open Go.RowKit

theorem tr_nf {x y : Evl} : Tr edep x y ↔ nf edep (·.1) x = nf edep (·.1) y := tr_iff_nf edep_refl edep_symm dep_thr
/-- The same but for swaps? -/
def smb (x y : Evl) : Bool := decide (nf edep (·.1) x = nf edep (·.1) y)
theorem smb_iff {x y : Evl} : smb x y = true ↔ Tr edep x y := by rw [tr_nf]; simp [smb]
/-- The threads of the events that none ahead of them depends on, as bits. -/
def bitsI : List Int → Nat
  | [] => 0
  | t :: l => (1 <<< t.toNat) ||| bitsI l
def ini (x : Evl) : Nat := bitsI (((picks edep x).map (·.1)).map (·.1))
theorem bits_mem : ∀ (l : List Int) (k : Nat), (bitsI l).testBit k = l.any fun t => decide (t.toNat = k)
  | [], k => by simp [bitsI]
  | t :: l, k => by
    rw [bitsI, Nat.testBit_or, bits_mem l k, List.any_cons]
    congr 1
    rw [Nat.one_shiftLeft, Nat.testBit_two_pow]
theorem bits_ext {l m : List Int} (h : ∀ t, t ∈ l ↔ t ∈ m) : bitsI l = bitsI m := by
  apply Nat.eq_of_testBit_eq
  intro k
  rw [bits_mem, bits_mem]
  rw [Bool.eq_iff_iff, List.any_eq_true, List.any_eq_true]
  exact ⟨fun ⟨t, h1, h2⟩ => ⟨t, (h t).1 h1, h2⟩, fun ⟨t, h1, h2⟩ => ⟨t, (h t).2 h1, h2⟩⟩
theorem ini_tr {x y : Evl} (h : Tr edep x y) : ini x = ini y := by
  unfold ini
  refine bits_ext fun t => ?_
  simp only [List.mem_map]
  have key : ∀ {x y : Evl}, Tr edep x y → (∃ a, (∃ p, p ∈ picks edep x ∧ p.1 = a) ∧ a.1 = t) → ∃ a, (∃ p, p ∈ picks edep y ∧ p.1 = a) ∧ a.1 = t := by
    rintro x y h ⟨_, ⟨⟨a, r⟩, hp, rfl⟩, ht⟩
    obtain ⟨s, hs, _⟩ := Tr.picks edep_refl edep_symm h hp
    exact ⟨a, ⟨(a, s), hs, rfl⟩, ht⟩
  exact ⟨key h, key (h.symm edep_symm)⟩
def AwB : Prop := ∀ w, Calls Try.prog 23 #[] w fun e w' => e = .returned (.bool true) ∧ Below w.heap.size w w'
def NormC : Prop := ∀ (x : Evl) v w, EvS w v x → Evk x → Calls Try.prog 36 #[v] w fun e w' => ∃ v', e = .returned v' ∧ NsS w' v' (nfI edep (·.1) x) ∧ Below w.heap.size w w'
def IniC : Prop := ∀ (x : Evl) v w, EvS w v x → Evk x → Calls Try.prog 35 #[v] w fun e w' => e = .returned (.int .u64 (ini x : Nat)) ∧ Below w.heap.size w w'
end Go.Proofs.Ytcbpkagegdfidaa
