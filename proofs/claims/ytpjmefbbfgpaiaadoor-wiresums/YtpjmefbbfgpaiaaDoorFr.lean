/- From the row's list to the table; what all laws of this seat share on the way from the walk to the card. -/
import Derived.Test.YtpjmefbbfgpaiaaDoorCards
import Derived.Test.YtpjmefbbfgpaiaaDoorTie
import Derived.Test.YtpjmefbbfgpaiaaDoorAw
import Derived.ProofKit
import Derived.OpenShut
import Derived.Deep.DeepHandedRow
import Derived.Lib.LaidTab
namespace Go.Proofs.YtpjmefbbfgpaiaaDoor
open Go.ChangeShapes Go.WideShapes Go.ChangeAt Go.RowKit

theorem own : ownKnob Tryd.prog.godebug = none := by kernel_rfl
theorem laidOut : laidOutB Tryd.prog = true := by kernel_rfl
theorem gTab : Tryd.prog.globalNamed "braidwork/wire.halfSums" = some 0 := by kernel_rfl
theorem gTabType : (Tryd.prog.globals[0]?).map (·.type) = some 60 := by kernel_rfl
theorem cells60 : Tryd.prog.cellsOf 60 = 16 := by kernel_rfl
theorem cells49 : Tryd.prog.cellsOf 49 = 1 := by kernel_rfl
def tabI : List Int := [0, 498536548, 997073096, 651767980, 1994146192, 1802195444, 1303535960, 1342533948, 3988292384, 4027552580, 3604390888, 3412177804, 2607071920, 2262029012, 2685067896, 3183342108]

theorem lt_of_cell {w : World} {a : Addr} {v : Value} (h : w.cell? a = some v) : a.block < w.heap.size := by
  rcases Nat.lt_or_ge a.block w.heap.size with hlt | hge
  · exact hlt
  · simp [World.cell?, Array.getElem?_eq_none hge] at h

/-- What the rows' list gives: the table's cells hold its numbers. -/
theorem tab_of {W : World} (h : laidMetH Tryd.prog [("braidwork/wire.halfSums", Rows.laid_braidwork_wire_halfSums)] W) : Tab W := by
  have ht : Lib.TabIs Tryd.prog W "braidwork/wire.halfSums" .u32 tabI := Lib.tabIs_of_head (rest := []) gTab gTabType Tryd.underlying60 Tryd.underlying49 cells49 cells60 h
  have hc : ∀ i, i < 16 → W.cell? ⟨0, i, none⟩ = some (.int .u32 (tabI.getD i 0)) := fun i hi => ht.cell gTab i hi
  have he : ∀ i, i < 16 → tabI.getD i 0 = ((tab.getD i 0 : Nat) : Int) := by decide
  exact ⟨lt_of_cell (hc 0 (by omega)), fun i hi => by rw [hc i hi, he i hi]⟩

/-- A world for the witness: the settled one, the table (block 0) holding what its initialiser lays. -/
noncomputable def laidWorld (os : Os) : World :=
  { World.holding Tryd.prog os ⟨#[], #[], []⟩ with heap := (World.holding Tryd.prog os ⟨#[], #[], []⟩).heap.modify 0 fun
      | .cells _ t frozen => .cells (tabI.map (Value.int .u32)).toArray t frozen
      | o => o }

/-- An integer that fits 64 bits is one of our numbers. -/
theorem nat_of_u64 {x : Int} (h : (Lit.int .u64 x).wf = true) : ∃ n : Nat, x = (n : Int) ∧ Fits64 n := by
  have hb := bounds_u64 h
  refine ⟨x.toNat, by omega, ?_⟩
  unfold Fits64
  omega
end Go.Proofs.YtpjmefbbfgpaiaaDoor
