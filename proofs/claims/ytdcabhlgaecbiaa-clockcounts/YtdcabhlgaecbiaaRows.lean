/-
  No cell of these rows narrows 'for every input' (looked for: loops, veiled, ifaces, maps, wideKeys, modest, calm, conditions, laid).
  DERIVED. THE GIVEN ROWS OF THIS SEAT. 4 by the template 'for every input the law returns true; each argument reads behind the call as it read before'; 0 by the template 'total and deterministic' (their statements: YtdcabhlgaecbiaaTotals.lean).
  GIVEN WITH THE SEED: the statements are not yours to turn. If you find one false, say at which input.
  Laid BY PROGRAM, IN A SANDBOX (cutbox-rows.mjs): the forced cells as the released guide's own fill.sh prints them over the translation 07d742f14d2a0f99… (all of the seat's roots in one cut). By AI agents, Wed Nov 11 2026. No macro, syntax, notation, axiom, sorry.
-/
import Derived.Test.YtdcabhlgaecbiaaChecked
import GoSem.Claim
import GoSem.ClaimJoined
import GoSem.ClaimMapViews
import Derived.JoinedTies
import Derived.KernelRfl
namespace Go.Proofs.Ytdcabhlgaecbiaa
/- THE CELL 'sum', in the pinned program and in every row, IS THE sha256 OF THE DUMP (.gsa) THAT YtdcabhlgaecbiaaProg.lean LOADS. Nothing in Lean hashes anything: it is a label: what it is worth is what the hold of that sum in a sandbox is worth. -/
noncomputable def Try.pinned : Pinned := { name := "ytdcabhlgaecbiaa", sum := "07d742f14d2a0f99241d1a48d53527b00480fdbf9a8c08e6ebfdbed37206dcdc", checked := Try.checked }
namespace Rows
def none {H : Type} : Left H := { results := [], args := [] }

/-- 'braidworklaw11.ClockOrders': WHATEVER THE INPUT: true; the input reads as it did. -/
def clockOrdersSpec : ChangeSpec := { name := "clockOrders", fn := fun _ => fun
  | [d1, d2, d3] => { results := [.lit (.bool true)], args := [d1, d2, d3] }
  | _ => none }
def clockOrdersRow : OpenClaim := { program := "ytdcabhlgaecbiaa", sum := "07d742f14d2a0f99241d1a48d53527b00480fdbf9a8c08e6ebfdbed37206dcdc", func := "braidwork/braidworklaw11.ClockOrders", spec := "clockOrders", unfollowed := true, recurses := true, apart := false }
def ClockOrdersSaid : Prop := clockOrdersRow.holds Try.pinned (OpenSpec.ofChange clockOrdersSpec)

/-- ITS FALSE NEIGHBOUR: 'it returns false'. Refute it at one input. -/
def clockOrdersWrong : ChangeSpec := { name := "clockOrders", fn := fun _ => fun
  | [d1, d2, d3] => { results := [.lit (.bool false)], args := [d1, d2, d3] }
  | _ => none }
def ClockOrdersWrongFalsely : Prop := clockOrdersRow.holds Try.pinned (OpenSpec.ofChange clockOrdersWrong)

/-- 'braidworklaw11.ClockCounts': WHATEVER THE INPUT: true; the input reads as it did. -/
def clockCountsSpec : ChangeSpec := { name := "clockCounts", fn := fun _ => fun
  | [d1, d2] => { results := [.lit (.bool true)], args := [d1, d2] }
  | _ => none }
def clockCountsRow : OpenClaim := { program := "ytdcabhlgaecbiaa", sum := "07d742f14d2a0f99241d1a48d53527b00480fdbf9a8c08e6ebfdbed37206dcdc", func := "braidwork/braidworklaw11.ClockCounts", spec := "clockCounts", unfollowed := true, recurses := true, apart := false }
def ClockCountsSaid : Prop := clockCountsRow.holds Try.pinned (OpenSpec.ofChange clockCountsSpec)

/-- ITS FALSE NEIGHBOUR: 'it returns false'. Refute it at one input. -/
def clockCountsWrong : ChangeSpec := { name := "clockCounts", fn := fun _ => fun
  | [d1, d2] => { results := [.lit (.bool false)], args := [d1, d2] }
  | _ => none }
def ClockCountsWrongFalsely : Prop := clockCountsRow.holds Try.pinned (OpenSpec.ofChange clockCountsWrong)

/-- 'braidworklaw11.ClockSwaps': WHATEVER THE INPUT: true; the input reads as it did. -/
def clockSwapsSpec : ChangeSpec := { name := "clockSwaps", fn := fun _ => fun
  | [d1, d2] => { results := [.lit (.bool true)], args := [d1, d2] }
  | _ => none }
def clockSwapsRow : OpenClaim := { program := "ytdcabhlgaecbiaa", sum := "07d742f14d2a0f99241d1a48d53527b00480fdbf9a8c08e6ebfdbed37206dcdc", func := "braidwork/braidworklaw11.ClockSwaps", spec := "clockSwaps", unfollowed := true, recurses := true, apart := false }
def ClockSwapsSaid : Prop := clockSwapsRow.holds Try.pinned (OpenSpec.ofChange clockSwapsSpec)

/-- ITS FALSE NEIGHBOUR: 'it returns false'. Refute it at one input. -/
def clockSwapsWrong : ChangeSpec := { name := "clockSwaps", fn := fun _ => fun
  | [d1, d2] => { results := [.lit (.bool false)], args := [d1, d2] }
  | _ => none }
def ClockSwapsWrongFalsely : Prop := clockSwapsRow.holds Try.pinned (OpenSpec.ofChange clockSwapsWrong)

/-- 'braidworklaw11.ClockTrans': WHATEVER THE INPUT: true; the input reads as it did. -/
def clockTransSpec : ChangeSpec := { name := "clockTrans", fn := fun _ => fun
  | [d] => { results := [.lit (.bool true)], args := [d] }
  | _ => none }
def clockTransRow : OpenClaim := { program := "ytdcabhlgaecbiaa", sum := "07d742f14d2a0f99241d1a48d53527b00480fdbf9a8c08e6ebfdbed37206dcdc", func := "braidwork/braidworklaw11.ClockTrans", spec := "clockTrans", unfollowed := true, recurses := true, apart := false }
def ClockTransSaid : Prop := clockTransRow.holds Try.pinned (OpenSpec.ofChange clockTransSpec)

/-- ITS FALSE NEIGHBOUR: 'it returns false'. Refute it at one input. -/
def clockTransWrong : ChangeSpec := { name := "clockTrans", fn := fun _ => fun
  | [d] => { results := [.lit (.bool false)], args := [d] }
  | _ => none }
def ClockTransWrongFalsely : Prop := clockTransRow.holds Try.pinned (OpenSpec.ofChange clockTransWrong)

/- THE SECOND FORM. 'bulk': how many values and letters a reading holds, each counted each time it is reached (what is shared counts as often as it is met; a slice's spare places count too). A statement '..UptoSaid' is the law's where the arguments, and the package variables that the reading takes, are together of bulk at most 1048576: NARROWER than '..Said'. Prove '..Said' where nothing that the law and all that it calls make is longer than what came in: it says more and counts as full. Else prove '..UptoSaid'. A law counts once. -/
mutual
def uptoBulk {H : Type} : DataW H → Nat
  | .lit (.string bytes) => bytes.length + 1
  | .lit _ => 1
  | .nil => 1
  | .ptr d => uptoBulk d + 1
  | .slice elems spare => uptoBulkAll elems + uptoBulkAll spare + 1
  | .agg parts => uptoBulkAll parts + 1
  | .iface _ d => uptoBulk d + 1
  | .map entries => uptoBulkEntries entries + 1
  | .held _ => 1
def uptoBulkAll {H : Type} : List (DataW H) → Nat
  | [] => 0
  | d :: r => uptoBulk d + uptoBulkAll r
def uptoBulkEntries {H : Type} : List (Lit × DataW H) → Nat
  | [] => 0
  | x :: r => uptoBulkEntry x + uptoBulkEntries r
def uptoBulkEntry {H : Type} : Lit × DataW H → Nat
  | (.string bytes, d) => bytes.length + uptoBulk d + 1
  | (_, d) => uptoBulk d + 1
 end
def uptoSmall : (H : Type) → List (DataW H) → Bool := fun _ ds => decide (uptoBulkAll ds ≤ 1048576)
def OpenSpec.upto (s : _root_.Go.ChangeSpec) : _root_.Go.OpenSpec := { _root_.Go.OpenSpec.ofChange s with cond := some uptoSmall }

/-- 'braidworklaw11.ClockOrders', WHERE WHAT IT READS IS OF BULK AT MOST 1048576: true; the input reads as it did. -/
def clockOrdersUptoRow : OpenClaim := { program := "ytdcabhlgaecbiaa", sum := "07d742f14d2a0f99241d1a48d53527b00480fdbf9a8c08e6ebfdbed37206dcdc", func := "braidwork/braidworklaw11.ClockOrders", spec := "clockOrders", unfollowed := true, recurses := true, apart := false, narrowed := true }
def ClockOrdersUptoSaid : Prop := clockOrdersUptoRow.holds Try.pinned (OpenSpec.upto clockOrdersSpec)

/-- 'braidworklaw11.ClockCounts', WHERE WHAT IT READS IS OF BULK AT MOST 1048576: true; the input reads as it did. -/
def clockCountsUptoRow : OpenClaim := { program := "ytdcabhlgaecbiaa", sum := "07d742f14d2a0f99241d1a48d53527b00480fdbf9a8c08e6ebfdbed37206dcdc", func := "braidwork/braidworklaw11.ClockCounts", spec := "clockCounts", unfollowed := true, recurses := true, apart := false, narrowed := true }
def ClockCountsUptoSaid : Prop := clockCountsUptoRow.holds Try.pinned (OpenSpec.upto clockCountsSpec)

/-- 'braidworklaw11.ClockSwaps', WHERE WHAT IT READS IS OF BULK AT MOST 1048576: true; the input reads as it did. -/
def clockSwapsUptoRow : OpenClaim := { program := "ytdcabhlgaecbiaa", sum := "07d742f14d2a0f99241d1a48d53527b00480fdbf9a8c08e6ebfdbed37206dcdc", func := "braidwork/braidworklaw11.ClockSwaps", spec := "clockSwaps", unfollowed := true, recurses := true, apart := false, narrowed := true }
def ClockSwapsUptoSaid : Prop := clockSwapsUptoRow.holds Try.pinned (OpenSpec.upto clockSwapsSpec)

/-- 'braidworklaw11.ClockTrans', WHERE WHAT IT READS IS OF BULK AT MOST 1048576: true; the input reads as it did. -/
def clockTransUptoRow : OpenClaim := { program := "ytdcabhlgaecbiaa", sum := "07d742f14d2a0f99241d1a48d53527b00480fdbf9a8c08e6ebfdbed37206dcdc", func := "braidwork/braidworklaw11.ClockTrans", spec := "clockTrans", unfollowed := true, recurses := true, apart := false, narrowed := true }
def ClockTransUptoSaid : Prop := clockTransUptoRow.holds Try.pinned (OpenSpec.upto clockTransSpec)

end Rows
end Go.Proofs.Ytdcabhlgaecbiaa
