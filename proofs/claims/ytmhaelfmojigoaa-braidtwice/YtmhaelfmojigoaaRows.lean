/-
  No cell of these rows narrows 'for every input' (looked for: loops, veiled, ifaces, maps, wideKeys, modest, calm, conditions, laid).
  DERIVED. THE GIVEN ROWS OF THIS SEAT. 6 by the template 'for every input the law returns true; each argument reads behind the call as it read before'; 0 by the template 'total and deterministic' (their statements: YtmhaelfmojigoaaTotals.lean).
  GIVEN WITH THE SEED: the statements are not yours to turn. If you find one false, say at which input.
  Laid BY PROGRAM, IN A SANDBOX (cutbox-rows.mjs): the forced cells as the released guide's own fill.sh prints them over the translation dd7a73a545e8b944… (all of the seat's roots in one cut). By AI agents, Wed Nov 11 2026. No macro, syntax, notation, axiom, sorry.
-/
import Derived.Test.YtmhaelfmojigoaaChecked
import GoSem.Claim
import GoSem.ClaimJoined
import GoSem.ClaimMapViews
import Derived.JoinedTies
import Derived.KernelRfl
namespace Go.Proofs.Ytmhaelfmojigoaa
/- THE CELL 'sum', in the pinned program and in every row, IS THE sha256 OF THE DUMP (.gsa) THAT YtmhaelfmojigoaaProg.lean LOADS. Nothing in Lean hashes anything: it is a label: what it is worth is what the hold of that sum in a sandbox is worth. -/
noncomputable def Try.pinned : Pinned := { name := "ytmhaelfmojigoaa", sum := "dd7a73a545e8b9440558c0725ea005948e55b6c11a08521834c5ffacda249643", checked := Try.checked }
namespace Rows
def none {H : Type} : Left H := { results := [], args := [] }

/-- 'braidworklaw12.BraidNormals': WHATEVER THE INPUT: true; the input reads as it did. -/
def braidNormalsSpec : ChangeSpec := { name := "braidNormals", fn := fun _ => fun
  | [d] => { results := [.lit (.bool true)], args := [d] }
  | _ => none }
def braidNormalsRow : OpenClaim := { program := "ytmhaelfmojigoaa", sum := "dd7a73a545e8b9440558c0725ea005948e55b6c11a08521834c5ffacda249643", func := "braidwork/braidworklaw12.BraidNormals", spec := "braidNormals", unfollowed := true, recurses := true, apart := false }
def BraidNormalsSaid : Prop := braidNormalsRow.holds Try.pinned (OpenSpec.ofChange braidNormalsSpec)

/-- ITS FALSE NEIGHBOUR: 'it returns false'. Refute it at one input. -/
def braidNormalsWrong : ChangeSpec := { name := "braidNormals", fn := fun _ => fun
  | [d] => { results := [.lit (.bool false)], args := [d] }
  | _ => none }
def BraidNormalsWrongFalsely : Prop := braidNormalsRow.holds Try.pinned (OpenSpec.ofChange braidNormalsWrong)

/-- 'braidworklaw12.BraidSwaps': WHATEVER THE INPUT: true; the input reads as it did. -/
def braidSwapsSpec : ChangeSpec := { name := "braidSwaps", fn := fun _ => fun
  | [d1, d2, d3] => { results := [.lit (.bool true)], args := [d1, d2, d3] }
  | _ => none }
def braidSwapsRow : OpenClaim := { program := "ytmhaelfmojigoaa", sum := "dd7a73a545e8b9440558c0725ea005948e55b6c11a08521834c5ffacda249643", func := "braidwork/braidworklaw12.BraidSwaps", spec := "braidSwaps", unfollowed := true, recurses := true, apart := false }
def BraidSwapsSaid : Prop := braidSwapsRow.holds Try.pinned (OpenSpec.ofChange braidSwapsSpec)

/-- ITS FALSE NEIGHBOUR: 'it returns false'. Refute it at one input. -/
def braidSwapsWrong : ChangeSpec := { name := "braidSwaps", fn := fun _ => fun
  | [d1, d2, d3] => { results := [.lit (.bool false)], args := [d1, d2, d3] }
  | _ => none }
def BraidSwapsWrongFalsely : Prop := braidSwapsRow.holds Try.pinned (OpenSpec.ofChange braidSwapsWrong)

/-- 'braidworklaw12.BraidWhole': WHATEVER THE INPUT: true; the input reads as it did. -/
def braidWholeSpec : ChangeSpec := { name := "braidWhole", fn := fun _ => fun
  | [d1, d2] => { results := [.lit (.bool true)], args := [d1, d2] }
  | _ => none }
def braidWholeRow : OpenClaim := { program := "ytmhaelfmojigoaa", sum := "dd7a73a545e8b9440558c0725ea005948e55b6c11a08521834c5ffacda249643", func := "braidwork/braidworklaw12.BraidWhole", spec := "braidWhole", unfollowed := true, recurses := true, apart := false }
def BraidWholeSaid : Prop := braidWholeRow.holds Try.pinned (OpenSpec.ofChange braidWholeSpec)

/-- ITS FALSE NEIGHBOUR: 'it returns false'. Refute it at one input. -/
def braidWholeWrong : ChangeSpec := { name := "braidWhole", fn := fun _ => fun
  | [d1, d2] => { results := [.lit (.bool false)], args := [d1, d2] }
  | _ => none }
def BraidWholeWrongFalsely : Prop := braidWholeRow.holds Try.pinned (OpenSpec.ofChange braidWholeWrong)

/-- 'braidworklaw12.BraidInitials': WHATEVER THE INPUT: true; the input reads as it did. -/
def braidInitialsSpec : ChangeSpec := { name := "braidInitials", fn := fun _ => fun
  | [d1, d2] => { results := [.lit (.bool true)], args := [d1, d2] }
  | _ => none }
def braidInitialsRow : OpenClaim := { program := "ytmhaelfmojigoaa", sum := "dd7a73a545e8b9440558c0725ea005948e55b6c11a08521834c5ffacda249643", func := "braidwork/braidworklaw12.BraidInitials", spec := "braidInitials", unfollowed := true, recurses := true, apart := false }
def BraidInitialsSaid : Prop := braidInitialsRow.holds Try.pinned (OpenSpec.ofChange braidInitialsSpec)

/-- ITS FALSE NEIGHBOUR: 'it returns false'. Refute it at one input. -/
def braidInitialsWrong : ChangeSpec := { name := "braidInitials", fn := fun _ => fun
  | [d1, d2] => { results := [.lit (.bool false)], args := [d1, d2] }
  | _ => none }
def BraidInitialsWrongFalsely : Prop := braidInitialsRow.holds Try.pinned (OpenSpec.ofChange braidInitialsWrong)

/-- 'braidworklaw12.BraidTwice': WHATEVER THE INPUT: true; the input reads as it did. -/
def braidTwiceSpec : ChangeSpec := { name := "braidTwice", fn := fun _ => fun
  | [d] => { results := [.lit (.bool true)], args := [d] }
  | _ => none }
def braidTwiceRow : OpenClaim := { program := "ytmhaelfmojigoaa", sum := "dd7a73a545e8b9440558c0725ea005948e55b6c11a08521834c5ffacda249643", func := "braidwork/braidworklaw12.BraidTwice", spec := "braidTwice", unfollowed := true, recurses := true, apart := false }
def BraidTwiceSaid : Prop := braidTwiceRow.holds Try.pinned (OpenSpec.ofChange braidTwiceSpec)

/-- ITS FALSE NEIGHBOUR: 'it returns false'. Refute it at one input. -/
def braidTwiceWrong : ChangeSpec := { name := "braidTwice", fn := fun _ => fun
  | [d] => { results := [.lit (.bool false)], args := [d] }
  | _ => none }
def BraidTwiceWrongFalsely : Prop := braidTwiceRow.holds Try.pinned (OpenSpec.ofChange braidTwiceWrong)

/-- 'braidworklaw12.BraidPairs': WHATEVER THE INPUT: true; the input reads as it did. -/
def braidPairsSpec : ChangeSpec := { name := "braidPairs", fn := fun _ => fun
  | [d1, d2] => { results := [.lit (.bool true)], args := [d1, d2] }
  | _ => none }
def braidPairsRow : OpenClaim := { program := "ytmhaelfmojigoaa", sum := "dd7a73a545e8b9440558c0725ea005948e55b6c11a08521834c5ffacda249643", func := "braidwork/braidworklaw12.BraidPairs", spec := "braidPairs", unfollowed := true, recurses := true, apart := false }
def BraidPairsSaid : Prop := braidPairsRow.holds Try.pinned (OpenSpec.ofChange braidPairsSpec)

/-- ITS FALSE NEIGHBOUR: 'it returns false'. Refute it at one input. -/
def braidPairsWrong : ChangeSpec := { name := "braidPairs", fn := fun _ => fun
  | [d1, d2] => { results := [.lit (.bool false)], args := [d1, d2] }
  | _ => none }
def BraidPairsWrongFalsely : Prop := braidPairsRow.holds Try.pinned (OpenSpec.ofChange braidPairsWrong)

/- THE SECOND FORM. 'bulk': how many values and letters a reading holds, each counted each time it is reached (what is shared counts as often as it is met; a slice's spare places count too). A statement '..UptoSaid' is the law's where the arguments, and the package variables that the reading takes, are together of bulk at most 1048576: NARROWER than '..Said'. Prove '..Said' where nothing that the law and all that it calls make is longer than what came in: it says more and counts as full. Else prove '..UptoSaid'. A law counts once. -/
mutual
def uptoBulk {H : Type} : DataW H → Nat
  | .lit (.string bytes) => bytes.length + 1
  | .lit _ => 1
  | .nil => 1
  | .ptr d => uptoBulk d + 1
  | .slice elems spare => uptoBulkAll elems + uptoBulkAll spare + 1
  | .agg parts => uptoBulkAll parts + 1
  | .iface _ d => uptoBulk d + 1
  | .map entries => uptoBulkEntries entries + 1
  | .held _ => 1
def uptoBulkAll {H : Type} : List (DataW H) → Nat
  | [] => 0
  | d :: r => uptoBulk d + uptoBulkAll r
def uptoBulkEntries {H : Type} : List (Lit × DataW H) → Nat
  | [] => 0
  | x :: r => uptoBulkEntry x + uptoBulkEntries r
def uptoBulkEntry {H : Type} : Lit × DataW H → Nat
  | (.string bytes, d) => bytes.length + uptoBulk d + 1
  | (_, d) => uptoBulk d + 1
 end
def uptoSmall : (H : Type) → List (DataW H) → Bool := fun _ ds => decide (uptoBulkAll ds ≤ 1048576)
def OpenSpec.upto (s : _root_.Go.ChangeSpec) : _root_.Go.OpenSpec := { _root_.Go.OpenSpec.ofChange s with cond := some uptoSmall }

/-- 'braidworklaw12.BraidNormals', WHERE WHAT IT READS IS OF BULK AT MOST 1048576: true; the input reads as it did. -/
def braidNormalsUptoRow : OpenClaim := { program := "ytmhaelfmojigoaa", sum := "dd7a73a545e8b9440558c0725ea005948e55b6c11a08521834c5ffacda249643", func := "braidwork/braidworklaw12.BraidNormals", spec := "braidNormals", unfollowed := true, recurses := true, apart := false, narrowed := true }
def BraidNormalsUptoSaid : Prop := braidNormalsUptoRow.holds Try.pinned (OpenSpec.upto braidNormalsSpec)

/-- 'braidworklaw12.BraidSwaps', WHERE WHAT IT READS IS OF BULK AT MOST 1048576: true; the input reads as it did. -/
def braidSwapsUptoRow : OpenClaim := { program := "ytmhaelfmojigoaa", sum := "dd7a73a545e8b9440558c0725ea005948e55b6c11a08521834c5ffacda249643", func := "braidwork/braidworklaw12.BraidSwaps", spec := "braidSwaps", unfollowed := true, recurses := true, apart := false, narrowed := true }
def BraidSwapsUptoSaid : Prop := braidSwapsUptoRow.holds Try.pinned (OpenSpec.upto braidSwapsSpec)

/-- 'braidworklaw12.BraidWhole', WHERE WHAT IT READS IS OF BULK AT MOST 1048576: true; the input reads as it did. -/
def braidWholeUptoRow : OpenClaim := { program := "ytmhaelfmojigoaa", sum := "dd7a73a545e8b9440558c0725ea005948e55b6c11a08521834c5ffacda249643", func := "braidwork/braidworklaw12.BraidWhole", spec := "braidWhole", unfollowed := true, recurses := true, apart := false, narrowed := true }
def BraidWholeUptoSaid : Prop := braidWholeUptoRow.holds Try.pinned (OpenSpec.upto braidWholeSpec)

/-- 'braidworklaw12.BraidInitials', WHERE WHAT IT READS IS OF BULK AT MOST 1048576: true; the input reads as it did. -/
def braidInitialsUptoRow : OpenClaim := { program := "ytmhaelfmojigoaa", sum := "dd7a73a545e8b9440558c0725ea005948e55b6c11a08521834c5ffacda249643", func := "braidwork/braidworklaw12.BraidInitials", spec := "braidInitials", unfollowed := true, recurses := true, apart := false, narrowed := true }
def BraidInitialsUptoSaid : Prop := braidInitialsUptoRow.holds Try.pinned (OpenSpec.upto braidInitialsSpec)

/-- 'braidworklaw12.BraidTwice', WHERE WHAT IT READS IS OF BULK AT MOST 1048576: true; the input reads as it did. -/
def braidTwiceUptoRow : OpenClaim := { program := "ytmhaelfmojigoaa", sum := "dd7a73a545e8b9440558c0725ea005948e55b6c11a08521834c5ffacda249643", func := "braidwork/braidworklaw12.BraidTwice", spec := "braidTwice", unfollowed := true, recurses := true, apart := false, narrowed := true }
def BraidTwiceUptoSaid : Prop := braidTwiceUptoRow.holds Try.pinned (OpenSpec.upto braidTwiceSpec)

/-- 'braidworklaw12.BraidPairs', WHERE WHAT IT READS IS OF BULK AT MOST 1048576: true; the input reads as it did. -/
def braidPairsUptoRow : OpenClaim := { program := "ytmhaelfmojigoaa", sum := "dd7a73a545e8b9440558c0725ea005948e55b6c11a08521834c5ffacda249643", func := "braidwork/braidworklaw12.BraidPairs", spec := "braidPairs", unfollowed := true, recurses := true, apart := false, narrowed := true }
def BraidPairsUptoSaid : Prop := braidPairsUptoRow.holds Try.pinned (OpenSpec.upto braidPairsSpec)

end Rows
end Go.Proofs.Ytmhaelfmojigoaa
