/-
  NARROWER THAN 'FOR EVERY INPUT', by the rows' own cells (each row's printed sentence says how): WirePuts: laid · WireBack: laid · WireTakes: laid · WireOne: laid · WireSums: laid · WireLong: laid · WireApart: laid.
  DERIVED. THE GIVEN ROWS OF THIS SEAT. 7 by the template 'for every input the law returns true; each argument reads behind the call as it read before'; 0 by the template 'total and deterministic' (their statements: YtpjmefbbfgpaiaaDoorTotals.lean).
  GIVEN WITH THE SEED: the statements are not yours to turn. If you find one false, say at which input.
  Laid BY PROGRAM, IN A SANDBOX (cutbox-rows.mjs): the forced cells as the released guide's own fill.sh prints them over the translation 33a192c8f6cf828b… (all of the seat's roots in one cut). By AI agents, Wed Nov 11 2026. No macro, syntax, notation, axiom, sorry.
-/
import Derived.Test.YtpjmefbbfgpaiaaDoorChecked
import GoSem.Claim
import GoSem.ClaimJoined
import GoSem.ClaimMapViews
import Derived.JoinedTies
import Derived.KernelRfl
namespace Go.Proofs.YtpjmefbbfgpaiaaDoor
/- THE CELL 'sum', in the pinned program and in every row, IS THE sha256 OF THE DUMP (.gsa) THAT YtpjmefbbfgpaiaaDoorProg.lean LOADS. Nothing in Lean hashes anything: it is a label: what it is worth is what the hold of that sum in a sandbox is worth. -/
noncomputable def Tryd.pinned : Pinned := { name := "ytpjmefbbfgpaiaadoor", sum := "33a192c8f6cf828bca16022780c3031719bc4d829c4cabc4c0e8df0e2267c2b6", checked := Tryd.checked }
namespace Rows
def none {H : Type} : Left H := { results := [], args := [] }

/- WHAT THE LISTED PACKAGE-LEVEL VARIABLES READ AS WHEN THE CALL BEGINS. Each datum BY PROGRAM (the guide's laid-datum.mjs) off the statement by which the dump's own 'gosem.cut.vars' lays the variable. In a bare row this is a premise. The card (YtpjmefbbfgpaiaaDoorCards.lean) ties it to the program's text. -/
def laid_braidwork_wire_halfSums {H : Type} : DataW H := .agg [.lit (.int .u32 0), .lit (.int .u32 498536548), .lit (.int .u32 997073096), .lit (.int .u32 651767980), .lit (.int .u32 1994146192), .lit (.int .u32 1802195444), .lit (.int .u32 1303535960), .lit (.int .u32 1342533948), .lit (.int .u32 3988292384), .lit (.int .u32 4027552580), .lit (.int .u32 3604390888), .lit (.int .u32 3412177804), .lit (.int .u32 2607071920), .lit (.int .u32 2262029012), .lit (.int .u32 2685067896), .lit (.int .u32 3183342108)]

/-- 'braidworklaw01.WirePuts': WHATEVER THE INPUT: true; the input reads as it did. -/
def wirePutsSpec : ChangeSpec := { name := "wirePuts", fn := fun _ => fun
  | [d] => { results := [.lit (.bool true)], args := [d] }
  | _ => none }
def wirePutsRow : OpenClaim := { program := "ytpjmefbbfgpaiaadoor", sum := "33a192c8f6cf828bca16022780c3031719bc4d829c4cabc4c0e8df0e2267c2b6", func := "braidwork/braidworklaw01.WirePuts", spec := "wirePuts", recurses := true, named := ["braidwork/wire.halfSums"], apart := false, laid := [("braidwork/wire.halfSums", laid_braidwork_wire_halfSums)] }
def WirePutsSaid : Prop := wirePutsRow.holds Tryd.pinned (OpenSpec.ofChange wirePutsSpec)

/-- ITS FALSE NEIGHBOUR: 'it returns false'. Refute it at one input. -/
def wirePutsWrong : ChangeSpec := { name := "wirePuts", fn := fun _ => fun
  | [d] => { results := [.lit (.bool false)], args := [d] }
  | _ => none }
def WirePutsWrongFalsely : Prop := wirePutsRow.holds Tryd.pinned (OpenSpec.ofChange wirePutsWrong)

/-- 'braidworklaw01.WireBack': WHATEVER THE INPUT: true; the input reads as it did. -/
def wireBackSpec : ChangeSpec := { name := "wireBack", fn := fun _ => fun
  | [d] => { results := [.lit (.bool true)], args := [d] }
  | _ => none }
def wireBackRow : OpenClaim := { program := "ytpjmefbbfgpaiaadoor", sum := "33a192c8f6cf828bca16022780c3031719bc4d829c4cabc4c0e8df0e2267c2b6", func := "braidwork/braidworklaw01.WireBack", spec := "wireBack", named := ["braidwork/wire.halfSums"], apart := false, laid := [("braidwork/wire.halfSums", laid_braidwork_wire_halfSums)] }
def WireBackSaid : Prop := wireBackRow.holds Tryd.pinned (OpenSpec.ofChange wireBackSpec)

/-- ITS FALSE NEIGHBOUR: 'it returns false'. Refute it at one input. -/
def wireBackWrong : ChangeSpec := { name := "wireBack", fn := fun _ => fun
  | [d] => { results := [.lit (.bool false)], args := [d] }
  | _ => none }
def WireBackWrongFalsely : Prop := wireBackRow.holds Tryd.pinned (OpenSpec.ofChange wireBackWrong)

/-- 'braidworklaw01.WireTakes': WHATEVER THE INPUT: true; the input reads as it did. -/
def wireTakesSpec : ChangeSpec := { name := "wireTakes", fn := fun _ => fun
  | [d1, d2] => { results := [.lit (.bool true)], args := [d1, d2] }
  | _ => none }
def wireTakesRow : OpenClaim := { program := "ytpjmefbbfgpaiaadoor", sum := "33a192c8f6cf828bca16022780c3031719bc4d829c4cabc4c0e8df0e2267c2b6", func := "braidwork/braidworklaw01.WireTakes", spec := "wireTakes", named := ["braidwork/wire.halfSums"], apart := false, laid := [("braidwork/wire.halfSums", laid_braidwork_wire_halfSums)] }
def WireTakesSaid : Prop := wireTakesRow.holds Tryd.pinned (OpenSpec.ofChange wireTakesSpec)

/-- ITS FALSE NEIGHBOUR: 'it returns false'. Refute it at one input. -/
def wireTakesWrong : ChangeSpec := { name := "wireTakes", fn := fun _ => fun
  | [d1, d2] => { results := [.lit (.bool false)], args := [d1, d2] }
  | _ => none }
def WireTakesWrongFalsely : Prop := wireTakesRow.holds Tryd.pinned (OpenSpec.ofChange wireTakesWrong)

/-- 'braidworklaw01.WireOne': WHATEVER THE INPUT: true; the input reads as it did. -/
def wireOneSpec : ChangeSpec := { name := "wireOne", fn := fun _ => fun
  | [d1, d2, d3, d4] => { results := [.lit (.bool true)], args := [d1, d2, d3, d4] }
  | _ => none }
def wireOneRow : OpenClaim := { program := "ytpjmefbbfgpaiaadoor", sum := "33a192c8f6cf828bca16022780c3031719bc4d829c4cabc4c0e8df0e2267c2b6", func := "braidwork/braidworklaw01.WireOne", spec := "wireOne", named := ["braidwork/wire.halfSums"], apart := false, laid := [("braidwork/wire.halfSums", laid_braidwork_wire_halfSums)] }
def WireOneSaid : Prop := wireOneRow.holds Tryd.pinned (OpenSpec.ofChange wireOneSpec)

/-- ITS FALSE NEIGHBOUR: 'it returns false'. Refute it at one input. -/
def wireOneWrong : ChangeSpec := { name := "wireOne", fn := fun _ => fun
  | [d1, d2, d3, d4] => { results := [.lit (.bool false)], args := [d1, d2, d3, d4] }
  | _ => none }
def WireOneWrongFalsely : Prop := wireOneRow.holds Tryd.pinned (OpenSpec.ofChange wireOneWrong)

/-- 'braidworklaw01.WireSums': WHATEVER THE INPUT: true; the input reads as it did. -/
def wireSumsSpec : ChangeSpec := { name := "wireSums", fn := fun _ => fun
  | [d1, d2] => { results := [.lit (.bool true)], args := [d1, d2] }
  | _ => none }
def wireSumsRow : OpenClaim := { program := "ytpjmefbbfgpaiaadoor", sum := "33a192c8f6cf828bca16022780c3031719bc4d829c4cabc4c0e8df0e2267c2b6", func := "braidwork/braidworklaw01.WireSums", spec := "wireSums", named := ["braidwork/wire.halfSums"], apart := false, laid := [("braidwork/wire.halfSums", laid_braidwork_wire_halfSums)] }
def WireSumsSaid : Prop := wireSumsRow.holds Tryd.pinned (OpenSpec.ofChange wireSumsSpec)

/-- ITS FALSE NEIGHBOUR: 'it returns false'. Refute it at one input. -/
def wireSumsWrong : ChangeSpec := { name := "wireSums", fn := fun _ => fun
  | [d1, d2] => { results := [.lit (.bool false)], args := [d1, d2] }
  | _ => none }
def WireSumsWrongFalsely : Prop := wireSumsRow.holds Tryd.pinned (OpenSpec.ofChange wireSumsWrong)

/-- 'braidworklaw01.WireLong': WHATEVER THE INPUT: true; the input reads as it did. -/
def wireLongSpec : ChangeSpec := { name := "wireLong", fn := fun _ => fun
  | [d] => { results := [.lit (.bool true)], args := [d] }
  | _ => none }
def wireLongRow : OpenClaim := { program := "ytpjmefbbfgpaiaadoor", sum := "33a192c8f6cf828bca16022780c3031719bc4d829c4cabc4c0e8df0e2267c2b6", func := "braidwork/braidworklaw01.WireLong", spec := "wireLong", named := ["braidwork/wire.halfSums"], apart := false, laid := [("braidwork/wire.halfSums", laid_braidwork_wire_halfSums)] }
def WireLongSaid : Prop := wireLongRow.holds Tryd.pinned (OpenSpec.ofChange wireLongSpec)

/-- ITS FALSE NEIGHBOUR: 'it returns false'. Refute it at one input. -/
def wireLongWrong : ChangeSpec := { name := "wireLong", fn := fun _ => fun
  | [d] => { results := [.lit (.bool false)], args := [d] }
  | _ => none }
def WireLongWrongFalsely : Prop := wireLongRow.holds Tryd.pinned (OpenSpec.ofChange wireLongWrong)

/-- 'braidworklaw01.WireApart': WHATEVER THE INPUT: true; the input reads as it did. -/
def wireApartSpec : ChangeSpec := { name := "wireApart", fn := fun _ => fun
  | [d1, d2, d3, d4] => { results := [.lit (.bool true)], args := [d1, d2, d3, d4] }
  | _ => none }
def wireApartRow : OpenClaim := { program := "ytpjmefbbfgpaiaadoor", sum := "33a192c8f6cf828bca16022780c3031719bc4d829c4cabc4c0e8df0e2267c2b6", func := "braidwork/braidworklaw01.WireApart", spec := "wireApart", named := ["braidwork/wire.halfSums"], apart := false, laid := [("braidwork/wire.halfSums", laid_braidwork_wire_halfSums)] }
def WireApartSaid : Prop := wireApartRow.holds Tryd.pinned (OpenSpec.ofChange wireApartSpec)

/-- ITS FALSE NEIGHBOUR: 'it returns false'. Refute it at one input. -/
def wireApartWrong : ChangeSpec := { name := "wireApart", fn := fun _ => fun
  | [d1, d2, d3, d4] => { results := [.lit (.bool false)], args := [d1, d2, d3, d4] }
  | _ => none }
def WireApartWrongFalsely : Prop := wireApartRow.holds Tryd.pinned (OpenSpec.ofChange wireApartWrong)

/- THE SECOND FORM. 'bulk': how many values and letters a reading holds, each counted each time it is reached (what is shared counts as often as it is met; a slice's spare places count too). A statement '..UptoSaid' is the law's where the arguments, and the package variables that the reading takes, are together of bulk at most 1048576: NARROWER than '..Said'. Prove '..Said' where nothing that the law and all that it calls make is longer than what came in: it says more and counts as full. Else prove '..UptoSaid'. A law counts once. -/
mutual
def uptoBulk {H : Type} : DataW H → Nat
  | .lit (.string bytes) => bytes.length + 1
  | .lit _ => 1
  | .nil => 1
  | .ptr d => uptoBulk d + 1
  | .slice elems spare => uptoBulkAll elems + uptoBulkAll spare + 1
  | .agg parts => uptoBulkAll parts + 1
  | .iface _ d => uptoBulk d + 1
  | .map entries => uptoBulkEntries entries + 1
  | .held _ => 1
def uptoBulkAll {H : Type} : List (DataW H) → Nat
  | [] => 0
  | d :: r => uptoBulk d + uptoBulkAll r
def uptoBulkEntries {H : Type} : List (Lit × DataW H) → Nat
  | [] => 0
  | x :: r => uptoBulkEntry x + uptoBulkEntries r
def uptoBulkEntry {H : Type} : Lit × DataW H → Nat
  | (.string bytes, d) => bytes.length + uptoBulk d + 1
  | (_, d) => uptoBulk d + 1
 end
def uptoSmall : (H : Type) → List (DataW H) → Bool := fun _ ds => decide (uptoBulkAll ds ≤ 1048576)
def OpenSpec.upto (s : _root_.Go.ChangeSpec) : _root_.Go.OpenSpec := { _root_.Go.OpenSpec.ofChange s with cond := some uptoSmall }

/-- 'braidworklaw01.WirePuts', WHERE WHAT IT READS IS OF BULK AT MOST 1048576: true; the input reads as it did. -/
def wirePutsUptoRow : OpenClaim := { program := "ytpjmefbbfgpaiaadoor", sum := "33a192c8f6cf828bca16022780c3031719bc4d829c4cabc4c0e8df0e2267c2b6", func := "braidwork/braidworklaw01.WirePuts", spec := "wirePuts", recurses := true, named := ["braidwork/wire.halfSums"], apart := false, laid := [("braidwork/wire.halfSums", laid_braidwork_wire_halfSums)], narrowed := true }
def WirePutsUptoSaid : Prop := wirePutsUptoRow.holds Tryd.pinned (OpenSpec.upto wirePutsSpec)

/-- 'braidworklaw01.WireBack', WHERE WHAT IT READS IS OF BULK AT MOST 1048576: true; the input reads as it did. -/
def wireBackUptoRow : OpenClaim := { program := "ytpjmefbbfgpaiaadoor", sum := "33a192c8f6cf828bca16022780c3031719bc4d829c4cabc4c0e8df0e2267c2b6", func := "braidwork/braidworklaw01.WireBack", spec := "wireBack", named := ["braidwork/wire.halfSums"], apart := false, laid := [("braidwork/wire.halfSums", laid_braidwork_wire_halfSums)], narrowed := true }
def WireBackUptoSaid : Prop := wireBackUptoRow.holds Tryd.pinned (OpenSpec.upto wireBackSpec)

/-- 'braidworklaw01.WireTakes', WHERE WHAT IT READS IS OF BULK AT MOST 1048576: true; the input reads as it did. -/
def wireTakesUptoRow : OpenClaim := { program := "ytpjmefbbfgpaiaadoor", sum := "33a192c8f6cf828bca16022780c3031719bc4d829c4cabc4c0e8df0e2267c2b6", func := "braidwork/braidworklaw01.WireTakes", spec := "wireTakes", named := ["braidwork/wire.halfSums"], apart := false, laid := [("braidwork/wire.halfSums", laid_braidwork_wire_halfSums)], narrowed := true }
def WireTakesUptoSaid : Prop := wireTakesUptoRow.holds Tryd.pinned (OpenSpec.upto wireTakesSpec)

/-- 'braidworklaw01.WireOne', WHERE WHAT IT READS IS OF BULK AT MOST 1048576: true; the input reads as it did. -/
def wireOneUptoRow : OpenClaim := { program := "ytpjmefbbfgpaiaadoor", sum := "33a192c8f6cf828bca16022780c3031719bc4d829c4cabc4c0e8df0e2267c2b6", func := "braidwork/braidworklaw01.WireOne", spec := "wireOne", named := ["braidwork/wire.halfSums"], apart := false, laid := [("braidwork/wire.halfSums", laid_braidwork_wire_halfSums)], narrowed := true }
def WireOneUptoSaid : Prop := wireOneUptoRow.holds Tryd.pinned (OpenSpec.upto wireOneSpec)

/-- 'braidworklaw01.WireSums', WHERE WHAT IT READS IS OF BULK AT MOST 1048576: true; the input reads as it did. -/
def wireSumsUptoRow : OpenClaim := { program := "ytpjmefbbfgpaiaadoor", sum := "33a192c8f6cf828bca16022780c3031719bc4d829c4cabc4c0e8df0e2267c2b6", func := "braidwork/braidworklaw01.WireSums", spec := "wireSums", named := ["braidwork/wire.halfSums"], apart := false, laid := [("braidwork/wire.halfSums", laid_braidwork_wire_halfSums)], narrowed := true }
def WireSumsUptoSaid : Prop := wireSumsUptoRow.holds Tryd.pinned (OpenSpec.upto wireSumsSpec)

/-- 'braidworklaw01.WireLong', WHERE WHAT IT READS IS OF BULK AT MOST 1048576: true; the input reads as it did. -/
def wireLongUptoRow : OpenClaim := { program := "ytpjmefbbfgpaiaadoor", sum := "33a192c8f6cf828bca16022780c3031719bc4d829c4cabc4c0e8df0e2267c2b6", func := "braidwork/braidworklaw01.WireLong", spec := "wireLong", named := ["braidwork/wire.halfSums"], apart := false, laid := [("braidwork/wire.halfSums", laid_braidwork_wire_halfSums)], narrowed := true }
def WireLongUptoSaid : Prop := wireLongUptoRow.holds Tryd.pinned (OpenSpec.upto wireLongSpec)

/-- 'braidworklaw01.WireApart', WHERE WHAT IT READS IS OF BULK AT MOST 1048576: true; the input reads as it did. -/
def wireApartUptoRow : OpenClaim := { program := "ytpjmefbbfgpaiaadoor", sum := "33a192c8f6cf828bca16022780c3031719bc4d829c4cabc4c0e8df0e2267c2b6", func := "braidwork/braidworklaw01.WireApart", spec := "wireApart", named := ["braidwork/wire.halfSums"], apart := false, laid := [("braidwork/wire.halfSums", laid_braidwork_wire_halfSums)], narrowed := true }
def WireApartUptoSaid : Prop := wireApartUptoRow.holds Tryd.pinned (OpenSpec.upto wireApartSpec)

end Rows
end Go.Proofs.YtpjmefbbfgpaiaaDoor
