/-
  DERIVED. GIVEN WITH THE SEED: THE CARDS: each row of YtmbdbdgilhjgeaaDoorRows.lean that lists a variable, with what it lists TIED to the program's text (the seventh form; the later family's looks); each row that meets fmt, with fmt's text TOLD by the authors' own Lean function (tested against real Go, not proved from fmt's source: count such statements apart). THE CARD IS WHAT COUNTS. Prove the row's statement (the work); the ties are given (YtmbdbdgilhjgeaaDoorTie.lean); close each card by the builder's one call (the guide's Derived/Test/ToyasCard.lean, 'card_holds'). Laid BY PROGRAM, IN A SANDBOX (cutbox-door.mjs). By AI agents, Wed Nov 11 2026. No macro, syntax, notation, axiom, sorry.
-/
import Derived.Test.YtmbdbdgilhjgeaaDoorRows
import GoSem.ClaimSeven
namespace Go.Proofs.YtmbdbdgilhjgeaaDoor
namespace Rows

/-- THE TIED CARD OF 'braidworklaw02.GaussAdds'. -/
def gaussAddsCard : Claim7 := { stood := { row := gaussAddsRow, standIns := [], harness := (true, "a2242d6fd694b74025de90c6824795ca9dc9a05d020461d1e76cc50f8dd65a76"), looks := true }, kinds := [], alts := [], laidByText := true, laidKinds := [.data, .data, .data], laidTests := true, laidLooks := .later }
def GaussAddsCardSaid : Prop := Claim7.holds Tryd.pinned (.plain (OpenSpec.ofChange gaussAddsSpec)) gaussAddsCard

/-- THE TIED CARD OF 'braidworklaw02.GaussTurns'. -/
def gaussTurnsCard : Claim7 := { stood := { row := gaussTurnsRow, standIns := [], harness := (true, "a2242d6fd694b74025de90c6824795ca9dc9a05d020461d1e76cc50f8dd65a76"), looks := true }, kinds := [], alts := [], laidByText := true, laidKinds := [.data, .data, .data], laidTests := true, laidLooks := .later }
def GaussTurnsCardSaid : Prop := Claim7.holds Tryd.pinned (.plain (OpenSpec.ofChange gaussTurnsSpec)) gaussTurnsCard

/-- THE TIED CARD OF 'braidworklaw02.GaussRaw'. -/
def gaussRawCard : Claim7 := { stood := { row := gaussRawRow, standIns := [], harness := (true, "a2242d6fd694b74025de90c6824795ca9dc9a05d020461d1e76cc50f8dd65a76"), looks := true }, kinds := [], alts := [], laidByText := true, laidKinds := [.data, .data, .data], laidTests := true, laidLooks := .later }
def GaussRawCardSaid : Prop := Claim7.holds Tryd.pinned (.plain (OpenSpec.ofChange gaussRawSpec)) gaussRawCard

/-- THE TIED CARD OF 'braidworklaw02.GaussOrders'. -/
def gaussOrdersCard : Claim7 := { stood := { row := gaussOrdersRow, standIns := [], harness := (true, "a2242d6fd694b74025de90c6824795ca9dc9a05d020461d1e76cc50f8dd65a76"), looks := true }, kinds := [], alts := [], laidByText := true, laidKinds := [.data, .data, .data], laidTests := true, laidLooks := .later }
def GaussOrdersCardSaid : Prop := Claim7.holds Tryd.pinned (.plain (OpenSpec.ofChange gaussOrdersSpec)) gaussOrdersCard

/-- THE TIED CARD OF 'braidworklaw02.GaussTexts'. -/
def gaussTextsCard : Claim7 := { stood := { row := gaussTextsRow, standIns := [], harness := (true, "a2242d6fd694b74025de90c6824795ca9dc9a05d020461d1e76cc50f8dd65a76"), looks := true }, kinds := [], alts := [], laidByText := true, laidKinds := [.data, .data, .data, .data, .sentinel, .sentinel, .pinned], laidTests := true, laidLooks := .later }
def GaussTextsCardSaid : Prop := Claim7.holds Tryd.pinned (.plain (OpenSpec.ofChange gaussTextsSpec)) gaussTextsCard

/-- THE TIED CARD OF 'braidworklaw02.GaussParses'. -/
def gaussParsesCard : Claim7 := { stood := { row := gaussParsesRow, standIns := [], harness := (true, "a2242d6fd694b74025de90c6824795ca9dc9a05d020461d1e76cc50f8dd65a76"), looks := true }, kinds := [], alts := [], laidByText := true, laidKinds := [.data, .data, .data, .data, .sentinel, .sentinel, .pinned], laidTests := true, laidLooks := .later }
def GaussParsesCardSaid : Prop := Claim7.holds Tryd.pinned (.plain (OpenSpec.ofChange gaussParsesSpec)) gaussParsesCard

/-- THE TIED CARD OF 'braidworklaw02.GaussRing'. -/
def gaussRingCard : Claim7 := { stood := { row := gaussRingRow, standIns := [], harness := (true, "a2242d6fd694b74025de90c6824795ca9dc9a05d020461d1e76cc50f8dd65a76"), looks := true }, kinds := [], alts := [], laidByText := true, laidKinds := [.data, .data, .data], laidTests := true, laidLooks := .later }
def GaussRingCardSaid : Prop := Claim7.holds Tryd.pinned (.plain (OpenSpec.ofChange gaussRingSpec)) gaussRingCard

/-- THE TIED CARD OF 'braidworklaw02.GaussNorms'. -/
def gaussNormsCard : Claim7 := { stood := { row := gaussNormsRow, standIns := [], harness := (true, "a2242d6fd694b74025de90c6824795ca9dc9a05d020461d1e76cc50f8dd65a76"), looks := true }, kinds := [], alts := [], laidByText := true, laidKinds := [.data, .data, .data], laidTests := true, laidLooks := .later }
def GaussNormsCardSaid : Prop := Claim7.holds Tryd.pinned (.plain (OpenSpec.ofChange gaussNormsSpec)) gaussNormsCard

/-- THE TIED CARD OF 'braidworklaw02.GaussConjs'. -/
def gaussConjsCard : Claim7 := { stood := { row := gaussConjsRow, standIns := [], harness := (true, "a2242d6fd694b74025de90c6824795ca9dc9a05d020461d1e76cc50f8dd65a76"), looks := true }, kinds := [], alts := [], laidByText := true, laidKinds := [.data, .data, .data], laidTests := true, laidLooks := .later }
def GaussConjsCardSaid : Prop := Claim7.holds Tryd.pinned (.plain (OpenSpec.ofChange gaussConjsSpec)) gaussConjsCard

/-- THE TIED CARD OF 'braidworklaw02.GaussWhole'. -/
def gaussWholeCard : Claim7 := { stood := { row := gaussWholeRow, standIns := [], harness := (true, "a2242d6fd694b74025de90c6824795ca9dc9a05d020461d1e76cc50f8dd65a76"), looks := true }, kinds := [], alts := [], laidByText := true, laidKinds := [.data, .data, .data], laidTests := true, laidLooks := .later }
def GaussWholeCardSaid : Prop := Claim7.holds Tryd.pinned (.plain (OpenSpec.ofChange gaussWholeSpec)) gaussWholeCard

/-- THE SECOND FORM's CARD OF 'braidworklaw02.GaussAdds'. -/
def gaussAddsUptoCard : Claim7 := { stood := { row := gaussAddsUptoRow, standIns := [], harness := (true, "a2242d6fd694b74025de90c6824795ca9dc9a05d020461d1e76cc50f8dd65a76"), looks := true }, kinds := [], alts := [], laidByText := true, laidKinds := [.data, .data, .data], laidTests := true, laidLooks := .later }
def GaussAddsUptoCardSaid : Prop := Claim7.holds Tryd.pinned (.plain (OpenSpec.upto gaussAddsSpec)) gaussAddsUptoCard

/-- THE SECOND FORM's CARD OF 'braidworklaw02.GaussTurns'. -/
def gaussTurnsUptoCard : Claim7 := { stood := { row := gaussTurnsUptoRow, standIns := [], harness := (true, "a2242d6fd694b74025de90c6824795ca9dc9a05d020461d1e76cc50f8dd65a76"), looks := true }, kinds := [], alts := [], laidByText := true, laidKinds := [.data, .data, .data], laidTests := true, laidLooks := .later }
def GaussTurnsUptoCardSaid : Prop := Claim7.holds Tryd.pinned (.plain (OpenSpec.upto gaussTurnsSpec)) gaussTurnsUptoCard

/-- THE SECOND FORM's CARD OF 'braidworklaw02.GaussRaw'. -/
def gaussRawUptoCard : Claim7 := { stood := { row := gaussRawUptoRow, standIns := [], harness := (true, "a2242d6fd694b74025de90c6824795ca9dc9a05d020461d1e76cc50f8dd65a76"), looks := true }, kinds := [], alts := [], laidByText := true, laidKinds := [.data, .data, .data], laidTests := true, laidLooks := .later }
def GaussRawUptoCardSaid : Prop := Claim7.holds Tryd.pinned (.plain (OpenSpec.upto gaussRawSpec)) gaussRawUptoCard

/-- THE SECOND FORM's CARD OF 'braidworklaw02.GaussOrders'. -/
def gaussOrdersUptoCard : Claim7 := { stood := { row := gaussOrdersUptoRow, standIns := [], harness := (true, "a2242d6fd694b74025de90c6824795ca9dc9a05d020461d1e76cc50f8dd65a76"), looks := true }, kinds := [], alts := [], laidByText := true, laidKinds := [.data, .data, .data], laidTests := true, laidLooks := .later }
def GaussOrdersUptoCardSaid : Prop := Claim7.holds Tryd.pinned (.plain (OpenSpec.upto gaussOrdersSpec)) gaussOrdersUptoCard

/-- THE SECOND FORM's CARD OF 'braidworklaw02.GaussTexts'. -/
def gaussTextsUptoCard : Claim7 := { stood := { row := gaussTextsUptoRow, standIns := [], harness := (true, "a2242d6fd694b74025de90c6824795ca9dc9a05d020461d1e76cc50f8dd65a76"), looks := true }, kinds := [], alts := [], laidByText := true, laidKinds := [.data, .data, .data, .data, .sentinel, .sentinel, .pinned], laidTests := true, laidLooks := .later }
def GaussTextsUptoCardSaid : Prop := Claim7.holds Tryd.pinned (.plain (OpenSpec.upto gaussTextsSpec)) gaussTextsUptoCard

/-- THE SECOND FORM's CARD OF 'braidworklaw02.GaussParses'. -/
def gaussParsesUptoCard : Claim7 := { stood := { row := gaussParsesUptoRow, standIns := [], harness := (true, "a2242d6fd694b74025de90c6824795ca9dc9a05d020461d1e76cc50f8dd65a76"), looks := true }, kinds := [], alts := [], laidByText := true, laidKinds := [.data, .data, .data, .data, .sentinel, .sentinel, .pinned], laidTests := true, laidLooks := .later }
def GaussParsesUptoCardSaid : Prop := Claim7.holds Tryd.pinned (.plain (OpenSpec.upto gaussParsesSpec)) gaussParsesUptoCard

/-- THE SECOND FORM's CARD OF 'braidworklaw02.GaussRing'. -/
def gaussRingUptoCard : Claim7 := { stood := { row := gaussRingUptoRow, standIns := [], harness := (true, "a2242d6fd694b74025de90c6824795ca9dc9a05d020461d1e76cc50f8dd65a76"), looks := true }, kinds := [], alts := [], laidByText := true, laidKinds := [.data, .data, .data], laidTests := true, laidLooks := .later }
def GaussRingUptoCardSaid : Prop := Claim7.holds Tryd.pinned (.plain (OpenSpec.upto gaussRingSpec)) gaussRingUptoCard

/-- THE SECOND FORM's CARD OF 'braidworklaw02.GaussNorms'. -/
def gaussNormsUptoCard : Claim7 := { stood := { row := gaussNormsUptoRow, standIns := [], harness := (true, "a2242d6fd694b74025de90c6824795ca9dc9a05d020461d1e76cc50f8dd65a76"), looks := true }, kinds := [], alts := [], laidByText := true, laidKinds := [.data, .data, .data], laidTests := true, laidLooks := .later }
def GaussNormsUptoCardSaid : Prop := Claim7.holds Tryd.pinned (.plain (OpenSpec.upto gaussNormsSpec)) gaussNormsUptoCard

/-- THE SECOND FORM's CARD OF 'braidworklaw02.GaussConjs'. -/
def gaussConjsUptoCard : Claim7 := { stood := { row := gaussConjsUptoRow, standIns := [], harness := (true, "a2242d6fd694b74025de90c6824795ca9dc9a05d020461d1e76cc50f8dd65a76"), looks := true }, kinds := [], alts := [], laidByText := true, laidKinds := [.data, .data, .data], laidTests := true, laidLooks := .later }
def GaussConjsUptoCardSaid : Prop := Claim7.holds Tryd.pinned (.plain (OpenSpec.upto gaussConjsSpec)) gaussConjsUptoCard

/-- THE SECOND FORM's CARD OF 'braidworklaw02.GaussWhole'. -/
def gaussWholeUptoCard : Claim7 := { stood := { row := gaussWholeUptoRow, standIns := [], harness := (true, "a2242d6fd694b74025de90c6824795ca9dc9a05d020461d1e76cc50f8dd65a76"), looks := true }, kinds := [], alts := [], laidByText := true, laidKinds := [.data, .data, .data], laidTests := true, laidLooks := .later }
def GaussWholeUptoCardSaid : Prop := Claim7.holds Tryd.pinned (.plain (OpenSpec.upto gaussWholeSpec)) gaussWholeUptoCard
end Rows
end Go.Proofs.YtmbdbdgilhjgeaaDoor
