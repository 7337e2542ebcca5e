/-
  DERIVED. GIVEN WITH THE SEED: THE CARDS: each row of YtlacjlcndejeaaaDoorRows.lean that lists a variable, with what it lists TIED to the program's text (the seventh form; the later family's looks); each row that meets fmt, with fmt's text TOLD by the authors' own Lean function (tested against real Go, not proved from fmt's source: count such statements apart). THE CARD IS WHAT COUNTS. Prove the row's statement (the work); the ties are given (YtlacjlcndejeaaaDoorTie.lean); close each card by the builder's one call (the guide's Derived/Test/ToyasCard.lean, 'card_holds'). Laid BY PROGRAM, IN A SANDBOX (cutbox-door.mjs). By AI agents, Wed Nov 11 2026. No macro, syntax, notation, axiom, sorry.
-/
import Derived.Test.YtlacjlcndejeaaaDoorRows
import GoSem.ClaimSeven
namespace Go.Proofs.YtlacjlcndejeaaaDoor
namespace Rows

/-- THE TIED CARD OF 'cortegelaw06.CmdTells'. -/
def cmdTellsCard : Claim7 := { stood := { row := cmdTellsRow, standIns := [], harness := (true, "e8bcd62eb7987418420cc4830412a4404f345aa8d1ac19fb546006ead956397f"), looks := true }, kinds := [], alts := [], laidByText := true, laidKinds := [.data, .data, .data, .sentinel, .sentinel, .data], laidTests := true, laidLooks := .later }
def CmdTellsCardSaid : Prop := Claim7.holds Tryd.pinned (.plain (OpenSpec.ofChange cmdTellsSpec)) cmdTellsCard

/-- THE TIED CARD OF 'cortegelaw06.CmdPairs'. -/
def cmdPairsCard : Claim7 := { stood := { row := cmdPairsRow, standIns := [], harness := (true, "e8bcd62eb7987418420cc4830412a4404f345aa8d1ac19fb546006ead956397f"), looks := true }, kinds := [], alts := [], laidByText := true, laidKinds := [.data, .data, .data, .sentinel, .sentinel, .data], laidTests := true, laidLooks := .later }
def CmdPairsCardSaid : Prop := Claim7.holds Tryd.pinned (.plain (OpenSpec.ofChange cmdPairsSpec)) cmdPairsCard

/-- THE TIED CARD OF 'cortegelaw06.CmdReads'. -/
def cmdReadsCard : Claim7 := { stood := { row := cmdReadsRow, standIns := [], harness := (true, "e8bcd62eb7987418420cc4830412a4404f345aa8d1ac19fb546006ead956397f"), looks := true }, kinds := [], alts := [], laidByText := true, laidKinds := [.data, .data, .data, .sentinel, .sentinel, .data], laidTests := true, laidLooks := .later }
def CmdReadsCardSaid : Prop := Claim7.holds Tryd.pinned (.plain (OpenSpec.ofChange cmdReadsSpec)) cmdReadsCard

/-- THE SECOND FORM's CARD OF 'cortegelaw06.CmdTells'. -/
def cmdTellsUptoCard : Claim7 := { stood := { row := cmdTellsUptoRow, standIns := [], harness := (true, "e8bcd62eb7987418420cc4830412a4404f345aa8d1ac19fb546006ead956397f"), looks := true }, kinds := [], alts := [], laidByText := true, laidKinds := [.data, .data, .data, .sentinel, .sentinel, .data], laidTests := true, laidLooks := .later }
def CmdTellsUptoCardSaid : Prop := Claim7.holds Tryd.pinned (.plain (OpenSpec.upto cmdTellsSpec)) cmdTellsUptoCard

/-- THE SECOND FORM's CARD OF 'cortegelaw06.CmdPairs'. -/
def cmdPairsUptoCard : Claim7 := { stood := { row := cmdPairsUptoRow, standIns := [], harness := (true, "e8bcd62eb7987418420cc4830412a4404f345aa8d1ac19fb546006ead956397f"), looks := true }, kinds := [], alts := [], laidByText := true, laidKinds := [.data, .data, .data, .sentinel, .sentinel, .data], laidTests := true, laidLooks := .later }
def CmdPairsUptoCardSaid : Prop := Claim7.holds Tryd.pinned (.plain (OpenSpec.upto cmdPairsSpec)) cmdPairsUptoCard

/-- THE SECOND FORM's CARD OF 'cortegelaw06.CmdReads'. -/
def cmdReadsUptoCard : Claim7 := { stood := { row := cmdReadsUptoRow, standIns := [], harness := (true, "e8bcd62eb7987418420cc4830412a4404f345aa8d1ac19fb546006ead956397f"), looks := true }, kinds := [], alts := [], laidByText := true, laidKinds := [.data, .data, .data, .sentinel, .sentinel, .data], laidTests := true, laidLooks := .later }
def CmdReadsUptoCardSaid : Prop := Claim7.holds Tryd.pinned (.plain (OpenSpec.upto cmdReadsSpec)) cmdReadsUptoCard
end Rows
end Go.Proofs.YtlacjlcndejeaaaDoor
