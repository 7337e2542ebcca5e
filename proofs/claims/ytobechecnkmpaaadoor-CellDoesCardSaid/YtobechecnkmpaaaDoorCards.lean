/-
  DERIVED. GIVEN WITH THE SEED: THE CARDS: each row of YtobechecnkmpaaaDoorRows.lean that lists a variable, with what it lists TIED to the program's text (the seventh form; the later family's looks); each row that meets fmt, with fmt's text TOLD by the authors' own Lean function (tested against real Go, not proved from fmt's source: count such statements apart). THE CARD IS WHAT COUNTS. Prove the row's statement (the work); the ties are given (YtobechecnkmpaaaDoorTie.lean); close each card by the builder's one call (the guide's Derived/Test/ToyasCard.lean, 'card_holds'). Laid BY PROGRAM, IN A SANDBOX (cutbox-door.mjs). By AI agents, Wed Nov 11 2026. No macro, syntax, notation, axiom, sorry.
-/
import Derived.Test.YtobechecnkmpaaaDoorRows
import GoSem.ClaimSeven
namespace Go.Proofs.YtobechecnkmpaaaDoor
namespace Rows

/-- THE TIED CARD OF 'cortegelaw12.CellDoes'. -/
def cellDoesCard : Claim7 := { stood := { row := cellDoesRow, standIns := [], harness := (true, "34ab96419304a64a1bf352b3ce0f806596d2156ed8f713e78c3ae28a2d32aa27"), looks := false }, kinds := [], alts := [], laidByText := true, laidKinds := [.data, .data, .data], laidTests := true, laidLooks := .later }
def CellDoesCardSaid : Prop := Claim7.holds Tryd.pinned (.plain (OpenSpec.ofChange cellDoesSpec)) cellDoesCard

/-- THE TIED CARD OF 'cortegelaw12.CellFolds'. -/
def cellFoldsCard : Claim7 := { stood := { row := cellFoldsRow, standIns := [], harness := (true, "34ab96419304a64a1bf352b3ce0f806596d2156ed8f713e78c3ae28a2d32aa27"), looks := false }, kinds := [], alts := [], laidByText := true, laidKinds := [.data, .data, .data], laidTests := true, laidLooks := .later }
def CellFoldsCardSaid : Prop := Claim7.holds Tryd.pinned (.plain (OpenSpec.ofChange cellFoldsSpec)) cellFoldsCard

/-- THE TIED CARD OF 'cortegelaw12.CellForgets'. -/
def cellForgetsCard : Claim7 := { stood := { row := cellForgetsRow, standIns := [], harness := (true, "34ab96419304a64a1bf352b3ce0f806596d2156ed8f713e78c3ae28a2d32aa27"), looks := false }, kinds := [], alts := [], laidByText := true, laidKinds := [.data, .data, .data], laidTests := true, laidLooks := .later }
def CellForgetsCardSaid : Prop := Claim7.holds Tryd.pinned (.plain (OpenSpec.ofChange cellForgetsSpec)) cellForgetsCard

/-- THE SECOND FORM's CARD OF 'cortegelaw12.CellDoes'. -/
def cellDoesUptoCard : Claim7 := { stood := { row := cellDoesUptoRow, standIns := [], harness := (true, "34ab96419304a64a1bf352b3ce0f806596d2156ed8f713e78c3ae28a2d32aa27"), looks := false }, kinds := [], alts := [], laidByText := true, laidKinds := [.data, .data, .data], laidTests := true, laidLooks := .later }
def CellDoesUptoCardSaid : Prop := Claim7.holds Tryd.pinned (.plain (OpenSpec.upto cellDoesSpec)) cellDoesUptoCard

/-- THE SECOND FORM's CARD OF 'cortegelaw12.CellFolds'. -/
def cellFoldsUptoCard : Claim7 := { stood := { row := cellFoldsUptoRow, standIns := [], harness := (true, "34ab96419304a64a1bf352b3ce0f806596d2156ed8f713e78c3ae28a2d32aa27"), looks := false }, kinds := [], alts := [], laidByText := true, laidKinds := [.data, .data, .data], laidTests := true, laidLooks := .later }
def CellFoldsUptoCardSaid : Prop := Claim7.holds Tryd.pinned (.plain (OpenSpec.upto cellFoldsSpec)) cellFoldsUptoCard

/-- THE SECOND FORM's CARD OF 'cortegelaw12.CellForgets'. -/
def cellForgetsUptoCard : Claim7 := { stood := { row := cellForgetsUptoRow, standIns := [], harness := (true, "34ab96419304a64a1bf352b3ce0f806596d2156ed8f713e78c3ae28a2d32aa27"), looks := false }, kinds := [], alts := [], laidByText := true, laidKinds := [.data, .data, .data], laidTests := true, laidLooks := .later }
def CellForgetsUptoCardSaid : Prop := Claim7.holds Tryd.pinned (.plain (OpenSpec.upto cellForgetsSpec)) cellForgetsUptoCard
end Rows
end Go.Proofs.YtobechecnkmpaaaDoor
