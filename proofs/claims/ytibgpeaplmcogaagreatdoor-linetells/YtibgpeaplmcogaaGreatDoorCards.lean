/-
  DERIVED. GIVEN WITH THE SEED: THE CARDS: each row of YtibgpeaplmcogaaGreatDoorRows.lean that lists a variable, with what it lists TIED to the program's text (the seventh form; the later family's looks); each row that meets fmt, with fmt's text TOLD by the authors' own Lean function (tested against real Go, not proved from fmt's source: count such statements apart). THE CARD IS WHAT COUNTS. Prove the row's statement (the work); the ties are given (YtibgpeaplmcogaaGreatDoorTie.lean); close each card by the builder's one call (the guide's Derived/Test/ToyasCard.lean, 'card_holds'). Laid BY PROGRAM, IN A SANDBOX (cutbox-door.mjs). By AI agents, Wed Nov 11 2026. No macro, syntax, notation, axiom, sorry.
-/
import Derived.Test.YtibgpeaplmcogaaGreatDoorRows
import GoSem.ClaimSeven
namespace Go.Proofs.YtibgpeaplmcogaaGreatDoor
namespace Rows

/-- THE TIED CARD OF 'gradinelaw15.LineTells'. -/
def lineTellsCard : Claim7 := { stood := { row := lineTellsRow, standIns := [], harness := (true, "10cf896ddc174488314f175b17fde043853153ddc15b2343187bb4e9c70d74d9"), looks := false }, kinds := [], alts := [], laidByText := true, laidKinds := [.data, .data, .data, .data, .data, .pinned], laidTests := true, laidLooks := .later }
def LineTellsCardSaid : Prop := Claim7.holds Tryz.pinned (.plain (OpenSpec.ofChange lineTellsSpec)) lineTellsCard

/-- THE TIED CARD OF 'gradinelaw15.LineTrims'. -/
def lineTrimsCard : Claim7 := { stood := { row := lineTrimsRow, standIns := [], harness := (true, "10cf896ddc174488314f175b17fde043853153ddc15b2343187bb4e9c70d74d9"), looks := false }, kinds := [], alts := [], laidByText := true, laidKinds := [.data, .data, .data, .data, .data, .pinned], laidTests := true, laidLooks := .later }
def LineTrimsCardSaid : Prop := Claim7.holds Tryz.pinned (.plain (OpenSpec.ofChange lineTrimsSpec)) lineTrimsCard

/-- THE TIED CARD OF 'gradinelaw15.LineAgain'. -/
def lineAgainCard : Claim7 := { stood := { row := lineAgainRow, standIns := [], harness := (true, "10cf896ddc174488314f175b17fde043853153ddc15b2343187bb4e9c70d74d9"), looks := false }, kinds := [], alts := [], laidByText := true, laidKinds := [.data, .data, .data, .data, .data, .pinned], laidTests := true, laidLooks := .later }
def LineAgainCardSaid : Prop := Claim7.holds Tryz.pinned (.plain (OpenSpec.ofChange lineAgainSpec)) lineAgainCard

/-- THE TIED CARD OF 'gradinelaw16.EvalsExact'. -/
def evalsExactCard : Claim7 := { stood := { row := evalsExactRow, standIns := [], harness := (true, "10cf896ddc174488314f175b17fde043853153ddc15b2343187bb4e9c70d74d9"), looks := false }, kinds := [], alts := [], laidByText := true, laidKinds := [.data], laidTests := true, laidLooks := .later }
def EvalsExactCardSaid : Prop := Claim7.holds Tryz.pinned (.plain (OpenSpec.ofChange evalsExactSpec)) evalsExactCard

/-- THE TIED CARD OF 'gradinelaw16.EvalsFloat'. -/
def evalsFloatCard : Claim7 := { stood := { row := evalsFloatRow, standIns := [], harness := (true, "10cf896ddc174488314f175b17fde043853153ddc15b2343187bb4e9c70d74d9"), looks := false }, kinds := [], alts := [], laidByText := true, laidKinds := [.data], laidTests := true, laidLooks := .later }
def EvalsFloatCardSaid : Prop := Claim7.holds Tryz.pinned (.plain (OpenSpec.ofChange evalsFloatSpec)) evalsFloatCard

/-- THE TIED CARD OF 'gradinelaw16.EvalsTrims'. -/
def evalsTrimsCard : Claim7 := { stood := { row := evalsTrimsRow, standIns := [], harness := (true, "10cf896ddc174488314f175b17fde043853153ddc15b2343187bb4e9c70d74d9"), looks := false }, kinds := [], alts := [], laidByText := true, laidKinds := [.data], laidTests := true, laidLooks := .later }
def EvalsTrimsCardSaid : Prop := Claim7.holds Tryz.pinned (.plain (OpenSpec.ofChange evalsTrimsSpec)) evalsTrimsCard

/-- THE SECOND FORM's CARD OF 'gradinelaw15.LineTells'. -/
def lineTellsUptoCard : Claim7 := { stood := { row := lineTellsUptoRow, standIns := [], harness := (true, "10cf896ddc174488314f175b17fde043853153ddc15b2343187bb4e9c70d74d9"), looks := false }, kinds := [], alts := [], laidByText := true, laidKinds := [.data, .data, .data, .data, .data, .pinned], laidTests := true, laidLooks := .later }
def LineTellsUptoCardSaid : Prop := Claim7.holds Tryz.pinned (.plain (OpenSpec.upto lineTellsSpec)) lineTellsUptoCard

/-- THE SECOND FORM's CARD OF 'gradinelaw15.LineTrims'. -/
def lineTrimsUptoCard : Claim7 := { stood := { row := lineTrimsUptoRow, standIns := [], harness := (true, "10cf896ddc174488314f175b17fde043853153ddc15b2343187bb4e9c70d74d9"), looks := false }, kinds := [], alts := [], laidByText := true, laidKinds := [.data, .data, .data, .data, .data, .pinned], laidTests := true, laidLooks := .later }
def LineTrimsUptoCardSaid : Prop := Claim7.holds Tryz.pinned (.plain (OpenSpec.upto lineTrimsSpec)) lineTrimsUptoCard

/-- THE SECOND FORM's CARD OF 'gradinelaw15.LineAgain'. -/
def lineAgainUptoCard : Claim7 := { stood := { row := lineAgainUptoRow, standIns := [], harness := (true, "10cf896ddc174488314f175b17fde043853153ddc15b2343187bb4e9c70d74d9"), looks := false }, kinds := [], alts := [], laidByText := true, laidKinds := [.data, .data, .data, .data, .data, .pinned], laidTests := true, laidLooks := .later }
def LineAgainUptoCardSaid : Prop := Claim7.holds Tryz.pinned (.plain (OpenSpec.upto lineAgainSpec)) lineAgainUptoCard

/-- THE SECOND FORM's CARD OF 'gradinelaw16.EvalsExact'. -/
def evalsExactUptoCard : Claim7 := { stood := { row := evalsExactUptoRow, standIns := [], harness := (true, "10cf896ddc174488314f175b17fde043853153ddc15b2343187bb4e9c70d74d9"), looks := false }, kinds := [], alts := [], laidByText := true, laidKinds := [.data], laidTests := true, laidLooks := .later }
def EvalsExactUptoCardSaid : Prop := Claim7.holds Tryz.pinned (.plain (OpenSpec.upto evalsExactSpec)) evalsExactUptoCard

/-- THE SECOND FORM's CARD OF 'gradinelaw16.EvalsFloat'. -/
def evalsFloatUptoCard : Claim7 := { stood := { row := evalsFloatUptoRow, standIns := [], harness := (true, "10cf896ddc174488314f175b17fde043853153ddc15b2343187bb4e9c70d74d9"), looks := false }, kinds := [], alts := [], laidByText := true, laidKinds := [.data], laidTests := true, laidLooks := .later }
def EvalsFloatUptoCardSaid : Prop := Claim7.holds Tryz.pinned (.plain (OpenSpec.upto evalsFloatSpec)) evalsFloatUptoCard

/-- THE SECOND FORM's CARD OF 'gradinelaw16.EvalsTrims'. -/
def evalsTrimsUptoCard : Claim7 := { stood := { row := evalsTrimsUptoRow, standIns := [], harness := (true, "10cf896ddc174488314f175b17fde043853153ddc15b2343187bb4e9c70d74d9"), looks := false }, kinds := [], alts := [], laidByText := true, laidKinds := [.data], laidTests := true, laidLooks := .later }
def EvalsTrimsUptoCardSaid : Prop := Claim7.holds Tryz.pinned (.plain (OpenSpec.upto evalsTrimsSpec)) evalsTrimsUptoCard
end Rows
end Go.Proofs.YtibgpeaplmcogaaGreatDoor
