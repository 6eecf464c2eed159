/-
  DERIVED. GIVEN WITH THE SEED: THE CARDS: each row of YthpbaaanbimapaaGreatDoorRows.lean that lists a variable, with what it lists TIED to the program's text (the seventh form; the later family's looks); each row that meets fmt, with fmt's text TOLD by the authors' own Lean function (tested against real Go, not proved from fmt's source: count such statements apart). THE CARD IS WHAT COUNTS. Prove the row's statement (the work); the ties are given (YthpbaaanbimapaaGreatDoorTie.lean); close each card by the builder's one call (the guide's Derived/Test/ToyasCard.lean, 'card_holds'). Laid BY PROGRAM, IN A SANDBOX (cutbox-door.mjs). By AI agents, Wed Nov 11 2026. No macro, syntax, notation, axiom, sorry.
-/
import Derived.Test.YthpbaaanbimapaaGreatDoorRows
import GoSem.ClaimSeven
namespace Go.Proofs.YthpbaaanbimapaaGreatDoor
namespace Rows

/-- THE TIED CARD OF 'gradinelaw18.BankActs'. -/
def bankActsCard : Claim7 := { stood := { row := bankActsRow, standIns := [], harness := (true, "409f66b18ab973f57eaa25ac1007f42eaf2ca21bbd0e6cd8479d743818719ecd"), looks := false }, kinds := [], alts := [], laidByText := true, laidKinds := [.data], laidTests := true, laidLooks := .later }
def BankActsCardSaid : Prop := Claim7.holds Tryz.pinned (.plain (OpenSpec.ofChange bankActsSpec)) bankActsCard

/-- THE TIED CARD OF 'gradinelaw18.BankTells'. -/
def bankTellsCard : Claim7 := { stood := { row := bankTellsRow, standIns := [], harness := (true, "409f66b18ab973f57eaa25ac1007f42eaf2ca21bbd0e6cd8479d743818719ecd"), looks := false }, kinds := [], alts := [], laidByText := true, laidKinds := [.data], laidTests := true, laidLooks := .later }
def BankTellsCardSaid : Prop := Claim7.holds Tryz.pinned (.plain (OpenSpec.ofChange bankTellsSpec)) bankTellsCard

/-- THE TIED CARD OF 'gradinelaw18.BankNil'. -/
def bankNilCard : Claim7 := { stood := { row := bankNilRow, standIns := [], harness := (true, "409f66b18ab973f57eaa25ac1007f42eaf2ca21bbd0e6cd8479d743818719ecd"), looks := false }, kinds := [], alts := [], laidByText := true, laidKinds := [.data], laidTests := true, laidLooks := .later }
def BankNilCardSaid : Prop := Claim7.holds Tryz.pinned (.plain (OpenSpec.ofChange bankNilSpec)) bankNilCard

/-- THE TIED CARD OF 'gradinelaw18.BankLines'. -/
def bankLinesCard : Claim7 := { stood := { row := bankLinesRow, standIns := [], harness := (true, "409f66b18ab973f57eaa25ac1007f42eaf2ca21bbd0e6cd8479d743818719ecd"), looks := false }, kinds := [], alts := [], laidByText := true, laidKinds := [.data], laidTests := true, laidLooks := .later }
def BankLinesCardSaid : Prop := Claim7.holds Tryz.pinned (.plain (OpenSpec.ofChange bankLinesSpec)) bankLinesCard

/-- THE TIED CARD OF 'gradinelaw18.BankUndo'. -/
def bankUndoCard : Claim7 := { stood := { row := bankUndoRow, standIns := [], harness := (true, "409f66b18ab973f57eaa25ac1007f42eaf2ca21bbd0e6cd8479d743818719ecd"), looks := false }, kinds := [], alts := [], laidByText := true, laidKinds := [.data], laidTests := true, laidLooks := .later }
def BankUndoCardSaid : Prop := Claim7.holds Tryz.pinned (.plain (OpenSpec.ofChange bankUndoSpec)) bankUndoCard

/-- THE SECOND FORM's CARD OF 'gradinelaw18.BankActs'. -/
def bankActsUptoCard : Claim7 := { stood := { row := bankActsUptoRow, standIns := [], harness := (true, "409f66b18ab973f57eaa25ac1007f42eaf2ca21bbd0e6cd8479d743818719ecd"), looks := false }, kinds := [], alts := [], laidByText := true, laidKinds := [.data], laidTests := true, laidLooks := .later }
def BankActsUptoCardSaid : Prop := Claim7.holds Tryz.pinned (.plain (OpenSpec.upto bankActsSpec)) bankActsUptoCard

/-- THE SECOND FORM's CARD OF 'gradinelaw18.BankTells'. -/
def bankTellsUptoCard : Claim7 := { stood := { row := bankTellsUptoRow, standIns := [], harness := (true, "409f66b18ab973f57eaa25ac1007f42eaf2ca21bbd0e6cd8479d743818719ecd"), looks := false }, kinds := [], alts := [], laidByText := true, laidKinds := [.data], laidTests := true, laidLooks := .later }
def BankTellsUptoCardSaid : Prop := Claim7.holds Tryz.pinned (.plain (OpenSpec.upto bankTellsSpec)) bankTellsUptoCard

/-- THE SECOND FORM's CARD OF 'gradinelaw18.BankNil'. -/
def bankNilUptoCard : Claim7 := { stood := { row := bankNilUptoRow, standIns := [], harness := (true, "409f66b18ab973f57eaa25ac1007f42eaf2ca21bbd0e6cd8479d743818719ecd"), looks := false }, kinds := [], alts := [], laidByText := true, laidKinds := [.data], laidTests := true, laidLooks := .later }
def BankNilUptoCardSaid : Prop := Claim7.holds Tryz.pinned (.plain (OpenSpec.upto bankNilSpec)) bankNilUptoCard

/-- THE SECOND FORM's CARD OF 'gradinelaw18.BankLines'. -/
def bankLinesUptoCard : Claim7 := { stood := { row := bankLinesUptoRow, standIns := [], harness := (true, "409f66b18ab973f57eaa25ac1007f42eaf2ca21bbd0e6cd8479d743818719ecd"), looks := false }, kinds := [], alts := [], laidByText := true, laidKinds := [.data], laidTests := true, laidLooks := .later }
def BankLinesUptoCardSaid : Prop := Claim7.holds Tryz.pinned (.plain (OpenSpec.upto bankLinesSpec)) bankLinesUptoCard

/-- THE SECOND FORM's CARD OF 'gradinelaw18.BankUndo'. -/
def bankUndoUptoCard : Claim7 := { stood := { row := bankUndoUptoRow, standIns := [], harness := (true, "409f66b18ab973f57eaa25ac1007f42eaf2ca21bbd0e6cd8479d743818719ecd"), looks := false }, kinds := [], alts := [], laidByText := true, laidKinds := [.data], laidTests := true, laidLooks := .later }
def BankUndoUptoCardSaid : Prop := Claim7.holds Tryz.pinned (.plain (OpenSpec.upto bankUndoSpec)) bankUndoUptoCard
end Rows
end Go.Proofs.YthpbaaanbimapaaGreatDoor
