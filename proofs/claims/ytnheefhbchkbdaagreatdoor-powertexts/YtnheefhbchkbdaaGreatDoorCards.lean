/-
  DERIVED. GIVEN WITH THE SEED: THE CARDS: each row of YtnheefhbchkbdaaGreatDoorRows.lean that lists a variable, with what it lists TIED to the program's text (the seventh form; the later family's looks); each row that meets fmt, with fmt's text TOLD by the authors' own Lean function (tested against real Go, not proved from fmt's source: count such statements apart). THE CARD IS WHAT COUNTS. Prove the row's statement (the work); the ties are given (YtnheefhbchkbdaaGreatDoorTie.lean); close each card by the builder's one call (the guide's Derived/Test/ToyasCard.lean, 'card_holds'). Laid BY PROGRAM, IN A SANDBOX (cutbox-door.mjs). By AI agents, Wed Nov 11 2026. No macro, syntax, notation, axiom, sorry.
-/
import Derived.Test.YtnheefhbchkbdaaGreatDoorRows
import GoSem.ClaimSeven
namespace Go.Proofs.YtnheefhbchkbdaaGreatDoor
namespace Rows

/-- THE TIED CARD OF 'gradinelaw08.PowerTells'. -/
def powerTellsCard : Claim7 := { stood := { row := powerTellsRow, standIns := [], harness := (true, "8b83cfc034c886507b32279f450bf5b9a49738b6c709af234da35aab029fed35"), looks := false }, kinds := [], alts := [], laidByText := true, laidKinds := [.data, .pinned], laidTests := true, laidLooks := .later }
def PowerTellsCardSaid : Prop := Claim7.holds Tryz.pinned (.plain (OpenSpec.ofChange powerTellsSpec)) powerTellsCard

/-- THE TIED CARD OF 'gradinelaw08.PowerTexts'. -/
def powerTextsCard : Claim7 := { stood := { row := powerTextsRow, standIns := [], harness := (true, "8b83cfc034c886507b32279f450bf5b9a49738b6c709af234da35aab029fed35"), looks := false }, kinds := [], alts := [], laidByText := true, laidKinds := [.data, .pinned], laidTests := true, laidLooks := .later }
def PowerTextsCardSaid : Prop := Claim7.holds Tryz.pinned (.plain (OpenSpec.ofChange powerTextsSpec)) powerTextsCard

/-- THE SECOND FORM's CARD OF 'gradinelaw08.PowerTells'. -/
def powerTellsUptoCard : Claim7 := { stood := { row := powerTellsUptoRow, standIns := [], harness := (true, "8b83cfc034c886507b32279f450bf5b9a49738b6c709af234da35aab029fed35"), looks := false }, kinds := [], alts := [], laidByText := true, laidKinds := [.data, .pinned], laidTests := true, laidLooks := .later }
def PowerTellsUptoCardSaid : Prop := Claim7.holds Tryz.pinned (.plain (OpenSpec.upto powerTellsSpec)) powerTellsUptoCard

/-- THE SECOND FORM's CARD OF 'gradinelaw08.PowerTexts'. -/
def powerTextsUptoCard : Claim7 := { stood := { row := powerTextsUptoRow, standIns := [], harness := (true, "8b83cfc034c886507b32279f450bf5b9a49738b6c709af234da35aab029fed35"), looks := false }, kinds := [], alts := [], laidByText := true, laidKinds := [.data, .pinned], laidTests := true, laidLooks := .later }
def PowerTextsUptoCardSaid : Prop := Claim7.holds Tryz.pinned (.plain (OpenSpec.upto powerTextsSpec)) powerTextsUptoCard
end Rows
end Go.Proofs.YtnheefhbchkbdaaGreatDoor
