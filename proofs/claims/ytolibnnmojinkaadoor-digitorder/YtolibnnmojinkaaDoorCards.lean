/-
  DERIVED. GIVEN WITH THE SEED: THE CARDS: each row of YtolibnnmojinkaaDoorRows.lean that lists a variable, with what it lists TIED to the program's text (the seventh form; the later family's looks); each row that meets fmt, with fmt's text TOLD by the authors' own Lean function (tested against real Go, not proved from fmt's source: count such statements apart). THE CARD IS WHAT COUNTS. Prove the row's statement (the work); the ties are given (YtolibnnmojinkaaDoorTie.lean); close each card by the builder's one call (the guide's Derived/Test/ToyasCard.lean, 'card_holds'). Laid BY PROGRAM, IN A SANDBOX (cutbox-door.mjs). By AI agents, Wed Nov 11 2026. No macro, syntax, notation, axiom, sorry.
-/
import Derived.Test.YtolibnnmojinkaaDoorRows
import GoSem.ClaimSeven
namespace Go.Proofs.YtolibnnmojinkaaDoor
namespace Rows

/-- THE TIED CARD OF 'gradinelaw06.DigitTells'. -/
def digitTellsCard : Claim7 := { stood := { row := digitTellsRow, standIns := [], harness := (true, "50d847ce5e80939779fa07bacb813d8087a1e2f86ad511886b4e3ff3a68fb630"), looks := false }, kinds := [], alts := [], laidByText := true, laidKinds := [.data, .pinned], laidTests := true, laidLooks := .later }
def DigitTellsCardSaid : Prop := Claim7.holds Tryd.pinned (.plain (OpenSpec.ofChange digitTellsSpec)) digitTellsCard

/-- THE TIED CARD OF 'gradinelaw06.DigitBack'. -/
def digitBackCard : Claim7 := { stood := { row := digitBackRow, standIns := [], harness := (true, "50d847ce5e80939779fa07bacb813d8087a1e2f86ad511886b4e3ff3a68fb630"), looks := false }, kinds := [], alts := [], laidByText := true, laidKinds := [.data, .pinned], laidTests := true, laidLooks := .later }
def DigitBackCardSaid : Prop := Claim7.holds Tryd.pinned (.plain (OpenSpec.ofChange digitBackSpec)) digitBackCard

/-- THE TIED CARD OF 'gradinelaw06.DigitOrder'. -/
def digitOrderCard : Claim7 := { stood := { row := digitOrderRow, standIns := [], harness := (true, "50d847ce5e80939779fa07bacb813d8087a1e2f86ad511886b4e3ff3a68fb630"), looks := false }, kinds := [], alts := [], laidByText := true, laidKinds := [.data, .pinned], laidTests := true, laidLooks := .later }
def DigitOrderCardSaid : Prop := Claim7.holds Tryd.pinned (.plain (OpenSpec.ofChange digitOrderSpec)) digitOrderCard

/-- THE SECOND FORM's CARD OF 'gradinelaw06.DigitTells'. -/
def digitTellsUptoCard : Claim7 := { stood := { row := digitTellsUptoRow, standIns := [], harness := (true, "50d847ce5e80939779fa07bacb813d8087a1e2f86ad511886b4e3ff3a68fb630"), looks := false }, kinds := [], alts := [], laidByText := true, laidKinds := [.data, .pinned], laidTests := true, laidLooks := .later }
def DigitTellsUptoCardSaid : Prop := Claim7.holds Tryd.pinned (.plain (OpenSpec.upto digitTellsSpec)) digitTellsUptoCard

/-- THE SECOND FORM's CARD OF 'gradinelaw06.DigitBack'. -/
def digitBackUptoCard : Claim7 := { stood := { row := digitBackUptoRow, standIns := [], harness := (true, "50d847ce5e80939779fa07bacb813d8087a1e2f86ad511886b4e3ff3a68fb630"), looks := false }, kinds := [], alts := [], laidByText := true, laidKinds := [.data, .pinned], laidTests := true, laidLooks := .later }
def DigitBackUptoCardSaid : Prop := Claim7.holds Tryd.pinned (.plain (OpenSpec.upto digitBackSpec)) digitBackUptoCard

/-- THE SECOND FORM's CARD OF 'gradinelaw06.DigitOrder'. -/
def digitOrderUptoCard : Claim7 := { stood := { row := digitOrderUptoRow, standIns := [], harness := (true, "50d847ce5e80939779fa07bacb813d8087a1e2f86ad511886b4e3ff3a68fb630"), looks := false }, kinds := [], alts := [], laidByText := true, laidKinds := [.data, .pinned], laidTests := true, laidLooks := .later }
def DigitOrderUptoCardSaid : Prop := Claim7.holds Tryd.pinned (.plain (OpenSpec.upto digitOrderSpec)) digitOrderUptoCard
end Rows
end Go.Proofs.YtolibnnmojinkaaDoor
