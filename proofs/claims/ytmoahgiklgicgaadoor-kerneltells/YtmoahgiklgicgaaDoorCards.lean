/-
  DERIVED. GIVEN WITH THE SEED: THE CARDS: each row of YtmoahgiklgicgaaDoorRows.lean that lists a variable, with what it lists TIED to the program's text (the seventh form; the later family's looks); each row that meets fmt, with fmt's text TOLD by the authors' own Lean function (tested against real Go, not proved from fmt's source: count such statements apart). THE CARD IS WHAT COUNTS. Prove the row's statement (the work); the ties are given (YtmoahgiklgicgaaDoorTie.lean); close each card by the builder's one call (the guide's Derived/Test/ToyasCard.lean, 'card_holds'). Laid BY PROGRAM, IN A SANDBOX (cutbox-door.mjs). By AI agents, Wed Nov 11 2026. No macro, syntax, notation, axiom, sorry.
-/
import Derived.Test.YtmoahgiklgicgaaDoorRows
import GoSem.ClaimSeven
namespace Go.Proofs.YtmoahgiklgicgaaDoor
namespace Rows

/-- THE TIED CARD OF 'gradinelaw14.KernelTells'. -/
def kernelTellsCard : Claim7 := { stood := { row := kernelTellsRow, standIns := [], harness := (true, "b82e092faf29263e063a2b8acbc3fde5e65beeb252e1dd3aecbb39ebc54d3c2f"), looks := false }, kinds := [], alts := [], laidByText := true, laidKinds := [.data], laidTests := true, laidLooks := .later }
def KernelTellsCardSaid : Prop := Claim7.holds Tryd.pinned (.plain (OpenSpec.ofChange kernelTellsSpec)) kernelTellsCard

/-- THE TIED CARD OF 'gradinelaw14.KernelSigns'. -/
def kernelSignsCard : Claim7 := { stood := { row := kernelSignsRow, standIns := [], harness := (true, "b82e092faf29263e063a2b8acbc3fde5e65beeb252e1dd3aecbb39ebc54d3c2f"), looks := false }, kinds := [], alts := [], laidByText := true, laidKinds := [.data], laidTests := true, laidLooks := .later }
def KernelSignsCardSaid : Prop := Claim7.holds Tryd.pinned (.plain (OpenSpec.ofChange kernelSignsSpec)) kernelSignsCard

/-- THE SECOND FORM's CARD OF 'gradinelaw14.KernelTells'. -/
def kernelTellsUptoCard : Claim7 := { stood := { row := kernelTellsUptoRow, standIns := [], harness := (true, "b82e092faf29263e063a2b8acbc3fde5e65beeb252e1dd3aecbb39ebc54d3c2f"), looks := false }, kinds := [], alts := [], laidByText := true, laidKinds := [.data], laidTests := true, laidLooks := .later }
def KernelTellsUptoCardSaid : Prop := Claim7.holds Tryd.pinned (.plain (OpenSpec.upto kernelTellsSpec)) kernelTellsUptoCard

/-- THE SECOND FORM's CARD OF 'gradinelaw14.KernelSigns'. -/
def kernelSignsUptoCard : Claim7 := { stood := { row := kernelSignsUptoRow, standIns := [], harness := (true, "b82e092faf29263e063a2b8acbc3fde5e65beeb252e1dd3aecbb39ebc54d3c2f"), looks := false }, kinds := [], alts := [], laidByText := true, laidKinds := [.data], laidTests := true, laidLooks := .later }
def KernelSignsUptoCardSaid : Prop := Claim7.holds Tryd.pinned (.plain (OpenSpec.upto kernelSignsSpec)) kernelSignsUptoCard
end Rows
end Go.Proofs.YtmoahgiklgicgaaDoor
