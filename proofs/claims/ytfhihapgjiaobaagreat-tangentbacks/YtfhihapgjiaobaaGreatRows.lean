/-
  No cell of these rows narrows 'for every input' (looked for: loops, veiled, ifaces, maps, wideKeys, modest, calm, conditions, laid).
  DERIVED. THE GIVEN ROWS OF THIS SEAT. 4 by the template 'for every input the law returns true; each argument reads behind the call as it read before'; 0 by the template 'total and deterministic' (their statements: YtfhihapgjiaobaaGreatTotals.lean).
  GIVEN WITH THE SEED: the statements are not yours to turn. If you find one false, say at which input.
  Laid BY PROGRAM, IN A SANDBOX (cutbox-rows.mjs): the forced cells as the released guide's own fill.sh prints them over the translation 8490056f5df1ec68… (all of the seat's roots in one cut). By AI agents, Wed Nov 11 2026. No macro, syntax, notation, axiom, sorry.
-/
import Derived.Test.YtfhihapgjiaobaaGreatChecked
import GoSem.Claim
import GoSem.ClaimJoined
import GoSem.ClaimMapViews
import Derived.JoinedTies
import Derived.KernelRfl
namespace Go.Proofs.YtfhihapgjiaobaaGreat
/- THE CELL 'sum', in the pinned program and in every row, IS THE sha256 OF THE DUMP (.gsa) THAT YtfhihapgjiaobaaGreatProg.lean LOADS. Nothing in Lean hashes anything: it is a label: what it is worth is what the hold of that sum in a sandbox is worth. -/
noncomputable def Tryz.pinned : Pinned := { name := "ytfhihapgjiaobaagreat", sum := "8490056f5df1ec688ae7d4260c59950043aef8caa15f6546694135818d199d16", checked := Tryz.checked }
namespace Rows
def none {H : Type} : Left H := { results := [], args := [] }

/-- 'gradinelaw17.TangentTells': WHATEVER THE INPUT: true; the input reads as it did. -/
def tangentTellsSpec : ChangeSpec := { name := "tangentTells", fn := fun _ => fun
  | [d] => { results := [.lit (.bool true)], args := [d] }
  | _ => none }
def tangentTellsRow : OpenClaim := { program := "ytfhihapgjiaobaagreat", sum := "8490056f5df1ec688ae7d4260c59950043aef8caa15f6546694135818d199d16", func := "gradine/gradinelaw17.TangentTells", spec := "tangentTells", unfollowed := true, recurses := true, apart := false }
def TangentTellsSaid : Prop := tangentTellsRow.holds Tryz.pinned (OpenSpec.ofChange tangentTellsSpec)

/-- ITS FALSE NEIGHBOUR: 'it returns false'. Refute it at one input. -/
def tangentTellsWrong : ChangeSpec := { name := "tangentTells", fn := fun _ => fun
  | [d] => { results := [.lit (.bool false)], args := [d] }
  | _ => none }
def TangentTellsWrongFalsely : Prop := tangentTellsRow.holds Tryz.pinned (OpenSpec.ofChange tangentTellsWrong)

/-- 'gradinelaw17.TangentBacks': WHATEVER THE INPUT: true; the input reads as it did. -/
def tangentBacksSpec : ChangeSpec := { name := "tangentBacks", fn := fun _ => fun
  | [d1, d2, d3] => { results := [.lit (.bool true)], args := [d1, d2, d3] }
  | _ => none }
def tangentBacksRow : OpenClaim := { program := "ytfhihapgjiaobaagreat", sum := "8490056f5df1ec688ae7d4260c59950043aef8caa15f6546694135818d199d16", func := "gradine/gradinelaw17.TangentBacks", spec := "tangentBacks", unfollowed := true, recurses := true, apart := false }
def TangentBacksSaid : Prop := tangentBacksRow.holds Tryz.pinned (OpenSpec.ofChange tangentBacksSpec)

/-- ITS FALSE NEIGHBOUR: 'it returns false'. Refute it at one input. -/
def tangentBacksWrong : ChangeSpec := { name := "tangentBacks", fn := fun _ => fun
  | [d1, d2, d3] => { results := [.lit (.bool false)], args := [d1, d2, d3] }
  | _ => none }
def TangentBacksWrongFalsely : Prop := tangentBacksRow.holds Tryz.pinned (OpenSpec.ofChange tangentBacksWrong)

/-- 'gradinelaw17.TangentAdjoint': WHATEVER THE INPUT: true; the input reads as it did. -/
def tangentAdjointSpec : ChangeSpec := { name := "tangentAdjoint", fn := fun _ => fun
  | [d1, d2, d3] => { results := [.lit (.bool true)], args := [d1, d2, d3] }
  | _ => none }
def tangentAdjointRow : OpenClaim := { program := "ytfhihapgjiaobaagreat", sum := "8490056f5df1ec688ae7d4260c59950043aef8caa15f6546694135818d199d16", func := "gradine/gradinelaw17.TangentAdjoint", spec := "tangentAdjoint", unfollowed := true, recurses := true, apart := false }
def TangentAdjointSaid : Prop := tangentAdjointRow.holds Tryz.pinned (OpenSpec.ofChange tangentAdjointSpec)

/-- ITS FALSE NEIGHBOUR: 'it returns false'. Refute it at one input. -/
def tangentAdjointWrong : ChangeSpec := { name := "tangentAdjoint", fn := fun _ => fun
  | [d1, d2, d3] => { results := [.lit (.bool false)], args := [d1, d2, d3] }
  | _ => none }
def TangentAdjointWrongFalsely : Prop := tangentAdjointRow.holds Tryz.pinned (OpenSpec.ofChange tangentAdjointWrong)

/-- 'gradinelaw17.TangentLinear': WHATEVER THE INPUT: true; the input reads as it did. -/
def tangentLinearSpec : ChangeSpec := { name := "tangentLinear", fn := fun _ => fun
  | [d1, d2, d3] => { results := [.lit (.bool true)], args := [d1, d2, d3] }
  | _ => none }
def tangentLinearRow : OpenClaim := { program := "ytfhihapgjiaobaagreat", sum := "8490056f5df1ec688ae7d4260c59950043aef8caa15f6546694135818d199d16", func := "gradine/gradinelaw17.TangentLinear", spec := "tangentLinear", unfollowed := true, recurses := true, apart := false }
def TangentLinearSaid : Prop := tangentLinearRow.holds Tryz.pinned (OpenSpec.ofChange tangentLinearSpec)

/-- ITS FALSE NEIGHBOUR: 'it returns false'. Refute it at one input. -/
def tangentLinearWrong : ChangeSpec := { name := "tangentLinear", fn := fun _ => fun
  | [d1, d2, d3] => { results := [.lit (.bool false)], args := [d1, d2, d3] }
  | _ => none }
def TangentLinearWrongFalsely : Prop := tangentLinearRow.holds Tryz.pinned (OpenSpec.ofChange tangentLinearWrong)

/- THE SECOND FORM. 'bulk': how many values and letters a reading holds, each counted each time it is reached (what is shared counts as often as it is met; a slice's spare places count too). A statement '..UptoSaid' is the law's where the arguments, and the package variables that the reading takes, are together of bulk at most 1048576: NARROWER than '..Said'. Prove '..Said' where nothing that the law and all that it calls make is longer than what came in: it says more and counts as full. Else prove '..UptoSaid'. A law counts once. -/
mutual
def uptoBulk {H : Type} : DataW H → Nat
  | .lit (.string bytes) => bytes.length + 1
  | .lit _ => 1
  | .nil => 1
  | .ptr d => uptoBulk d + 1
  | .slice elems spare => uptoBulkAll elems + uptoBulkAll spare + 1
  | .agg parts => uptoBulkAll parts + 1
  | .iface _ d => uptoBulk d + 1
  | .map entries => uptoBulkEntries entries + 1
  | .held _ => 1
def uptoBulkAll {H : Type} : List (DataW H) → Nat
  | [] => 0
  | d :: r => uptoBulk d + uptoBulkAll r
def uptoBulkEntries {H : Type} : List (Lit × DataW H) → Nat
  | [] => 0
  | x :: r => uptoBulkEntry x + uptoBulkEntries r
def uptoBulkEntry {H : Type} : Lit × DataW H → Nat
  | (.string bytes, d) => bytes.length + uptoBulk d + 1
  | (_, d) => uptoBulk d + 1
 end
def uptoSmall : (H : Type) → List (DataW H) → Bool := fun _ ds => decide (uptoBulkAll ds ≤ 1048576)
def OpenSpec.upto (s : _root_.Go.ChangeSpec) : _root_.Go.OpenSpec := { _root_.Go.OpenSpec.ofChange s with cond := some uptoSmall }

/-- 'gradinelaw17.TangentTells', WHERE WHAT IT READS IS OF BULK AT MOST 1048576: true; the input reads as it did. -/
def tangentTellsUptoRow : OpenClaim := { program := "ytfhihapgjiaobaagreat", sum := "8490056f5df1ec688ae7d4260c59950043aef8caa15f6546694135818d199d16", func := "gradine/gradinelaw17.TangentTells", spec := "tangentTells", unfollowed := true, recurses := true, apart := false, narrowed := true }
def TangentTellsUptoSaid : Prop := tangentTellsUptoRow.holds Tryz.pinned (OpenSpec.upto tangentTellsSpec)

/-- 'gradinelaw17.TangentBacks', WHERE WHAT IT READS IS OF BULK AT MOST 1048576: true; the input reads as it did. -/
def tangentBacksUptoRow : OpenClaim := { program := "ytfhihapgjiaobaagreat", sum := "8490056f5df1ec688ae7d4260c59950043aef8caa15f6546694135818d199d16", func := "gradine/gradinelaw17.TangentBacks", spec := "tangentBacks", unfollowed := true, recurses := true, apart := false, narrowed := true }
def TangentBacksUptoSaid : Prop := tangentBacksUptoRow.holds Tryz.pinned (OpenSpec.upto tangentBacksSpec)

/-- 'gradinelaw17.TangentAdjoint', WHERE WHAT IT READS IS OF BULK AT MOST 1048576: true; the input reads as it did. -/
def tangentAdjointUptoRow : OpenClaim := { program := "ytfhihapgjiaobaagreat", sum := "8490056f5df1ec688ae7d4260c59950043aef8caa15f6546694135818d199d16", func := "gradine/gradinelaw17.TangentAdjoint", spec := "tangentAdjoint", unfollowed := true, recurses := true, apart := false, narrowed := true }
def TangentAdjointUptoSaid : Prop := tangentAdjointUptoRow.holds Tryz.pinned (OpenSpec.upto tangentAdjointSpec)

/-- 'gradinelaw17.TangentLinear', WHERE WHAT IT READS IS OF BULK AT MOST 1048576: true; the input reads as it did. -/
def tangentLinearUptoRow : OpenClaim := { program := "ytfhihapgjiaobaagreat", sum := "8490056f5df1ec688ae7d4260c59950043aef8caa15f6546694135818d199d16", func := "gradine/gradinelaw17.TangentLinear", spec := "tangentLinear", unfollowed := true, recurses := true, apart := false, narrowed := true }
def TangentLinearUptoSaid : Prop := tangentLinearUptoRow.holds Tryz.pinned (OpenSpec.upto tangentLinearSpec)

end Rows
end Go.Proofs.YtfhihapgjiaobaaGreat
