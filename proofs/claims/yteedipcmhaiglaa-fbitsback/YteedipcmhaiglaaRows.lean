/-
  No cell of these rows narrows 'for every input' (looked for: loops, veiled, ifaces, maps, wideKeys, modest, calm, conditions, laid).
  DERIVED. THE GIVEN ROWS OF THIS SEAT. 8 by the template 'for every input the law returns true; each argument reads behind the call as it read before'; 0 by the template 'total and deterministic' (their statements: YteedipcmhaiglaaTotals.lean).
  GIVEN WITH THE SEED: the statements are not yours to turn. If you find one false, say at which input.
  Laid BY PROGRAM, IN A SANDBOX (cutbox-rows.mjs): the forced cells as the released guide's own fill.sh prints them over the translation 8d3926da6a8146c9… (all of the seat's roots in one cut). By AI agents, Wed Nov 11 2026. No macro, syntax, notation, axiom, sorry.
-/
import Derived.Test.YteedipcmhaiglaaChecked
import GoSem.Claim
import GoSem.ClaimJoined
import GoSem.ClaimMapViews
import Derived.JoinedTies
import Derived.KernelRfl
namespace Go.Proofs.Yteedipcmhaiglaa
/- THE CELL 'sum', in the pinned program and in every row, IS THE sha256 OF THE DUMP (.gsa) THAT YteedipcmhaiglaaProg.lean LOADS. Nothing in Lean hashes anything: it is a label: what it is worth is what the hold of that sum in a sandbox is worth. -/
noncomputable def Try.pinned : Pinned := { name := "yteedipcmhaiglaa", sum := "8d3926da6a8146c9c511a501bf47baebf74fbf6e9c85980325cb9462b12132af", checked := Try.checked }
namespace Rows
def none {H : Type} : Left H := { results := [], args := [] }

/-- 'gradinelaw09.FbitsTells': WHATEVER THE INPUT: true; the input reads as it did. -/
def fbitsTellsSpec : ChangeSpec := { name := "fbitsTells", fn := fun _ => fun
  | [d] => { results := [.lit (.bool true)], args := [d] }
  | _ => none }
def fbitsTellsRow : OpenClaim := { program := "yteedipcmhaiglaa", sum := "8d3926da6a8146c9c511a501bf47baebf74fbf6e9c85980325cb9462b12132af", func := "gradine/gradinelaw09.FbitsTells", spec := "fbitsTells", apart := false }
def FbitsTellsSaid : Prop := fbitsTellsRow.holds Try.pinned (OpenSpec.ofChange fbitsTellsSpec)

/-- ITS FALSE NEIGHBOUR: 'it returns false'. Refute it at one input. -/
def fbitsTellsWrong : ChangeSpec := { name := "fbitsTells", fn := fun _ => fun
  | [d] => { results := [.lit (.bool false)], args := [d] }
  | _ => none }
def FbitsTellsWrongFalsely : Prop := fbitsTellsRow.holds Try.pinned (OpenSpec.ofChange fbitsTellsWrong)

/-- 'gradinelaw09.FbitsMakes': WHATEVER THE INPUT: true; the input reads as it did. -/
def fbitsMakesSpec : ChangeSpec := { name := "fbitsMakes", fn := fun _ => fun
  | [d1, d2, d3] => { results := [.lit (.bool true)], args := [d1, d2, d3] }
  | _ => none }
def fbitsMakesRow : OpenClaim := { program := "yteedipcmhaiglaa", sum := "8d3926da6a8146c9c511a501bf47baebf74fbf6e9c85980325cb9462b12132af", func := "gradine/gradinelaw09.FbitsMakes", spec := "fbitsMakes", apart := false }
def FbitsMakesSaid : Prop := fbitsMakesRow.holds Try.pinned (OpenSpec.ofChange fbitsMakesSpec)

/-- ITS FALSE NEIGHBOUR: 'it returns false'. Refute it at one input. -/
def fbitsMakesWrong : ChangeSpec := { name := "fbitsMakes", fn := fun _ => fun
  | [d1, d2, d3] => { results := [.lit (.bool false)], args := [d1, d2, d3] }
  | _ => none }
def FbitsMakesWrongFalsely : Prop := fbitsMakesRow.holds Try.pinned (OpenSpec.ofChange fbitsMakesWrong)

/-- 'gradinelaw09.FbitsBack': WHATEVER THE INPUT: true; the input reads as it did. -/
def fbitsBackSpec : ChangeSpec := { name := "fbitsBack", fn := fun _ => fun
  | [d1, d2] => { results := [.lit (.bool true)], args := [d1, d2] }
  | _ => none }
def fbitsBackRow : OpenClaim := { program := "yteedipcmhaiglaa", sum := "8d3926da6a8146c9c511a501bf47baebf74fbf6e9c85980325cb9462b12132af", func := "gradine/gradinelaw09.FbitsBack", spec := "fbitsBack", apart := false }
def FbitsBackSaid : Prop := fbitsBackRow.holds Try.pinned (OpenSpec.ofChange fbitsBackSpec)

/-- ITS FALSE NEIGHBOUR: 'it returns false'. Refute it at one input. -/
def fbitsBackWrong : ChangeSpec := { name := "fbitsBack", fn := fun _ => fun
  | [d1, d2] => { results := [.lit (.bool false)], args := [d1, d2] }
  | _ => none }
def FbitsBackWrongFalsely : Prop := fbitsBackRow.holds Try.pinned (OpenSpec.ofChange fbitsBackWrong)

/-- 'gradinelaw10.FroundWords': WHATEVER THE INPUT: true; the input reads as it did. -/
def froundWordsSpec : ChangeSpec := { name := "froundWords", fn := fun _ => fun
  | [d1, d2, d3] => { results := [.lit (.bool true)], args := [d1, d2, d3] }
  | _ => none }
def froundWordsRow : OpenClaim := { program := "yteedipcmhaiglaa", sum := "8d3926da6a8146c9c511a501bf47baebf74fbf6e9c85980325cb9462b12132af", func := "gradine/gradinelaw10.FroundWords", spec := "froundWords", apart := false }
def FroundWordsSaid : Prop := froundWordsRow.holds Try.pinned (OpenSpec.ofChange froundWordsSpec)

/-- ITS FALSE NEIGHBOUR: 'it returns false'. Refute it at one input. -/
def froundWordsWrong : ChangeSpec := { name := "froundWords", fn := fun _ => fun
  | [d1, d2, d3] => { results := [.lit (.bool false)], args := [d1, d2, d3] }
  | _ => none }
def FroundWordsWrongFalsely : Prop := froundWordsRow.holds Try.pinned (OpenSpec.ofChange froundWordsWrong)

/-- 'gradinelaw10.FroundLists': WHATEVER THE INPUT: true; the input reads as it did. -/
def froundListsSpec : ChangeSpec := { name := "froundLists", fn := fun _ => fun
  | [d1, d2] => { results := [.lit (.bool true)], args := [d1, d2] }
  | _ => none }
def froundListsRow : OpenClaim := { program := "yteedipcmhaiglaa", sum := "8d3926da6a8146c9c511a501bf47baebf74fbf6e9c85980325cb9462b12132af", func := "gradine/gradinelaw10.FroundLists", spec := "froundLists", apart := false }
def FroundListsSaid : Prop := froundListsRow.holds Try.pinned (OpenSpec.ofChange froundListsSpec)

/-- ITS FALSE NEIGHBOUR: 'it returns false'. Refute it at one input. -/
def froundListsWrong : ChangeSpec := { name := "froundLists", fn := fun _ => fun
  | [d1, d2] => { results := [.lit (.bool false)], args := [d1, d2] }
  | _ => none }
def FroundListsWrongFalsely : Prop := froundListsRow.holds Try.pinned (OpenSpec.ofChange froundListsWrong)

/-- 'gradinelaw10.FroundRats': WHATEVER THE INPUT: true; the input reads as it did. -/
def froundRatsSpec : ChangeSpec := { name := "froundRats", fn := fun _ => fun
  | [d1, d2] => { results := [.lit (.bool true)], args := [d1, d2] }
  | _ => none }
def froundRatsRow : OpenClaim := { program := "yteedipcmhaiglaa", sum := "8d3926da6a8146c9c511a501bf47baebf74fbf6e9c85980325cb9462b12132af", func := "gradine/gradinelaw10.FroundRats", spec := "froundRats", apart := false }
def FroundRatsSaid : Prop := froundRatsRow.holds Try.pinned (OpenSpec.ofChange froundRatsSpec)

/-- ITS FALSE NEIGHBOUR: 'it returns false'. Refute it at one input. -/
def froundRatsWrong : ChangeSpec := { name := "froundRats", fn := fun _ => fun
  | [d1, d2] => { results := [.lit (.bool false)], args := [d1, d2] }
  | _ => none }
def FroundRatsWrongFalsely : Prop := froundRatsRow.holds Try.pinned (OpenSpec.ofChange froundRatsWrong)

/-- 'gradinelaw10.FroundNearest': WHATEVER THE INPUT: true; the input reads as it did. -/
def froundNearestSpec : ChangeSpec := { name := "froundNearest", fn := fun _ => fun
  | [d1, d2] => { results := [.lit (.bool true)], args := [d1, d2] }
  | _ => none }
def froundNearestRow : OpenClaim := { program := "yteedipcmhaiglaa", sum := "8d3926da6a8146c9c511a501bf47baebf74fbf6e9c85980325cb9462b12132af", func := "gradine/gradinelaw10.FroundNearest", spec := "froundNearest", apart := false }
def FroundNearestSaid : Prop := froundNearestRow.holds Try.pinned (OpenSpec.ofChange froundNearestSpec)

/-- ITS FALSE NEIGHBOUR: 'it returns false'. Refute it at one input. -/
def froundNearestWrong : ChangeSpec := { name := "froundNearest", fn := fun _ => fun
  | [d1, d2] => { results := [.lit (.bool false)], args := [d1, d2] }
  | _ => none }
def FroundNearestWrongFalsely : Prop := froundNearestRow.holds Try.pinned (OpenSpec.ofChange froundNearestWrong)

/-- 'gradinelaw10.FroundBack': WHATEVER THE INPUT: true; the input reads as it did. -/
def froundBackSpec : ChangeSpec := { name := "froundBack", fn := fun _ => fun
  | [d1, d2, d3] => { results := [.lit (.bool true)], args := [d1, d2, d3] }
  | _ => none }
def froundBackRow : OpenClaim := { program := "yteedipcmhaiglaa", sum := "8d3926da6a8146c9c511a501bf47baebf74fbf6e9c85980325cb9462b12132af", func := "gradine/gradinelaw10.FroundBack", spec := "froundBack", apart := false }
def FroundBackSaid : Prop := froundBackRow.holds Try.pinned (OpenSpec.ofChange froundBackSpec)

/-- ITS FALSE NEIGHBOUR: 'it returns false'. Refute it at one input. -/
def froundBackWrong : ChangeSpec := { name := "froundBack", fn := fun _ => fun
  | [d1, d2, d3] => { results := [.lit (.bool false)], args := [d1, d2, d3] }
  | _ => none }
def FroundBackWrongFalsely : Prop := froundBackRow.holds Try.pinned (OpenSpec.ofChange froundBackWrong)

/- THE SECOND FORM. 'bulk': how many values and letters a reading holds, each counted each time it is reached (what is shared counts as often as it is met; a slice's spare places count too). A statement '..UptoSaid' is the law's where the arguments, and the package variables that the reading takes, are together of bulk at most 1048576: NARROWER than '..Said'. Prove '..Said' where nothing that the law and all that it calls make is longer than what came in: it says more and counts as full. Else prove '..UptoSaid'. A law counts once. -/
mutual
def uptoBulk {H : Type} : DataW H → Nat
  | .lit (.string bytes) => bytes.length + 1
  | .lit _ => 1
  | .nil => 1
  | .ptr d => uptoBulk d + 1
  | .slice elems spare => uptoBulkAll elems + uptoBulkAll spare + 1
  | .agg parts => uptoBulkAll parts + 1
  | .iface _ d => uptoBulk d + 1
  | .map entries => uptoBulkEntries entries + 1
  | .held _ => 1
def uptoBulkAll {H : Type} : List (DataW H) → Nat
  | [] => 0
  | d :: r => uptoBulk d + uptoBulkAll r
def uptoBulkEntries {H : Type} : List (Lit × DataW H) → Nat
  | [] => 0
  | x :: r => uptoBulkEntry x + uptoBulkEntries r
def uptoBulkEntry {H : Type} : Lit × DataW H → Nat
  | (.string bytes, d) => bytes.length + uptoBulk d + 1
  | (_, d) => uptoBulk d + 1
 end
def uptoSmall : (H : Type) → List (DataW H) → Bool := fun _ ds => decide (uptoBulkAll ds ≤ 1048576)
def OpenSpec.upto (s : _root_.Go.ChangeSpec) : _root_.Go.OpenSpec := { _root_.Go.OpenSpec.ofChange s with cond := some uptoSmall }

/-- 'gradinelaw09.FbitsTells', WHERE WHAT IT READS IS OF BULK AT MOST 1048576: true; the input reads as it did. -/
def fbitsTellsUptoRow : OpenClaim := { program := "yteedipcmhaiglaa", sum := "8d3926da6a8146c9c511a501bf47baebf74fbf6e9c85980325cb9462b12132af", func := "gradine/gradinelaw09.FbitsTells", spec := "fbitsTells", apart := false, narrowed := true }
def FbitsTellsUptoSaid : Prop := fbitsTellsUptoRow.holds Try.pinned (OpenSpec.upto fbitsTellsSpec)

/-- 'gradinelaw09.FbitsMakes', WHERE WHAT IT READS IS OF BULK AT MOST 1048576: true; the input reads as it did. -/
def fbitsMakesUptoRow : OpenClaim := { program := "yteedipcmhaiglaa", sum := "8d3926da6a8146c9c511a501bf47baebf74fbf6e9c85980325cb9462b12132af", func := "gradine/gradinelaw09.FbitsMakes", spec := "fbitsMakes", apart := false, narrowed := true }
def FbitsMakesUptoSaid : Prop := fbitsMakesUptoRow.holds Try.pinned (OpenSpec.upto fbitsMakesSpec)

/-- 'gradinelaw09.FbitsBack', WHERE WHAT IT READS IS OF BULK AT MOST 1048576: true; the input reads as it did. -/
def fbitsBackUptoRow : OpenClaim := { program := "yteedipcmhaiglaa", sum := "8d3926da6a8146c9c511a501bf47baebf74fbf6e9c85980325cb9462b12132af", func := "gradine/gradinelaw09.FbitsBack", spec := "fbitsBack", apart := false, narrowed := true }
def FbitsBackUptoSaid : Prop := fbitsBackUptoRow.holds Try.pinned (OpenSpec.upto fbitsBackSpec)

/-- 'gradinelaw10.FroundWords', WHERE WHAT IT READS IS OF BULK AT MOST 1048576: true; the input reads as it did. -/
def froundWordsUptoRow : OpenClaim := { program := "yteedipcmhaiglaa", sum := "8d3926da6a8146c9c511a501bf47baebf74fbf6e9c85980325cb9462b12132af", func := "gradine/gradinelaw10.FroundWords", spec := "froundWords", apart := false, narrowed := true }
def FroundWordsUptoSaid : Prop := froundWordsUptoRow.holds Try.pinned (OpenSpec.upto froundWordsSpec)

/-- 'gradinelaw10.FroundLists', WHERE WHAT IT READS IS OF BULK AT MOST 1048576: true; the input reads as it did. -/
def froundListsUptoRow : OpenClaim := { program := "yteedipcmhaiglaa", sum := "8d3926da6a8146c9c511a501bf47baebf74fbf6e9c85980325cb9462b12132af", func := "gradine/gradinelaw10.FroundLists", spec := "froundLists", apart := false, narrowed := true }
def FroundListsUptoSaid : Prop := froundListsUptoRow.holds Try.pinned (OpenSpec.upto froundListsSpec)

/-- 'gradinelaw10.FroundRats', WHERE WHAT IT READS IS OF BULK AT MOST 1048576: true; the input reads as it did. -/
def froundRatsUptoRow : OpenClaim := { program := "yteedipcmhaiglaa", sum := "8d3926da6a8146c9c511a501bf47baebf74fbf6e9c85980325cb9462b12132af", func := "gradine/gradinelaw10.FroundRats", spec := "froundRats", apart := false, narrowed := true }
def FroundRatsUptoSaid : Prop := froundRatsUptoRow.holds Try.pinned (OpenSpec.upto froundRatsSpec)

/-- 'gradinelaw10.FroundNearest', WHERE WHAT IT READS IS OF BULK AT MOST 1048576: true; the input reads as it did. -/
def froundNearestUptoRow : OpenClaim := { program := "yteedipcmhaiglaa", sum := "8d3926da6a8146c9c511a501bf47baebf74fbf6e9c85980325cb9462b12132af", func := "gradine/gradinelaw10.FroundNearest", spec := "froundNearest", apart := false, narrowed := true }
def FroundNearestUptoSaid : Prop := froundNearestUptoRow.holds Try.pinned (OpenSpec.upto froundNearestSpec)

/-- 'gradinelaw10.FroundBack', WHERE WHAT IT READS IS OF BULK AT MOST 1048576: true; the input reads as it did. -/
def froundBackUptoRow : OpenClaim := { program := "yteedipcmhaiglaa", sum := "8d3926da6a8146c9c511a501bf47baebf74fbf6e9c85980325cb9462b12132af", func := "gradine/gradinelaw10.FroundBack", spec := "froundBack", apart := false, narrowed := true }
def FroundBackUptoSaid : Prop := froundBackUptoRow.holds Try.pinned (OpenSpec.upto froundBackSpec)

end Rows
end Go.Proofs.Yteedipcmhaiglaa
