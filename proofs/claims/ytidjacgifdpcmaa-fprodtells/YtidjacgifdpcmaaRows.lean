/-
  No cell of these rows narrows 'for every input' (looked for: loops, veiled, ifaces, maps, wideKeys, modest, calm, conditions, laid).
  DERIVED. THE GIVEN ROWS OF THIS SEAT. 7 by the template 'for every input the law returns true; each argument reads behind the call as it read before'; 0 by the template 'total and deterministic' (their statements: YtidjacgifdpcmaaTotals.lean).
  GIVEN WITH THE SEED: the statements are not yours to turn. If you find one false, say at which input.
  Laid BY PROGRAM, IN A SANDBOX (cutbox-rows.mjs): the forced cells as the released guide's own fill.sh prints them over the translation bf1652bb791e7ef9… (all of the seat's roots in one cut). By AI agents, Wed Nov 11 2026. No macro, syntax, notation, axiom, sorry.
-/
import Derived.Test.YtidjacgifdpcmaaChecked
import GoSem.Claim
import GoSem.ClaimJoined
import GoSem.ClaimMapViews
import Derived.JoinedTies
import Derived.KernelRfl
namespace Go.Proofs.Ytidjacgifdpcmaa
/- THE CELL 'sum', in the pinned program and in every row, IS THE sha256 OF THE DUMP (.gsa) THAT YtidjacgifdpcmaaProg.lean LOADS. Nothing in Lean hashes anything: it is a label: what it is worth is what the hold of that sum in a sandbox is worth. -/
noncomputable def Try.pinned : Pinned := { name := "ytidjacgifdpcmaa", sum := "bf1652bb791e7ef93c8502fe39d6ba910fed99aba3ac14a0649c4f4951e440fc", checked := Try.checked }
namespace Rows
def none {H : Type} : Left H := { results := [], args := [] }

/-- 'gradinelaw11.FsumTells': WHATEVER THE INPUT: true; the input reads as it did. -/
def fsumTellsSpec : ChangeSpec := { name := "fsumTells", fn := fun _ => fun
  | [d1, d2] => { results := [.lit (.bool true)], args := [d1, d2] }
  | _ => none }
def fsumTellsRow : OpenClaim := { program := "ytidjacgifdpcmaa", sum := "bf1652bb791e7ef93c8502fe39d6ba910fed99aba3ac14a0649c4f4951e440fc", func := "gradine/gradinelaw11.FsumTells", spec := "fsumTells", apart := false }
def FsumTellsSaid : Prop := fsumTellsRow.holds Try.pinned (OpenSpec.ofChange fsumTellsSpec)

/-- ITS FALSE NEIGHBOUR: 'it returns false'. Refute it at one input. -/
def fsumTellsWrong : ChangeSpec := { name := "fsumTells", fn := fun _ => fun
  | [d1, d2] => { results := [.lit (.bool false)], args := [d1, d2] }
  | _ => none }
def FsumTellsWrongFalsely : Prop := fsumTellsRow.holds Try.pinned (OpenSpec.ofChange fsumTellsWrong)

/-- 'gradinelaw11.FsumTurns': WHATEVER THE INPUT: true; the input reads as it did. -/
def fsumTurnsSpec : ChangeSpec := { name := "fsumTurns", fn := fun _ => fun
  | [d1, d2] => { results := [.lit (.bool true)], args := [d1, d2] }
  | _ => none }
def fsumTurnsRow : OpenClaim := { program := "ytidjacgifdpcmaa", sum := "bf1652bb791e7ef93c8502fe39d6ba910fed99aba3ac14a0649c4f4951e440fc", func := "gradine/gradinelaw11.FsumTurns", spec := "fsumTurns", apart := false }
def FsumTurnsSaid : Prop := fsumTurnsRow.holds Try.pinned (OpenSpec.ofChange fsumTurnsSpec)

/-- ITS FALSE NEIGHBOUR: 'it returns false'. Refute it at one input. -/
def fsumTurnsWrong : ChangeSpec := { name := "fsumTurns", fn := fun _ => fun
  | [d1, d2] => { results := [.lit (.bool false)], args := [d1, d2] }
  | _ => none }
def FsumTurnsWrongFalsely : Prop := fsumTurnsRow.holds Try.pinned (OpenSpec.ofChange fsumTurnsWrong)

/-- 'gradinelaw11.FsumExact': WHATEVER THE INPUT: true; the input reads as it did. -/
def fsumExactSpec : ChangeSpec := { name := "fsumExact", fn := fun _ => fun
  | [d1, d2] => { results := [.lit (.bool true)], args := [d1, d2] }
  | _ => none }
def fsumExactRow : OpenClaim := { program := "ytidjacgifdpcmaa", sum := "bf1652bb791e7ef93c8502fe39d6ba910fed99aba3ac14a0649c4f4951e440fc", func := "gradine/gradinelaw11.FsumExact", spec := "fsumExact", apart := false }
def FsumExactSaid : Prop := fsumExactRow.holds Try.pinned (OpenSpec.ofChange fsumExactSpec)

/-- ITS FALSE NEIGHBOUR: 'it returns false'. Refute it at one input. -/
def fsumExactWrong : ChangeSpec := { name := "fsumExact", fn := fun _ => fun
  | [d1, d2] => { results := [.lit (.bool false)], args := [d1, d2] }
  | _ => none }
def FsumExactWrongFalsely : Prop := fsumExactRow.holds Try.pinned (OpenSpec.ofChange fsumExactWrong)

/-- 'gradinelaw12.FprodTells': WHATEVER THE INPUT: true; the input reads as it did. -/
def fprodTellsSpec : ChangeSpec := { name := "fprodTells", fn := fun _ => fun
  | [d1, d2] => { results := [.lit (.bool true)], args := [d1, d2] }
  | _ => none }
def fprodTellsRow : OpenClaim := { program := "ytidjacgifdpcmaa", sum := "bf1652bb791e7ef93c8502fe39d6ba910fed99aba3ac14a0649c4f4951e440fc", func := "gradine/gradinelaw12.FprodTells", spec := "fprodTells", apart := false }
def FprodTellsSaid : Prop := fprodTellsRow.holds Try.pinned (OpenSpec.ofChange fprodTellsSpec)

/-- ITS FALSE NEIGHBOUR: 'it returns false'. Refute it at one input. -/
def fprodTellsWrong : ChangeSpec := { name := "fprodTells", fn := fun _ => fun
  | [d1, d2] => { results := [.lit (.bool false)], args := [d1, d2] }
  | _ => none }
def FprodTellsWrongFalsely : Prop := fprodTellsRow.holds Try.pinned (OpenSpec.ofChange fprodTellsWrong)

/-- 'gradinelaw12.FprodRoots': WHATEVER THE INPUT: true; the input reads as it did. -/
def fprodRootsSpec : ChangeSpec := { name := "fprodRoots", fn := fun _ => fun
  | [d] => { results := [.lit (.bool true)], args := [d] }
  | _ => none }
def fprodRootsRow : OpenClaim := { program := "ytidjacgifdpcmaa", sum := "bf1652bb791e7ef93c8502fe39d6ba910fed99aba3ac14a0649c4f4951e440fc", func := "gradine/gradinelaw12.FprodRoots", spec := "fprodRoots", apart := false }
def FprodRootsSaid : Prop := fprodRootsRow.holds Try.pinned (OpenSpec.ofChange fprodRootsSpec)

/-- ITS FALSE NEIGHBOUR: 'it returns false'. Refute it at one input. -/
def fprodRootsWrong : ChangeSpec := { name := "fprodRoots", fn := fun _ => fun
  | [d] => { results := [.lit (.bool false)], args := [d] }
  | _ => none }
def FprodRootsWrongFalsely : Prop := fprodRootsRow.holds Try.pinned (OpenSpec.ofChange fprodRootsWrong)

/-- 'gradinelaw12.FprodTurns': WHATEVER THE INPUT: true; the input reads as it did. -/
def fprodTurnsSpec : ChangeSpec := { name := "fprodTurns", fn := fun _ => fun
  | [d1, d2] => { results := [.lit (.bool true)], args := [d1, d2] }
  | _ => none }
def fprodTurnsRow : OpenClaim := { program := "ytidjacgifdpcmaa", sum := "bf1652bb791e7ef93c8502fe39d6ba910fed99aba3ac14a0649c4f4951e440fc", func := "gradine/gradinelaw12.FprodTurns", spec := "fprodTurns", apart := false }
def FprodTurnsSaid : Prop := fprodTurnsRow.holds Try.pinned (OpenSpec.ofChange fprodTurnsSpec)

/-- ITS FALSE NEIGHBOUR: 'it returns false'. Refute it at one input. -/
def fprodTurnsWrong : ChangeSpec := { name := "fprodTurns", fn := fun _ => fun
  | [d1, d2] => { results := [.lit (.bool false)], args := [d1, d2] }
  | _ => none }
def FprodTurnsWrongFalsely : Prop := fprodTurnsRow.holds Try.pinned (OpenSpec.ofChange fprodTurnsWrong)

/-- 'gradinelaw12.FprodSquares': WHATEVER THE INPUT: true; the input reads as it did. -/
def fprodSquaresSpec : ChangeSpec := { name := "fprodSquares", fn := fun _ => fun
  | [d] => { results := [.lit (.bool true)], args := [d] }
  | _ => none }
def fprodSquaresRow : OpenClaim := { program := "ytidjacgifdpcmaa", sum := "bf1652bb791e7ef93c8502fe39d6ba910fed99aba3ac14a0649c4f4951e440fc", func := "gradine/gradinelaw12.FprodSquares", spec := "fprodSquares", apart := false }
def FprodSquaresSaid : Prop := fprodSquaresRow.holds Try.pinned (OpenSpec.ofChange fprodSquaresSpec)

/-- ITS FALSE NEIGHBOUR: 'it returns false'. Refute it at one input. -/
def fprodSquaresWrong : ChangeSpec := { name := "fprodSquares", fn := fun _ => fun
  | [d] => { results := [.lit (.bool false)], args := [d] }
  | _ => none }
def FprodSquaresWrongFalsely : Prop := fprodSquaresRow.holds Try.pinned (OpenSpec.ofChange fprodSquaresWrong)

/- THE SECOND FORM. 'bulk': how many values and letters a reading holds, each counted each time it is reached (what is shared counts as often as it is met; a slice's spare places count too). A statement '..UptoSaid' is the law's where the arguments, and the package variables that the reading takes, are together of bulk at most 1048576: NARROWER than '..Said'. Prove '..Said' where nothing that the law and all that it calls make is longer than what came in: it says more and counts as full. Else prove '..UptoSaid'. A law counts once. -/
mutual
def uptoBulk {H : Type} : DataW H → Nat
  | .lit (.string bytes) => bytes.length + 1
  | .lit _ => 1
  | .nil => 1
  | .ptr d => uptoBulk d + 1
  | .slice elems spare => uptoBulkAll elems + uptoBulkAll spare + 1
  | .agg parts => uptoBulkAll parts + 1
  | .iface _ d => uptoBulk d + 1
  | .map entries => uptoBulkEntries entries + 1
  | .held _ => 1
def uptoBulkAll {H : Type} : List (DataW H) → Nat
  | [] => 0
  | d :: r => uptoBulk d + uptoBulkAll r
def uptoBulkEntries {H : Type} : List (Lit × DataW H) → Nat
  | [] => 0
  | x :: r => uptoBulkEntry x + uptoBulkEntries r
def uptoBulkEntry {H : Type} : Lit × DataW H → Nat
  | (.string bytes, d) => bytes.length + uptoBulk d + 1
  | (_, d) => uptoBulk d + 1
 end
def uptoSmall : (H : Type) → List (DataW H) → Bool := fun _ ds => decide (uptoBulkAll ds ≤ 1048576)
def OpenSpec.upto (s : _root_.Go.ChangeSpec) : _root_.Go.OpenSpec := { _root_.Go.OpenSpec.ofChange s with cond := some uptoSmall }

/-- 'gradinelaw11.FsumTells', WHERE WHAT IT READS IS OF BULK AT MOST 1048576: true; the input reads as it did. -/
def fsumTellsUptoRow : OpenClaim := { program := "ytidjacgifdpcmaa", sum := "bf1652bb791e7ef93c8502fe39d6ba910fed99aba3ac14a0649c4f4951e440fc", func := "gradine/gradinelaw11.FsumTells", spec := "fsumTells", apart := false, narrowed := true }
def FsumTellsUptoSaid : Prop := fsumTellsUptoRow.holds Try.pinned (OpenSpec.upto fsumTellsSpec)

/-- 'gradinelaw11.FsumTurns', WHERE WHAT IT READS IS OF BULK AT MOST 1048576: true; the input reads as it did. -/
def fsumTurnsUptoRow : OpenClaim := { program := "ytidjacgifdpcmaa", sum := "bf1652bb791e7ef93c8502fe39d6ba910fed99aba3ac14a0649c4f4951e440fc", func := "gradine/gradinelaw11.FsumTurns", spec := "fsumTurns", apart := false, narrowed := true }
def FsumTurnsUptoSaid : Prop := fsumTurnsUptoRow.holds Try.pinned (OpenSpec.upto fsumTurnsSpec)

/-- 'gradinelaw11.FsumExact', WHERE WHAT IT READS IS OF BULK AT MOST 1048576: true; the input reads as it did. -/
def fsumExactUptoRow : OpenClaim := { program := "ytidjacgifdpcmaa", sum := "bf1652bb791e7ef93c8502fe39d6ba910fed99aba3ac14a0649c4f4951e440fc", func := "gradine/gradinelaw11.FsumExact", spec := "fsumExact", apart := false, narrowed := true }
def FsumExactUptoSaid : Prop := fsumExactUptoRow.holds Try.pinned (OpenSpec.upto fsumExactSpec)

/-- 'gradinelaw12.FprodTells', WHERE WHAT IT READS IS OF BULK AT MOST 1048576: true; the input reads as it did. -/
def fprodTellsUptoRow : OpenClaim := { program := "ytidjacgifdpcmaa", sum := "bf1652bb791e7ef93c8502fe39d6ba910fed99aba3ac14a0649c4f4951e440fc", func := "gradine/gradinelaw12.FprodTells", spec := "fprodTells", apart := false, narrowed := true }
def FprodTellsUptoSaid : Prop := fprodTellsUptoRow.holds Try.pinned (OpenSpec.upto fprodTellsSpec)

/-- 'gradinelaw12.FprodRoots', WHERE WHAT IT READS IS OF BULK AT MOST 1048576: true; the input reads as it did. -/
def fprodRootsUptoRow : OpenClaim := { program := "ytidjacgifdpcmaa", sum := "bf1652bb791e7ef93c8502fe39d6ba910fed99aba3ac14a0649c4f4951e440fc", func := "gradine/gradinelaw12.FprodRoots", spec := "fprodRoots", apart := false, narrowed := true }
def FprodRootsUptoSaid : Prop := fprodRootsUptoRow.holds Try.pinned (OpenSpec.upto fprodRootsSpec)

/-- 'gradinelaw12.FprodTurns', WHERE WHAT IT READS IS OF BULK AT MOST 1048576: true; the input reads as it did. -/
def fprodTurnsUptoRow : OpenClaim := { program := "ytidjacgifdpcmaa", sum := "bf1652bb791e7ef93c8502fe39d6ba910fed99aba3ac14a0649c4f4951e440fc", func := "gradine/gradinelaw12.FprodTurns", spec := "fprodTurns", apart := false, narrowed := true }
def FprodTurnsUptoSaid : Prop := fprodTurnsUptoRow.holds Try.pinned (OpenSpec.upto fprodTurnsSpec)

/-- 'gradinelaw12.FprodSquares', WHERE WHAT IT READS IS OF BULK AT MOST 1048576: true; the input reads as it did. -/
def fprodSquaresUptoRow : OpenClaim := { program := "ytidjacgifdpcmaa", sum := "bf1652bb791e7ef93c8502fe39d6ba910fed99aba3ac14a0649c4f4951e440fc", func := "gradine/gradinelaw12.FprodSquares", spec := "fprodSquares", apart := false, narrowed := true }
def FprodSquaresUptoSaid : Prop := fprodSquaresUptoRow.holds Try.pinned (OpenSpec.upto fprodSquaresSpec)

end Rows
end Go.Proofs.Ytidjacgifdpcmaa
