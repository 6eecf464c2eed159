/-
  NARROWER THAN 'FOR EVERY INPUT', by the rows' own cells (each row's printed sentence says how): BankActs: laid · BankTells: laid · BankNil: laid · BankLines: laid · BankUndo: laid.
  DERIVED. THE GIVEN ROWS OF THIS SEAT. 5 by the template 'for every input the law returns true; each argument reads behind the call as it read before'; 0 by the template 'total and deterministic' (their statements: YthpbaaanbimapaaGreatDoorTotals.lean).
  GIVEN WITH THE SEED: the statements are not yours to turn. If you find one false, say at which input.
  Laid BY PROGRAM, IN A SANDBOX (cutbox-rows.mjs): the forced cells as the released guide's own fill.sh prints them over the translation 70991ae6b01cfb95… (all of the seat's roots in one cut). By AI agents, Wed Nov 11 2026. No macro, syntax, notation, axiom, sorry.
-/
import Derived.Test.YthpbaaanbimapaaGreatDoorChecked
import GoSem.Claim
import GoSem.ClaimJoined
import GoSem.ClaimMapViews
import Derived.JoinedTies
import Derived.KernelRfl
namespace Go.Proofs.YthpbaaanbimapaaGreatDoor
/- THE CELL 'sum', in the pinned program and in every row, IS THE sha256 OF THE DUMP (.gsa) THAT YthpbaaanbimapaaGreatDoorProg.lean LOADS. Nothing in Lean hashes anything: it is a label: what it is worth is what the hold of that sum in a sandbox is worth. -/
noncomputable def Tryz.pinned : Pinned := { name := "ythpbaaanbimapaagreatdoor", sum := "70991ae6b01cfb9575d95049360c4b0bca8ebc3087e0a057237ddfd27b8be298", checked := Tryz.checked }
namespace Rows
def none {H : Type} : Left H := { results := [], args := [] }

/- WHAT THE LISTED PACKAGE-LEVEL VARIABLES READ AS WHEN THE CALL BEGINS. Each datum BY PROGRAM (the guide's laid-datum.mjs) off the statement by which the dump's own 'gosem.cut.vars' lays the variable. In a bare row this is a premise. The card (YthpbaaanbimapaaGreatDoorCards.lean) ties it to the program's text. -/
def laid_gradine_kernel_factorials {H : Type} : DataW H := .agg [.lit (.int .i64 1), .lit (.int .i64 1), .lit (.int .i64 2), .lit (.int .i64 6), .lit (.int .i64 24), .lit (.int .i64 120), .lit (.int .i64 720), .lit (.int .i64 5040), .lit (.int .i64 40320), .lit (.int .i64 362880), .lit (.int .i64 3628800), .lit (.int .i64 39916800), .lit (.int .i64 479001600), .lit (.int .i64 6227020800)]

/-- 'gradinelaw18.BankActs': WHATEVER THE INPUT: true; the input reads as it did. -/
def bankActsSpec : ChangeSpec := { name := "bankActs", fn := fun _ => fun
  | [d1, d2] => { results := [.lit (.bool true)], args := [d1, d2] }
  | _ => none }
def bankActsRow : OpenClaim := { program := "ythpbaaanbimapaagreatdoor", sum := "70991ae6b01cfb9575d95049360c4b0bca8ebc3087e0a057237ddfd27b8be298", func := "gradine/gradinelaw18.BankActs", spec := "bankActs", recurses := true, named := ["gradine/kernel.factorials"], apart := false, laid := [("gradine/kernel.factorials", laid_gradine_kernel_factorials)] }
def BankActsSaid : Prop := bankActsRow.holds Tryz.pinned (OpenSpec.ofChange bankActsSpec)

/-- ITS FALSE NEIGHBOUR: 'it returns false'. Refute it at one input. -/
def bankActsWrong : ChangeSpec := { name := "bankActs", fn := fun _ => fun
  | [d1, d2] => { results := [.lit (.bool false)], args := [d1, d2] }
  | _ => none }
def BankActsWrongFalsely : Prop := bankActsRow.holds Tryz.pinned (OpenSpec.ofChange bankActsWrong)

/-- 'gradinelaw18.BankTells': WHATEVER THE INPUT: true; the input reads as it did. -/
def bankTellsSpec : ChangeSpec := { name := "bankTells", fn := fun _ => fun
  | [d1, d2, d3] => { results := [.lit (.bool true)], args := [d1, d2, d3] }
  | _ => none }
def bankTellsRow : OpenClaim := { program := "ythpbaaanbimapaagreatdoor", sum := "70991ae6b01cfb9575d95049360c4b0bca8ebc3087e0a057237ddfd27b8be298", func := "gradine/gradinelaw18.BankTells", spec := "bankTells", recurses := true, named := ["gradine/kernel.factorials"], apart := false, laid := [("gradine/kernel.factorials", laid_gradine_kernel_factorials)] }
def BankTellsSaid : Prop := bankTellsRow.holds Tryz.pinned (OpenSpec.ofChange bankTellsSpec)

/-- ITS FALSE NEIGHBOUR: 'it returns false'. Refute it at one input. -/
def bankTellsWrong : ChangeSpec := { name := "bankTells", fn := fun _ => fun
  | [d1, d2, d3] => { results := [.lit (.bool false)], args := [d1, d2, d3] }
  | _ => none }
def BankTellsWrongFalsely : Prop := bankTellsRow.holds Tryz.pinned (OpenSpec.ofChange bankTellsWrong)

/-- 'gradinelaw18.BankNil': WHATEVER THE INPUT: true; the input reads as it did. -/
def bankNilSpec : ChangeSpec := { name := "bankNil", fn := fun _ => fun
  | [d1, d2, d3] => { results := [.lit (.bool true)], args := [d1, d2, d3] }
  | _ => none }
def bankNilRow : OpenClaim := { program := "ythpbaaanbimapaagreatdoor", sum := "70991ae6b01cfb9575d95049360c4b0bca8ebc3087e0a057237ddfd27b8be298", func := "gradine/gradinelaw18.BankNil", spec := "bankNil", recurses := true, named := ["gradine/kernel.factorials"], apart := false, laid := [("gradine/kernel.factorials", laid_gradine_kernel_factorials)] }
def BankNilSaid : Prop := bankNilRow.holds Tryz.pinned (OpenSpec.ofChange bankNilSpec)

/-- ITS FALSE NEIGHBOUR: 'it returns false'. Refute it at one input. -/
def bankNilWrong : ChangeSpec := { name := "bankNil", fn := fun _ => fun
  | [d1, d2, d3] => { results := [.lit (.bool false)], args := [d1, d2, d3] }
  | _ => none }
def BankNilWrongFalsely : Prop := bankNilRow.holds Tryz.pinned (OpenSpec.ofChange bankNilWrong)

/-- 'gradinelaw18.BankLines': WHATEVER THE INPUT: true; the input reads as it did. -/
def bankLinesSpec : ChangeSpec := { name := "bankLines", fn := fun _ => fun
  | [d1, d2] => { results := [.lit (.bool true)], args := [d1, d2] }
  | _ => none }
def bankLinesRow : OpenClaim := { program := "ythpbaaanbimapaagreatdoor", sum := "70991ae6b01cfb9575d95049360c4b0bca8ebc3087e0a057237ddfd27b8be298", func := "gradine/gradinelaw18.BankLines", spec := "bankLines", recurses := true, named := ["gradine/kernel.factorials"], apart := false, laid := [("gradine/kernel.factorials", laid_gradine_kernel_factorials)] }
def BankLinesSaid : Prop := bankLinesRow.holds Tryz.pinned (OpenSpec.ofChange bankLinesSpec)

/-- ITS FALSE NEIGHBOUR: 'it returns false'. Refute it at one input. -/
def bankLinesWrong : ChangeSpec := { name := "bankLines", fn := fun _ => fun
  | [d1, d2] => { results := [.lit (.bool false)], args := [d1, d2] }
  | _ => none }
def BankLinesWrongFalsely : Prop := bankLinesRow.holds Tryz.pinned (OpenSpec.ofChange bankLinesWrong)

/-- 'gradinelaw18.BankUndo': WHATEVER THE INPUT: true; the input reads as it did. -/
def bankUndoSpec : ChangeSpec := { name := "bankUndo", fn := fun _ => fun
  | [d1, d2, d3] => { results := [.lit (.bool true)], args := [d1, d2, d3] }
  | _ => none }
def bankUndoRow : OpenClaim := { program := "ythpbaaanbimapaagreatdoor", sum := "70991ae6b01cfb9575d95049360c4b0bca8ebc3087e0a057237ddfd27b8be298", func := "gradine/gradinelaw18.BankUndo", spec := "bankUndo", recurses := true, named := ["gradine/kernel.factorials"], apart := false, laid := [("gradine/kernel.factorials", laid_gradine_kernel_factorials)] }
def BankUndoSaid : Prop := bankUndoRow.holds Tryz.pinned (OpenSpec.ofChange bankUndoSpec)

/-- ITS FALSE NEIGHBOUR: 'it returns false'. Refute it at one input. -/
def bankUndoWrong : ChangeSpec := { name := "bankUndo", fn := fun _ => fun
  | [d1, d2, d3] => { results := [.lit (.bool false)], args := [d1, d2, d3] }
  | _ => none }
def BankUndoWrongFalsely : Prop := bankUndoRow.holds Tryz.pinned (OpenSpec.ofChange bankUndoWrong)

/- THE SECOND FORM. 'bulk': how many values and letters a reading holds, each counted each time it is reached (what is shared counts as often as it is met; a slice's spare places count too). A statement '..UptoSaid' is the law's where the arguments, and the package variables that the reading takes, are together of bulk at most 1048576: NARROWER than '..Said'. Prove '..Said' where nothing that the law and all that it calls make is longer than what came in: it says more and counts as full. Else prove '..UptoSaid'. A law counts once. -/
mutual
def uptoBulk {H : Type} : DataW H → Nat
  | .lit (.string bytes) => bytes.length + 1
  | .lit _ => 1
  | .nil => 1
  | .ptr d => uptoBulk d + 1
  | .slice elems spare => uptoBulkAll elems + uptoBulkAll spare + 1
  | .agg parts => uptoBulkAll parts + 1
  | .iface _ d => uptoBulk d + 1
  | .map entries => uptoBulkEntries entries + 1
  | .held _ => 1
def uptoBulkAll {H : Type} : List (DataW H) → Nat
  | [] => 0
  | d :: r => uptoBulk d + uptoBulkAll r
def uptoBulkEntries {H : Type} : List (Lit × DataW H) → Nat
  | [] => 0
  | x :: r => uptoBulkEntry x + uptoBulkEntries r
def uptoBulkEntry {H : Type} : Lit × DataW H → Nat
  | (.string bytes, d) => bytes.length + uptoBulk d + 1
  | (_, d) => uptoBulk d + 1
 end
def uptoSmall : (H : Type) → List (DataW H) → Bool := fun _ ds => decide (uptoBulkAll ds ≤ 1048576)
def OpenSpec.upto (s : _root_.Go.ChangeSpec) : _root_.Go.OpenSpec := { _root_.Go.OpenSpec.ofChange s with cond := some uptoSmall }

/-- 'gradinelaw18.BankActs', WHERE WHAT IT READS IS OF BULK AT MOST 1048576: true; the input reads as it did. -/
def bankActsUptoRow : OpenClaim := { program := "ythpbaaanbimapaagreatdoor", sum := "70991ae6b01cfb9575d95049360c4b0bca8ebc3087e0a057237ddfd27b8be298", func := "gradine/gradinelaw18.BankActs", spec := "bankActs", recurses := true, named := ["gradine/kernel.factorials"], apart := false, laid := [("gradine/kernel.factorials", laid_gradine_kernel_factorials)], narrowed := true }
def BankActsUptoSaid : Prop := bankActsUptoRow.holds Tryz.pinned (OpenSpec.upto bankActsSpec)

/-- 'gradinelaw18.BankTells', WHERE WHAT IT READS IS OF BULK AT MOST 1048576: true; the input reads as it did. -/
def bankTellsUptoRow : OpenClaim := { program := "ythpbaaanbimapaagreatdoor", sum := "70991ae6b01cfb9575d95049360c4b0bca8ebc3087e0a057237ddfd27b8be298", func := "gradine/gradinelaw18.BankTells", spec := "bankTells", recurses := true, named := ["gradine/kernel.factorials"], apart := false, laid := [("gradine/kernel.factorials", laid_gradine_kernel_factorials)], narrowed := true }
def BankTellsUptoSaid : Prop := bankTellsUptoRow.holds Tryz.pinned (OpenSpec.upto bankTellsSpec)

/-- 'gradinelaw18.BankNil', WHERE WHAT IT READS IS OF BULK AT MOST 1048576: true; the input reads as it did. -/
def bankNilUptoRow : OpenClaim := { program := "ythpbaaanbimapaagreatdoor", sum := "70991ae6b01cfb9575d95049360c4b0bca8ebc3087e0a057237ddfd27b8be298", func := "gradine/gradinelaw18.BankNil", spec := "bankNil", recurses := true, named := ["gradine/kernel.factorials"], apart := false, laid := [("gradine/kernel.factorials", laid_gradine_kernel_factorials)], narrowed := true }
def BankNilUptoSaid : Prop := bankNilUptoRow.holds Tryz.pinned (OpenSpec.upto bankNilSpec)

/-- 'gradinelaw18.BankLines', WHERE WHAT IT READS IS OF BULK AT MOST 1048576: true; the input reads as it did. -/
def bankLinesUptoRow : OpenClaim := { program := "ythpbaaanbimapaagreatdoor", sum := "70991ae6b01cfb9575d95049360c4b0bca8ebc3087e0a057237ddfd27b8be298", func := "gradine/gradinelaw18.BankLines", spec := "bankLines", recurses := true, named := ["gradine/kernel.factorials"], apart := false, laid := [("gradine/kernel.factorials", laid_gradine_kernel_factorials)], narrowed := true }
def BankLinesUptoSaid : Prop := bankLinesUptoRow.holds Tryz.pinned (OpenSpec.upto bankLinesSpec)

/-- 'gradinelaw18.BankUndo', WHERE WHAT IT READS IS OF BULK AT MOST 1048576: true; the input reads as it did. -/
def bankUndoUptoRow : OpenClaim := { program := "ythpbaaanbimapaagreatdoor", sum := "70991ae6b01cfb9575d95049360c4b0bca8ebc3087e0a057237ddfd27b8be298", func := "gradine/gradinelaw18.BankUndo", spec := "bankUndo", recurses := true, named := ["gradine/kernel.factorials"], apart := false, laid := [("gradine/kernel.factorials", laid_gradine_kernel_factorials)], narrowed := true }
def BankUndoUptoSaid : Prop := bankUndoUptoRow.holds Tryz.pinned (OpenSpec.upto bankUndoSpec)

end Rows
end Go.Proofs.YthpbaaanbimapaaGreatDoor
