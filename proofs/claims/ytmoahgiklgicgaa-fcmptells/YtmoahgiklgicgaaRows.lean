/-
  No cell of these rows narrows 'for every input' (looked for: loops, veiled, ifaces, maps, wideKeys, modest, calm, conditions, laid).
  DERIVED. THE GIVEN ROWS OF THIS SEAT. 4 by the template 'for every input the law returns true; each argument reads behind the call as it read before'; 0 by the template 'total and deterministic' (their statements: YtmoahgiklgicgaaTotals.lean).
  GIVEN WITH THE SEED: the statements are not yours to turn. If you find one false, say at which input.
  Laid BY PROGRAM, IN A SANDBOX (cutbox-rows.mjs): the forced cells as the released guide's own fill.sh prints them over the translation 2112fb4fac09f6e4… (all of the seat's roots in one cut). By AI agents, Wed Nov 11 2026. No macro, syntax, notation, axiom, sorry.
-/
import Derived.Test.YtmoahgiklgicgaaChecked
import GoSem.Claim
import GoSem.ClaimJoined
import GoSem.ClaimMapViews
import Derived.JoinedTies
import Derived.KernelRfl
namespace Go.Proofs.Ytmoahgiklgicgaa
/- THE CELL 'sum', in the pinned program and in every row, IS THE sha256 OF THE DUMP (.gsa) THAT YtmoahgiklgicgaaProg.lean LOADS. Nothing in Lean hashes anything: it is a label: what it is worth is what the hold of that sum in a sandbox is worth. -/
noncomputable def Try.pinned : Pinned := { name := "ytmoahgiklgicgaa", sum := "2112fb4fac09f6e4c1e09b175eb521f6aad917702e98637dd17c59b79ef6b3ab", checked := Try.checked }
namespace Rows
def none {H : Type} : Left H := { results := [], args := [] }

/-- 'gradinelaw13.FcmpTells': WHATEVER THE INPUT: true; the input reads as it did. -/
def fcmpTellsSpec : ChangeSpec := { name := "fcmpTells", fn := fun _ => fun
  | [d1, d2] => { results := [.lit (.bool true)], args := [d1, d2] }
  | _ => none }
def fcmpTellsRow : OpenClaim := { program := "ytmoahgiklgicgaa", sum := "2112fb4fac09f6e4c1e09b175eb521f6aad917702e98637dd17c59b79ef6b3ab", func := "gradine/gradinelaw13.FcmpTells", spec := "fcmpTells", apart := false }
def FcmpTellsSaid : Prop := fcmpTellsRow.holds Try.pinned (OpenSpec.ofChange fcmpTellsSpec)

/-- ITS FALSE NEIGHBOUR: 'it returns false'. Refute it at one input. -/
def fcmpTellsWrong : ChangeSpec := { name := "fcmpTells", fn := fun _ => fun
  | [d1, d2] => { results := [.lit (.bool false)], args := [d1, d2] }
  | _ => none }
def FcmpTellsWrongFalsely : Prop := fcmpTellsRow.holds Try.pinned (OpenSpec.ofChange fcmpTellsWrong)

/-- 'gradinelaw13.FcmpNear': WHATEVER THE INPUT: true; the input reads as it did. -/
def fcmpNearSpec : ChangeSpec := { name := "fcmpNear", fn := fun _ => fun
  | [d] => { results := [.lit (.bool true)], args := [d] }
  | _ => none }
def fcmpNearRow : OpenClaim := { program := "ytmoahgiklgicgaa", sum := "2112fb4fac09f6e4c1e09b175eb521f6aad917702e98637dd17c59b79ef6b3ab", func := "gradine/gradinelaw13.FcmpNear", spec := "fcmpNear", apart := false }
def FcmpNearSaid : Prop := fcmpNearRow.holds Try.pinned (OpenSpec.ofChange fcmpNearSpec)

/-- ITS FALSE NEIGHBOUR: 'it returns false'. Refute it at one input. -/
def fcmpNearWrong : ChangeSpec := { name := "fcmpNear", fn := fun _ => fun
  | [d] => { results := [.lit (.bool false)], args := [d] }
  | _ => none }
def FcmpNearWrongFalsely : Prop := fcmpNearRow.holds Try.pinned (OpenSpec.ofChange fcmpNearWrong)

/-- 'gradinelaw13.FcmpScales': WHATEVER THE INPUT: true; the input reads as it did. -/
def fcmpScalesSpec : ChangeSpec := { name := "fcmpScales", fn := fun _ => fun
  | [d1, d2] => { results := [.lit (.bool true)], args := [d1, d2] }
  | _ => none }
def fcmpScalesRow : OpenClaim := { program := "ytmoahgiklgicgaa", sum := "2112fb4fac09f6e4c1e09b175eb521f6aad917702e98637dd17c59b79ef6b3ab", func := "gradine/gradinelaw13.FcmpScales", spec := "fcmpScales", apart := false }
def FcmpScalesSaid : Prop := fcmpScalesRow.holds Try.pinned (OpenSpec.ofChange fcmpScalesSpec)

/-- ITS FALSE NEIGHBOUR: 'it returns false'. Refute it at one input. -/
def fcmpScalesWrong : ChangeSpec := { name := "fcmpScales", fn := fun _ => fun
  | [d1, d2] => { results := [.lit (.bool false)], args := [d1, d2] }
  | _ => none }
def FcmpScalesWrongFalsely : Prop := fcmpScalesRow.holds Try.pinned (OpenSpec.ofChange fcmpScalesWrong)

/-- 'gradinelaw13.FcmpOrder': WHATEVER THE INPUT: true; the input reads as it did. -/
def fcmpOrderSpec : ChangeSpec := { name := "fcmpOrder", fn := fun _ => fun
  | [d1, d2, d3] => { results := [.lit (.bool true)], args := [d1, d2, d3] }
  | _ => none }
def fcmpOrderRow : OpenClaim := { program := "ytmoahgiklgicgaa", sum := "2112fb4fac09f6e4c1e09b175eb521f6aad917702e98637dd17c59b79ef6b3ab", func := "gradine/gradinelaw13.FcmpOrder", spec := "fcmpOrder", apart := false }
def FcmpOrderSaid : Prop := fcmpOrderRow.holds Try.pinned (OpenSpec.ofChange fcmpOrderSpec)

/-- ITS FALSE NEIGHBOUR: 'it returns false'. Refute it at one input. -/
def fcmpOrderWrong : ChangeSpec := { name := "fcmpOrder", fn := fun _ => fun
  | [d1, d2, d3] => { results := [.lit (.bool false)], args := [d1, d2, d3] }
  | _ => none }
def FcmpOrderWrongFalsely : Prop := fcmpOrderRow.holds Try.pinned (OpenSpec.ofChange fcmpOrderWrong)

/- THE SECOND FORM. 'bulk': how many values and letters a reading holds, each counted each time it is reached (what is shared counts as often as it is met; a slice's spare places count too). A statement '..UptoSaid' is the law's where the arguments, and the package variables that the reading takes, are together of bulk at most 1048576: NARROWER than '..Said'. Prove '..Said' where nothing that the law and all that it calls make is longer than what came in: it says more and counts as full. Else prove '..UptoSaid'. A law counts once. -/
mutual
def uptoBulk {H : Type} : DataW H → Nat
  | .lit (.string bytes) => bytes.length + 1
  | .lit _ => 1
  | .nil => 1
  | .ptr d => uptoBulk d + 1
  | .slice elems spare => uptoBulkAll elems + uptoBulkAll spare + 1
  | .agg parts => uptoBulkAll parts + 1
  | .iface _ d => uptoBulk d + 1
  | .map entries => uptoBulkEntries entries + 1
  | .held _ => 1
def uptoBulkAll {H : Type} : List (DataW H) → Nat
  | [] => 0
  | d :: r => uptoBulk d + uptoBulkAll r
def uptoBulkEntries {H : Type} : List (Lit × DataW H) → Nat
  | [] => 0
  | x :: r => uptoBulkEntry x + uptoBulkEntries r
def uptoBulkEntry {H : Type} : Lit × DataW H → Nat
  | (.string bytes, d) => bytes.length + uptoBulk d + 1
  | (_, d) => uptoBulk d + 1
 end
def uptoSmall : (H : Type) → List (DataW H) → Bool := fun _ ds => decide (uptoBulkAll ds ≤ 1048576)
def OpenSpec.upto (s : _root_.Go.ChangeSpec) : _root_.Go.OpenSpec := { _root_.Go.OpenSpec.ofChange s with cond := some uptoSmall }

/-- 'gradinelaw13.FcmpTells', WHERE WHAT IT READS IS OF BULK AT MOST 1048576: true; the input reads as it did. -/
def fcmpTellsUptoRow : OpenClaim := { program := "ytmoahgiklgicgaa", sum := "2112fb4fac09f6e4c1e09b175eb521f6aad917702e98637dd17c59b79ef6b3ab", func := "gradine/gradinelaw13.FcmpTells", spec := "fcmpTells", apart := false, narrowed := true }
def FcmpTellsUptoSaid : Prop := fcmpTellsUptoRow.holds Try.pinned (OpenSpec.upto fcmpTellsSpec)

/-- 'gradinelaw13.FcmpNear', WHERE WHAT IT READS IS OF BULK AT MOST 1048576: true; the input reads as it did. -/
def fcmpNearUptoRow : OpenClaim := { program := "ytmoahgiklgicgaa", sum := "2112fb4fac09f6e4c1e09b175eb521f6aad917702e98637dd17c59b79ef6b3ab", func := "gradine/gradinelaw13.FcmpNear", spec := "fcmpNear", apart := false, narrowed := true }
def FcmpNearUptoSaid : Prop := fcmpNearUptoRow.holds Try.pinned (OpenSpec.upto fcmpNearSpec)

/-- 'gradinelaw13.FcmpScales', WHERE WHAT IT READS IS OF BULK AT MOST 1048576: true; the input reads as it did. -/
def fcmpScalesUptoRow : OpenClaim := { program := "ytmoahgiklgicgaa", sum := "2112fb4fac09f6e4c1e09b175eb521f6aad917702e98637dd17c59b79ef6b3ab", func := "gradine/gradinelaw13.FcmpScales", spec := "fcmpScales", apart := false, narrowed := true }
def FcmpScalesUptoSaid : Prop := fcmpScalesUptoRow.holds Try.pinned (OpenSpec.upto fcmpScalesSpec)

/-- 'gradinelaw13.FcmpOrder', WHERE WHAT IT READS IS OF BULK AT MOST 1048576: true; the input reads as it did. -/
def fcmpOrderUptoRow : OpenClaim := { program := "ytmoahgiklgicgaa", sum := "2112fb4fac09f6e4c1e09b175eb521f6aad917702e98637dd17c59b79ef6b3ab", func := "gradine/gradinelaw13.FcmpOrder", spec := "fcmpOrder", apart := false, narrowed := true }
def FcmpOrderUptoSaid : Prop := fcmpOrderUptoRow.holds Try.pinned (OpenSpec.upto fcmpOrderSpec)

end Rows
end Go.Proofs.Ytmoahgiklgicgaa
