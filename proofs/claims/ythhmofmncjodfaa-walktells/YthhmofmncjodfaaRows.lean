/-
  No cell of these rows narrows 'for every input' (looked for: loops, veiled, ifaces, maps, wideKeys, modest, calm, conditions, laid).
  DERIVED. THE GIVEN ROWS OF THIS SEAT. 7 by the template 'for every input the law returns true; each argument reads behind the call as it read before'; 0 by the template 'total and deterministic' (their statements: YthhmofmncjodfaaTotals.lean).
  GIVEN WITH THE SEED: the statements are not yours to turn. If you find one false, say at which input.
  Laid BY PROGRAM, IN A SANDBOX (cutbox-rows.mjs): the forced cells as the released guide's own fill.sh prints them over the translation 1b3ba6a6855613b2… (all of the seat's roots in one cut). By AI agents, Wed Nov 11 2026. No macro, syntax, notation, axiom, sorry.
-/
import Derived.Test.YthhmofmncjodfaaChecked
import GoSem.Claim
import GoSem.ClaimJoined
import GoSem.ClaimMapViews
import Derived.JoinedTies
import Derived.KernelRfl
namespace Go.Proofs.Ythhmofmncjodfaa
/- THE CELL 'sum', in the pinned program and in every row, IS THE sha256 OF THE DUMP (.gsa) THAT YthhmofmncjodfaaProg.lean LOADS. Nothing in Lean hashes anything: it is a label: what it is worth is what the hold of that sum in a sandbox is worth. -/
noncomputable def Try.pinned : Pinned := { name := "ythhmofmncjodfaa", sum := "1b3ba6a6855613b25e65efcf78aeadcf71dd85c02e79376945422ef7aa8071f1", checked := Try.checked }
namespace Rows
def none {H : Type} : Left H := { results := [], args := [] }

/-- 'gradinelaw19.ShapeTells': WHATEVER THE INPUT: true; the input reads as it did. -/
def shapeTellsSpec : ChangeSpec := { name := "shapeTells", fn := fun _ => fun
  | [d1, d2] => { results := [.lit (.bool true)], args := [d1, d2] }
  | _ => none }
def shapeTellsRow : OpenClaim := { program := "ythhmofmncjodfaa", sum := "1b3ba6a6855613b25e65efcf78aeadcf71dd85c02e79376945422ef7aa8071f1", func := "gradine/gradinelaw19.ShapeTells", spec := "shapeTells", unfollowed := true, recurses := true, apart := false }
def ShapeTellsSaid : Prop := shapeTellsRow.holds Try.pinned (OpenSpec.ofChange shapeTellsSpec)

/-- ITS FALSE NEIGHBOUR: 'it returns false'. Refute it at one input. -/
def shapeTellsWrong : ChangeSpec := { name := "shapeTells", fn := fun _ => fun
  | [d1, d2] => { results := [.lit (.bool false)], args := [d1, d2] }
  | _ => none }
def ShapeTellsWrongFalsely : Prop := shapeTellsRow.holds Try.pinned (OpenSpec.ofChange shapeTellsWrong)

/-- 'gradinelaw19.ShapeDrops': WHATEVER THE INPUT: true; the input reads as it did. -/
def shapeDropsSpec : ChangeSpec := { name := "shapeDrops", fn := fun _ => fun
  | [d1, d2, d3] => { results := [.lit (.bool true)], args := [d1, d2, d3] }
  | _ => none }
def shapeDropsRow : OpenClaim := { program := "ythhmofmncjodfaa", sum := "1b3ba6a6855613b25e65efcf78aeadcf71dd85c02e79376945422ef7aa8071f1", func := "gradine/gradinelaw19.ShapeDrops", spec := "shapeDrops", unfollowed := true, recurses := true, apart := false }
def ShapeDropsSaid : Prop := shapeDropsRow.holds Try.pinned (OpenSpec.ofChange shapeDropsSpec)

/-- ITS FALSE NEIGHBOUR: 'it returns false'. Refute it at one input. -/
def shapeDropsWrong : ChangeSpec := { name := "shapeDrops", fn := fun _ => fun
  | [d1, d2, d3] => { results := [.lit (.bool false)], args := [d1, d2, d3] }
  | _ => none }
def ShapeDropsWrongFalsely : Prop := shapeDropsRow.holds Try.pinned (OpenSpec.ofChange shapeDropsWrong)

/-- 'gradinelaw19.ShapeWith': WHATEVER THE INPUT: true; the input reads as it did. -/
def shapeWithSpec : ChangeSpec := { name := "shapeWith", fn := fun _ => fun
  | [d1, d2, d3] => { results := [.lit (.bool true)], args := [d1, d2, d3] }
  | _ => none }
def shapeWithRow : OpenClaim := { program := "ythhmofmncjodfaa", sum := "1b3ba6a6855613b25e65efcf78aeadcf71dd85c02e79376945422ef7aa8071f1", func := "gradine/gradinelaw19.ShapeWith", spec := "shapeWith", unfollowed := true, recurses := true, apart := false }
def ShapeWithSaid : Prop := shapeWithRow.holds Try.pinned (OpenSpec.ofChange shapeWithSpec)

/-- ITS FALSE NEIGHBOUR: 'it returns false'. Refute it at one input. -/
def shapeWithWrong : ChangeSpec := { name := "shapeWith", fn := fun _ => fun
  | [d1, d2, d3] => { results := [.lit (.bool false)], args := [d1, d2, d3] }
  | _ => none }
def ShapeWithWrongFalsely : Prop := shapeWithRow.holds Try.pinned (OpenSpec.ofChange shapeWithWrong)

/-- 'gradinelaw19.ShapeKeeps': WHATEVER THE INPUT: true; the input reads as it did. -/
def shapeKeepsSpec : ChangeSpec := { name := "shapeKeeps", fn := fun _ => fun
  | [d1, d2] => { results := [.lit (.bool true)], args := [d1, d2] }
  | _ => none }
def shapeKeepsRow : OpenClaim := { program := "ythhmofmncjodfaa", sum := "1b3ba6a6855613b25e65efcf78aeadcf71dd85c02e79376945422ef7aa8071f1", func := "gradine/gradinelaw19.ShapeKeeps", spec := "shapeKeeps", unfollowed := true, recurses := true, apart := false }
def ShapeKeepsSaid : Prop := shapeKeepsRow.holds Try.pinned (OpenSpec.ofChange shapeKeepsSpec)

/-- ITS FALSE NEIGHBOUR: 'it returns false'. Refute it at one input. -/
def shapeKeepsWrong : ChangeSpec := { name := "shapeKeeps", fn := fun _ => fun
  | [d1, d2] => { results := [.lit (.bool false)], args := [d1, d2] }
  | _ => none }
def ShapeKeepsWrongFalsely : Prop := shapeKeepsRow.holds Try.pinned (OpenSpec.ofChange shapeKeepsWrong)

/-- 'gradinelaw20.WalkTells': WHATEVER THE INPUT: true; the input reads as it did. -/
def walkTellsSpec : ChangeSpec := { name := "walkTells", fn := fun _ => fun
  | [d1, d2, d3] => { results := [.lit (.bool true)], args := [d1, d2, d3] }
  | _ => none }
def walkTellsRow : OpenClaim := { program := "ythhmofmncjodfaa", sum := "1b3ba6a6855613b25e65efcf78aeadcf71dd85c02e79376945422ef7aa8071f1", func := "gradine/gradinelaw20.WalkTells", spec := "walkTells", unfollowed := true, recurses := true, apart := false }
def WalkTellsSaid : Prop := walkTellsRow.holds Try.pinned (OpenSpec.ofChange walkTellsSpec)

/-- ITS FALSE NEIGHBOUR: 'it returns false'. Refute it at one input. -/
def walkTellsWrong : ChangeSpec := { name := "walkTells", fn := fun _ => fun
  | [d1, d2, d3] => { results := [.lit (.bool false)], args := [d1, d2, d3] }
  | _ => none }
def WalkTellsWrongFalsely : Prop := walkTellsRow.holds Try.pinned (OpenSpec.ofChange walkTellsWrong)

/-- 'gradinelaw20.WalkBack': WHATEVER THE INPUT: true; the input reads as it did. -/
def walkBackSpec : ChangeSpec := { name := "walkBack", fn := fun _ => fun
  | [d1, d2, d3] => { results := [.lit (.bool true)], args := [d1, d2, d3] }
  | _ => none }
def walkBackRow : OpenClaim := { program := "ythhmofmncjodfaa", sum := "1b3ba6a6855613b25e65efcf78aeadcf71dd85c02e79376945422ef7aa8071f1", func := "gradine/gradinelaw20.WalkBack", spec := "walkBack", unfollowed := true, recurses := true, apart := false }
def WalkBackSaid : Prop := walkBackRow.holds Try.pinned (OpenSpec.ofChange walkBackSpec)

/-- ITS FALSE NEIGHBOUR: 'it returns false'. Refute it at one input. -/
def walkBackWrong : ChangeSpec := { name := "walkBack", fn := fun _ => fun
  | [d1, d2, d3] => { results := [.lit (.bool false)], args := [d1, d2, d3] }
  | _ => none }
def WalkBackWrongFalsely : Prop := walkBackRow.holds Try.pinned (OpenSpec.ofChange walkBackWrong)

/-- 'gradinelaw20.WalkAhead': WHATEVER THE INPUT: true; the input reads as it did. -/
def walkAheadSpec : ChangeSpec := { name := "walkAhead", fn := fun _ => fun
  | [d1, d2] => { results := [.lit (.bool true)], args := [d1, d2] }
  | _ => none }
def walkAheadRow : OpenClaim := { program := "ythhmofmncjodfaa", sum := "1b3ba6a6855613b25e65efcf78aeadcf71dd85c02e79376945422ef7aa8071f1", func := "gradine/gradinelaw20.WalkAhead", spec := "walkAhead", unfollowed := true, recurses := true, apart := false }
def WalkAheadSaid : Prop := walkAheadRow.holds Try.pinned (OpenSpec.ofChange walkAheadSpec)

/-- ITS FALSE NEIGHBOUR: 'it returns false'. Refute it at one input. -/
def walkAheadWrong : ChangeSpec := { name := "walkAhead", fn := fun _ => fun
  | [d1, d2] => { results := [.lit (.bool false)], args := [d1, d2] }
  | _ => none }
def WalkAheadWrongFalsely : Prop := walkAheadRow.holds Try.pinned (OpenSpec.ofChange walkAheadWrong)

/- THE SECOND FORM. 'bulk': how many values and letters a reading holds, each counted each time it is reached (what is shared counts as often as it is met; a slice's spare places count too). A statement '..UptoSaid' is the law's where the arguments, and the package variables that the reading takes, are together of bulk at most 1048576: NARROWER than '..Said'. Prove '..Said' where nothing that the law and all that it calls make is longer than what came in: it says more and counts as full. Else prove '..UptoSaid'. A law counts once. -/
mutual
def uptoBulk {H : Type} : DataW H → Nat
  | .lit (.string bytes) => bytes.length + 1
  | .lit _ => 1
  | .nil => 1
  | .ptr d => uptoBulk d + 1
  | .slice elems spare => uptoBulkAll elems + uptoBulkAll spare + 1
  | .agg parts => uptoBulkAll parts + 1
  | .iface _ d => uptoBulk d + 1
  | .map entries => uptoBulkEntries entries + 1
  | .held _ => 1
def uptoBulkAll {H : Type} : List (DataW H) → Nat
  | [] => 0
  | d :: r => uptoBulk d + uptoBulkAll r
def uptoBulkEntries {H : Type} : List (Lit × DataW H) → Nat
  | [] => 0
  | x :: r => uptoBulkEntry x + uptoBulkEntries r
def uptoBulkEntry {H : Type} : Lit × DataW H → Nat
  | (.string bytes, d) => bytes.length + uptoBulk d + 1
  | (_, d) => uptoBulk d + 1
 end
def uptoSmall : (H : Type) → List (DataW H) → Bool := fun _ ds => decide (uptoBulkAll ds ≤ 1048576)
def OpenSpec.upto (s : _root_.Go.ChangeSpec) : _root_.Go.OpenSpec := { _root_.Go.OpenSpec.ofChange s with cond := some uptoSmall }

/-- 'gradinelaw19.ShapeTells', WHERE WHAT IT READS IS OF BULK AT MOST 1048576: true; the input reads as it did. -/
def shapeTellsUptoRow : OpenClaim := { program := "ythhmofmncjodfaa", sum := "1b3ba6a6855613b25e65efcf78aeadcf71dd85c02e79376945422ef7aa8071f1", func := "gradine/gradinelaw19.ShapeTells", spec := "shapeTells", unfollowed := true, recurses := true, apart := false, narrowed := true }
def ShapeTellsUptoSaid : Prop := shapeTellsUptoRow.holds Try.pinned (OpenSpec.upto shapeTellsSpec)

/-- 'gradinelaw19.ShapeDrops', WHERE WHAT IT READS IS OF BULK AT MOST 1048576: true; the input reads as it did. -/
def shapeDropsUptoRow : OpenClaim := { program := "ythhmofmncjodfaa", sum := "1b3ba6a6855613b25e65efcf78aeadcf71dd85c02e79376945422ef7aa8071f1", func := "gradine/gradinelaw19.ShapeDrops", spec := "shapeDrops", unfollowed := true, recurses := true, apart := false, narrowed := true }
def ShapeDropsUptoSaid : Prop := shapeDropsUptoRow.holds Try.pinned (OpenSpec.upto shapeDropsSpec)

/-- 'gradinelaw19.ShapeWith', WHERE WHAT IT READS IS OF BULK AT MOST 1048576: true; the input reads as it did. -/
def shapeWithUptoRow : OpenClaim := { program := "ythhmofmncjodfaa", sum := "1b3ba6a6855613b25e65efcf78aeadcf71dd85c02e79376945422ef7aa8071f1", func := "gradine/gradinelaw19.ShapeWith", spec := "shapeWith", unfollowed := true, recurses := true, apart := false, narrowed := true }
def ShapeWithUptoSaid : Prop := shapeWithUptoRow.holds Try.pinned (OpenSpec.upto shapeWithSpec)

/-- 'gradinelaw19.ShapeKeeps', WHERE WHAT IT READS IS OF BULK AT MOST 1048576: true; the input reads as it did. -/
def shapeKeepsUptoRow : OpenClaim := { program := "ythhmofmncjodfaa", sum := "1b3ba6a6855613b25e65efcf78aeadcf71dd85c02e79376945422ef7aa8071f1", func := "gradine/gradinelaw19.ShapeKeeps", spec := "shapeKeeps", unfollowed := true, recurses := true, apart := false, narrowed := true }
def ShapeKeepsUptoSaid : Prop := shapeKeepsUptoRow.holds Try.pinned (OpenSpec.upto shapeKeepsSpec)

/-- 'gradinelaw20.WalkTells', WHERE WHAT IT READS IS OF BULK AT MOST 1048576: true; the input reads as it did. -/
def walkTellsUptoRow : OpenClaim := { program := "ythhmofmncjodfaa", sum := "1b3ba6a6855613b25e65efcf78aeadcf71dd85c02e79376945422ef7aa8071f1", func := "gradine/gradinelaw20.WalkTells", spec := "walkTells", unfollowed := true, recurses := true, apart := false, narrowed := true }
def WalkTellsUptoSaid : Prop := walkTellsUptoRow.holds Try.pinned (OpenSpec.upto walkTellsSpec)

/-- 'gradinelaw20.WalkBack', WHERE WHAT IT READS IS OF BULK AT MOST 1048576: true; the input reads as it did. -/
def walkBackUptoRow : OpenClaim := { program := "ythhmofmncjodfaa", sum := "1b3ba6a6855613b25e65efcf78aeadcf71dd85c02e79376945422ef7aa8071f1", func := "gradine/gradinelaw20.WalkBack", spec := "walkBack", unfollowed := true, recurses := true, apart := false, narrowed := true }
def WalkBackUptoSaid : Prop := walkBackUptoRow.holds Try.pinned (OpenSpec.upto walkBackSpec)

/-- 'gradinelaw20.WalkAhead', WHERE WHAT IT READS IS OF BULK AT MOST 1048576: true; the input reads as it did. -/
def walkAheadUptoRow : OpenClaim := { program := "ythhmofmncjodfaa", sum := "1b3ba6a6855613b25e65efcf78aeadcf71dd85c02e79376945422ef7aa8071f1", func := "gradine/gradinelaw20.WalkAhead", spec := "walkAhead", unfollowed := true, recurses := true, apart := false, narrowed := true }
def WalkAheadUptoSaid : Prop := walkAheadUptoRow.holds Try.pinned (OpenSpec.upto walkAheadSpec)

end Rows
end Go.Proofs.Ythhmofmncjodfaa
