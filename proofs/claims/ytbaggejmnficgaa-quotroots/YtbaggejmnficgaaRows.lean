/-
  No cell of these rows narrows 'for every input' (looked for: loops, veiled, ifaces, maps, wideKeys, modest, calm, conditions, laid).
  DERIVED. THE GIVEN ROWS OF THIS SEAT. 8 by the template 'for every input the law returns true; each argument reads behind the call as it read before'; 0 by the template 'total and deterministic' (their statements: YtbaggejmnficgaaTotals.lean).
  GIVEN WITH THE SEED: the statements are not yours to turn. If you find one false, say at which input.
  Laid BY PROGRAM, IN A SANDBOX (cutbox-rows.mjs): the forced cells as the released guide's own fill.sh prints them over the translation a866421b6ee52524… (all of the seat's roots in one cut). By AI agents, Wed Nov 11 2026. No macro, syntax, notation, axiom, sorry.
-/
import Derived.Test.YtbaggejmnficgaaChecked
import GoSem.Claim
import GoSem.ClaimJoined
import GoSem.ClaimMapViews
import Derived.JoinedTies
import Derived.KernelRfl
namespace Go.Proofs.Ytbaggejmnficgaa
/- THE CELL 'sum', in the pinned program and in every row, IS THE sha256 OF THE DUMP (.gsa) THAT YtbaggejmnficgaaProg.lean LOADS. Nothing in Lean hashes anything: it is a label: what it is worth is what the hold of that sum in a sandbox is worth. -/
noncomputable def Try.pinned : Pinned := { name := "ytbaggejmnficgaa", sum := "a866421b6ee52524103bc5ce4811e70d78880437ac0b0f6d96d74c9e5b46f5b0", checked := Try.checked }
namespace Rows
def none {H : Type} : Left H := { results := [], args := [] }

/-- 'gradinelaw03.ProdTells': WHATEVER THE INPUT: true; the input reads as it did. -/
def prodTellsSpec : ChangeSpec := { name := "prodTells", fn := fun _ => fun
  | [d1, d2, d3] => { results := [.lit (.bool true)], args := [d1, d2, d3] }
  | _ => none }
def prodTellsRow : OpenClaim := { program := "ytbaggejmnficgaa", sum := "a866421b6ee52524103bc5ce4811e70d78880437ac0b0f6d96d74c9e5b46f5b0", func := "gradine/gradinelaw03.ProdTells", spec := "prodTells", recurses := true, apart := false }
def ProdTellsSaid : Prop := prodTellsRow.holds Try.pinned (OpenSpec.ofChange prodTellsSpec)

/-- ITS FALSE NEIGHBOUR: 'it returns false'. Refute it at one input. -/
def prodTellsWrong : ChangeSpec := { name := "prodTells", fn := fun _ => fun
  | [d1, d2, d3] => { results := [.lit (.bool false)], args := [d1, d2, d3] }
  | _ => none }
def ProdTellsWrongFalsely : Prop := prodTellsRow.holds Try.pinned (OpenSpec.ofChange prodTellsWrong)

/-- 'gradinelaw03.ProdPowers': WHATEVER THE INPUT: true; the input reads as it did. -/
def prodPowersSpec : ChangeSpec := { name := "prodPowers", fn := fun _ => fun
  | [d1, d2] => { results := [.lit (.bool true)], args := [d1, d2] }
  | _ => none }
def prodPowersRow : OpenClaim := { program := "ytbaggejmnficgaa", sum := "a866421b6ee52524103bc5ce4811e70d78880437ac0b0f6d96d74c9e5b46f5b0", func := "gradine/gradinelaw03.ProdPowers", spec := "prodPowers", recurses := true, apart := false }
def ProdPowersSaid : Prop := prodPowersRow.holds Try.pinned (OpenSpec.ofChange prodPowersSpec)

/-- ITS FALSE NEIGHBOUR: 'it returns false'. Refute it at one input. -/
def prodPowersWrong : ChangeSpec := { name := "prodPowers", fn := fun _ => fun
  | [d1, d2] => { results := [.lit (.bool false)], args := [d1, d2] }
  | _ => none }
def ProdPowersWrongFalsely : Prop := prodPowersRow.holds Try.pinned (OpenSpec.ofChange prodPowersWrong)

/-- 'gradinelaw03.ProdRing': WHATEVER THE INPUT: true; the input reads as it did. -/
def prodRingSpec : ChangeSpec := { name := "prodRing", fn := fun _ => fun
  | [d1, d2, d3] => { results := [.lit (.bool true)], args := [d1, d2, d3] }
  | _ => none }
def prodRingRow : OpenClaim := { program := "ytbaggejmnficgaa", sum := "a866421b6ee52524103bc5ce4811e70d78880437ac0b0f6d96d74c9e5b46f5b0", func := "gradine/gradinelaw03.ProdRing", spec := "prodRing", recurses := true, apart := false }
def ProdRingSaid : Prop := prodRingRow.holds Try.pinned (OpenSpec.ofChange prodRingSpec)

/-- ITS FALSE NEIGHBOUR: 'it returns false'. Refute it at one input. -/
def prodRingWrong : ChangeSpec := { name := "prodRing", fn := fun _ => fun
  | [d1, d2, d3] => { results := [.lit (.bool false)], args := [d1, d2, d3] }
  | _ => none }
def ProdRingWrongFalsely : Prop := prodRingRow.holds Try.pinned (OpenSpec.ofChange prodRingWrong)

/-- 'gradinelaw03.ProdBits': WHATEVER THE INPUT: true; the input reads as it did. -/
def prodBitsSpec : ChangeSpec := { name := "prodBits", fn := fun _ => fun
  | [d1, d2] => { results := [.lit (.bool true)], args := [d1, d2] }
  | _ => none }
def prodBitsRow : OpenClaim := { program := "ytbaggejmnficgaa", sum := "a866421b6ee52524103bc5ce4811e70d78880437ac0b0f6d96d74c9e5b46f5b0", func := "gradine/gradinelaw03.ProdBits", spec := "prodBits", recurses := true, apart := false }
def ProdBitsSaid : Prop := prodBitsRow.holds Try.pinned (OpenSpec.ofChange prodBitsSpec)

/-- ITS FALSE NEIGHBOUR: 'it returns false'. Refute it at one input. -/
def prodBitsWrong : ChangeSpec := { name := "prodBits", fn := fun _ => fun
  | [d1, d2] => { results := [.lit (.bool false)], args := [d1, d2] }
  | _ => none }
def ProdBitsWrongFalsely : Prop := prodBitsRow.holds Try.pinned (OpenSpec.ofChange prodBitsWrong)

/-- 'gradinelaw03.ProdAdds': WHATEVER THE INPUT: true; the input reads as it did. -/
def prodAddsSpec : ChangeSpec := { name := "prodAdds", fn := fun _ => fun
  | [d1, d2, d3] => { results := [.lit (.bool true)], args := [d1, d2, d3] }
  | _ => none }
def prodAddsRow : OpenClaim := { program := "ytbaggejmnficgaa", sum := "a866421b6ee52524103bc5ce4811e70d78880437ac0b0f6d96d74c9e5b46f5b0", func := "gradine/gradinelaw03.ProdAdds", spec := "prodAdds", recurses := true, apart := false }
def ProdAddsSaid : Prop := prodAddsRow.holds Try.pinned (OpenSpec.ofChange prodAddsSpec)

/-- ITS FALSE NEIGHBOUR: 'it returns false'. Refute it at one input. -/
def prodAddsWrong : ChangeSpec := { name := "prodAdds", fn := fun _ => fun
  | [d1, d2, d3] => { results := [.lit (.bool false)], args := [d1, d2, d3] }
  | _ => none }
def ProdAddsWrongFalsely : Prop := prodAddsRow.holds Try.pinned (OpenSpec.ofChange prodAddsWrong)

/-- 'gradinelaw04.QuotTells': WHATEVER THE INPUT: true; the input reads as it did. -/
def quotTellsSpec : ChangeSpec := { name := "quotTells", fn := fun _ => fun
  | [d1, d2, d3] => { results := [.lit (.bool true)], args := [d1, d2, d3] }
  | _ => none }
def quotTellsRow : OpenClaim := { program := "ytbaggejmnficgaa", sum := "a866421b6ee52524103bc5ce4811e70d78880437ac0b0f6d96d74c9e5b46f5b0", func := "gradine/gradinelaw04.QuotTells", spec := "quotTells", apart := false }
def QuotTellsSaid : Prop := quotTellsRow.holds Try.pinned (OpenSpec.ofChange quotTellsSpec)

/-- ITS FALSE NEIGHBOUR: 'it returns false'. Refute it at one input. -/
def quotTellsWrong : ChangeSpec := { name := "quotTells", fn := fun _ => fun
  | [d1, d2, d3] => { results := [.lit (.bool false)], args := [d1, d2, d3] }
  | _ => none }
def QuotTellsWrongFalsely : Prop := quotTellsRow.holds Try.pinned (OpenSpec.ofChange quotTellsWrong)

/-- 'gradinelaw04.QuotBack': WHATEVER THE INPUT: true; the input reads as it did. -/
def quotBackSpec : ChangeSpec := { name := "quotBack", fn := fun _ => fun
  | [d1, d2, d3] => { results := [.lit (.bool true)], args := [d1, d2, d3] }
  | _ => none }
def quotBackRow : OpenClaim := { program := "ytbaggejmnficgaa", sum := "a866421b6ee52524103bc5ce4811e70d78880437ac0b0f6d96d74c9e5b46f5b0", func := "gradine/gradinelaw04.QuotBack", spec := "quotBack", recurses := true, apart := false }
def QuotBackSaid : Prop := quotBackRow.holds Try.pinned (OpenSpec.ofChange quotBackSpec)

/-- ITS FALSE NEIGHBOUR: 'it returns false'. Refute it at one input. -/
def quotBackWrong : ChangeSpec := { name := "quotBack", fn := fun _ => fun
  | [d1, d2, d3] => { results := [.lit (.bool false)], args := [d1, d2, d3] }
  | _ => none }
def QuotBackWrongFalsely : Prop := quotBackRow.holds Try.pinned (OpenSpec.ofChange quotBackWrong)

/-- 'gradinelaw04.QuotRoots': WHATEVER THE INPUT: true; the input reads as it did. -/
def quotRootsSpec : ChangeSpec := { name := "quotRoots", fn := fun _ => fun
  | [d] => { results := [.lit (.bool true)], args := [d] }
  | _ => none }
def quotRootsRow : OpenClaim := { program := "ytbaggejmnficgaa", sum := "a866421b6ee52524103bc5ce4811e70d78880437ac0b0f6d96d74c9e5b46f5b0", func := "gradine/gradinelaw04.QuotRoots", spec := "quotRoots", recurses := true, apart := false }
def QuotRootsSaid : Prop := quotRootsRow.holds Try.pinned (OpenSpec.ofChange quotRootsSpec)

/-- ITS FALSE NEIGHBOUR: 'it returns false'. Refute it at one input. -/
def quotRootsWrong : ChangeSpec := { name := "quotRoots", fn := fun _ => fun
  | [d] => { results := [.lit (.bool false)], args := [d] }
  | _ => none }
def QuotRootsWrongFalsely : Prop := quotRootsRow.holds Try.pinned (OpenSpec.ofChange quotRootsWrong)

/- THE SECOND FORM. 'bulk': how many values and letters a reading holds, each counted each time it is reached (what is shared counts as often as it is met; a slice's spare places count too). A statement '..UptoSaid' is the law's where the arguments, and the package variables that the reading takes, are together of bulk at most 1048576: NARROWER than '..Said'. Prove '..Said' where nothing that the law and all that it calls make is longer than what came in: it says more and counts as full. Else prove '..UptoSaid'. A law counts once. -/
mutual
def uptoBulk {H : Type} : DataW H → Nat
  | .lit (.string bytes) => bytes.length + 1
  | .lit _ => 1
  | .nil => 1
  | .ptr d => uptoBulk d + 1
  | .slice elems spare => uptoBulkAll elems + uptoBulkAll spare + 1
  | .agg parts => uptoBulkAll parts + 1
  | .iface _ d => uptoBulk d + 1
  | .map entries => uptoBulkEntries entries + 1
  | .held _ => 1
def uptoBulkAll {H : Type} : List (DataW H) → Nat
  | [] => 0
  | d :: r => uptoBulk d + uptoBulkAll r
def uptoBulkEntries {H : Type} : List (Lit × DataW H) → Nat
  | [] => 0
  | x :: r => uptoBulkEntry x + uptoBulkEntries r
def uptoBulkEntry {H : Type} : Lit × DataW H → Nat
  | (.string bytes, d) => bytes.length + uptoBulk d + 1
  | (_, d) => uptoBulk d + 1
 end
def uptoSmall : (H : Type) → List (DataW H) → Bool := fun _ ds => decide (uptoBulkAll ds ≤ 1048576)
def OpenSpec.upto (s : _root_.Go.ChangeSpec) : _root_.Go.OpenSpec := { _root_.Go.OpenSpec.ofChange s with cond := some uptoSmall }

/-- 'gradinelaw03.ProdTells', WHERE WHAT IT READS IS OF BULK AT MOST 1048576: true; the input reads as it did. -/
def prodTellsUptoRow : OpenClaim := { program := "ytbaggejmnficgaa", sum := "a866421b6ee52524103bc5ce4811e70d78880437ac0b0f6d96d74c9e5b46f5b0", func := "gradine/gradinelaw03.ProdTells", spec := "prodTells", recurses := true, apart := false, narrowed := true }
def ProdTellsUptoSaid : Prop := prodTellsUptoRow.holds Try.pinned (OpenSpec.upto prodTellsSpec)

/-- 'gradinelaw03.ProdPowers', WHERE WHAT IT READS IS OF BULK AT MOST 1048576: true; the input reads as it did. -/
def prodPowersUptoRow : OpenClaim := { program := "ytbaggejmnficgaa", sum := "a866421b6ee52524103bc5ce4811e70d78880437ac0b0f6d96d74c9e5b46f5b0", func := "gradine/gradinelaw03.ProdPowers", spec := "prodPowers", recurses := true, apart := false, narrowed := true }
def ProdPowersUptoSaid : Prop := prodPowersUptoRow.holds Try.pinned (OpenSpec.upto prodPowersSpec)

/-- 'gradinelaw03.ProdRing', WHERE WHAT IT READS IS OF BULK AT MOST 1048576: true; the input reads as it did. -/
def prodRingUptoRow : OpenClaim := { program := "ytbaggejmnficgaa", sum := "a866421b6ee52524103bc5ce4811e70d78880437ac0b0f6d96d74c9e5b46f5b0", func := "gradine/gradinelaw03.ProdRing", spec := "prodRing", recurses := true, apart := false, narrowed := true }
def ProdRingUptoSaid : Prop := prodRingUptoRow.holds Try.pinned (OpenSpec.upto prodRingSpec)

/-- 'gradinelaw03.ProdBits', WHERE WHAT IT READS IS OF BULK AT MOST 1048576: true; the input reads as it did. -/
def prodBitsUptoRow : OpenClaim := { program := "ytbaggejmnficgaa", sum := "a866421b6ee52524103bc5ce4811e70d78880437ac0b0f6d96d74c9e5b46f5b0", func := "gradine/gradinelaw03.ProdBits", spec := "prodBits", recurses := true, apart := false, narrowed := true }
def ProdBitsUptoSaid : Prop := prodBitsUptoRow.holds Try.pinned (OpenSpec.upto prodBitsSpec)

/-- 'gradinelaw03.ProdAdds', WHERE WHAT IT READS IS OF BULK AT MOST 1048576: true; the input reads as it did. -/
def prodAddsUptoRow : OpenClaim := { program := "ytbaggejmnficgaa", sum := "a866421b6ee52524103bc5ce4811e70d78880437ac0b0f6d96d74c9e5b46f5b0", func := "gradine/gradinelaw03.ProdAdds", spec := "prodAdds", recurses := true, apart := false, narrowed := true }
def ProdAddsUptoSaid : Prop := prodAddsUptoRow.holds Try.pinned (OpenSpec.upto prodAddsSpec)

/-- 'gradinelaw04.QuotTells', WHERE WHAT IT READS IS OF BULK AT MOST 1048576: true; the input reads as it did. -/
def quotTellsUptoRow : OpenClaim := { program := "ytbaggejmnficgaa", sum := "a866421b6ee52524103bc5ce4811e70d78880437ac0b0f6d96d74c9e5b46f5b0", func := "gradine/gradinelaw04.QuotTells", spec := "quotTells", apart := false, narrowed := true }
def QuotTellsUptoSaid : Prop := quotTellsUptoRow.holds Try.pinned (OpenSpec.upto quotTellsSpec)

/-- 'gradinelaw04.QuotBack', WHERE WHAT IT READS IS OF BULK AT MOST 1048576: true; the input reads as it did. -/
def quotBackUptoRow : OpenClaim := { program := "ytbaggejmnficgaa", sum := "a866421b6ee52524103bc5ce4811e70d78880437ac0b0f6d96d74c9e5b46f5b0", func := "gradine/gradinelaw04.QuotBack", spec := "quotBack", recurses := true, apart := false, narrowed := true }
def QuotBackUptoSaid : Prop := quotBackUptoRow.holds Try.pinned (OpenSpec.upto quotBackSpec)

/-- 'gradinelaw04.QuotRoots', WHERE WHAT IT READS IS OF BULK AT MOST 1048576: true; the input reads as it did. -/
def quotRootsUptoRow : OpenClaim := { program := "ytbaggejmnficgaa", sum := "a866421b6ee52524103bc5ce4811e70d78880437ac0b0f6d96d74c9e5b46f5b0", func := "gradine/gradinelaw04.QuotRoots", spec := "quotRoots", recurses := true, apart := false, narrowed := true }
def QuotRootsUptoSaid : Prop := quotRootsUptoRow.holds Try.pinned (OpenSpec.upto quotRootsSpec)

end Rows
end Go.Proofs.Ytbaggejmnficgaa
