/-
  What the program's table says of the types of exact numbers and of instructions, and how arguments of these types open. Closed facts and small joins.
-/
import Derived.Test.YthhmofmncjodfaaProg
import Derived.Test.YthhmofmncjodfaaLnMem
import Derived.KernelRfl
namespace Go.Proofs.Ythhmofmncjodfaa
open Go.RowKit Go.WideShapes Go.ChangeShapes
set_option linter.unusedVariables false

section
variable {H : Type} {enc : TypeId × Value → H} {w : World} {base b0 : Nat} {held : Bool} {r : Reach} {v : Value} {d : DataW H} {p : List MemPlace}
theorem arg_ints (hv : Value.okWide Try.prog w r b0 22 v) (h : DataW.Trod enc Try.prog w base (fun _ => true) held 22 v d p) : ∃ A n c xs, v = .slice A n c ∧ SlZ w A n c xs := by
  obtain ⟨A, n, c, rfl⟩ := okWide_slice Try.underlying22 hv
  obtain ⟨fuel, hf⟩ := h
  exact open_slz Try.underlying22 Try.underlying3 (by kernel_rfl) (by simpa [Value.cells] using hf)
end

end Go.Proofs.Ythhmofmncjodfaa
