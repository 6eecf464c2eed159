/-
  What the functions of package nat that make numbers return: numbers of words, sums, differences, shifts, normalized. Conditions: the slices read as lists of words, of at most 10^8 words.
-/
import Derived.Test.YtmoahgiklgicgaaNatBits
import Derived.Laws.CopyOwn
import Derived.Deep.QuietTactic
import Derived.BigQuiet
namespace Go.Proofs.Ytmoahgiklgicgaa
set_option maxRecDepth 100000
open Go.RowKit
set_option linter.unusedVariables false
set_option linter.unusedSimpArgs false

theorem infoW : (Try.prog.info? 22).map (fun i => (i.zero, i.size, i.bytes)) = some (some (.int .u64 0), 1, 8) := by kernel_rfl

/-- a normalized cut of a row that the call made -/
theorem retSl_cut {w w' : World} {t : TypeId} {g c v : Nat} {zs : List Int} (hr : Row t w' g zs) (hd : Dg W zs) (hc : zs.length ≤ c) (hv : val zs = v) (hb : Below w.heap.size w w') :
    RetSl (words v) w (.returned (.slice (some ⟨g, 0, none⟩) (sz zs) c)) w' := by
  subst hv
  exact ⟨_, _, _, rfl, cut_sl (hr.sl (U_Dg hd) hc), hb⟩

end Go.Proofs.Ytmoahgiklgicgaa
