/-
  The law WalkAhead: see WaF.
-/
import Derived.Test.YthhmofmncjodfaaWaF
namespace Go.Proofs.Ythhmofmncjodfaa
end Go.Proofs.Ythhmofmncjodfaa
