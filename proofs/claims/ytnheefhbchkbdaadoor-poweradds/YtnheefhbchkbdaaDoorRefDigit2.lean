/-
  What the document's own Show (package gradineref06) does. Conditions: the slice reads as a list of words, of at most 1000 words.
-/
import Derived.Test.YtnheefhbchkbdaaDoorRefDigit
namespace Go.Proofs.YtnheefhbchkbdaaDoor
set_option maxRecDepth 100000
open Go.RowKit
set_option linter.unusedVariables false
set_option linter.unusedSimpArgs false

theorem by_append (a b : ByteArray) : by_ (a ++ b) = by_ a ++ by_ b := by
  obtain ⟨l, rfl⟩ : ∃ l, a = str l := ⟨_, (str_by a).symm⟩
  obtain ⟨k, rfl⟩ : ∃ k, b = str k := ⟨_, (str_by b).symm⟩
  have : str l ++ str k = str (l ++ k) := ByteArray.mk_append_mk l k
  rw [this]
  rfl
/-- the ten digits -/
def ds : ByteArray := ⟨#[48, 49, 50, 51, 52, 53, 54, 55, 56, 57]⟩
theorem ds_at (d : Nat) (h : d < 10) : by_ (ds.extract d (d + 1)) = [dig8 d] := by
  rcases d with _ | _ | _ | _ | _ | _ | _ | _ | _ | _ | d
  all_goals first | decide | omega
theorem txt0_len_W {v N : Nat} (h : v < W ^ N) : (txt0 v).length ≤ 20 * N := by
  refine txt0_len ?_
  have := Nat.pow_le_pow_left W_le_ten N
  rw [← Nat.pow_mul] at this
  omega

end Go.Proofs.YtnheefhbchkbdaaDoor
