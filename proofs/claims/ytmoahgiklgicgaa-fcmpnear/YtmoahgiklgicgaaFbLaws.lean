/-
  The walks of the laws FbitsTells and FbitsMakes: each returns true for any words, signs and ints. No condition but that they fit their kinds.
-/
import Derived.Test.YtmoahgiklgicgaaRfMake
import Derived.Below
namespace Go.Proofs.Ytmoahgiklgicgaa
set_option maxRecDepth 100000
open Go.RowKit
set_option linter.unusedVariables false
set_option linter.unusedSimpArgs false

theorem fb_partsY {b : Nat} (hb : b < 18446744073709551616) (h : fld b < 2047) (w : World) :
    Calls Try.prog 21 #[.int .u64 b] w fun e w' => e = .returned (.tuple #[.bool (ng b), .int .u64 (sig b), .int .i64 (xpo b), .bool true]) ∧ w = w' := by
  have := fb_parts hb w
  rw [if_pos h] at this
  exact this
theorem fb_partsN {b : Nat} (hb : b < 18446744073709551616) (h : ¬ fld b < 2047) (w : World) :
    Calls Try.prog 21 #[.int .u64 b] w fun e w' => e = .returned (.tuple #[.bool false, .int .u64 0, .int .i64 0, .bool false]) ∧ w = w' := by
  have := fb_parts hb w
  rw [if_neg h] at this
  exact this

theorem u64_wf {a : Int} (h : (Lit.int .u64 a).wf = true) : ∃ b : Nat, a = b ∧ b < 18446744073709551616 := by
  have := U_of_wf h
  unfold U at this
  exact ⟨a.toNat, by omega, by omega⟩
theorem i64_wf' {a : Int} (h : (Lit.int .i64 a).wf = true) : -9223372036854775808 ≤ a ∧ a ≤ 9223372036854775807 := by
  simp [Lit.wf, IntKind.min, IntKind.max, IntKind.signed, IntKind.bits] at h
  omega

end Go.Proofs.Ytmoahgiklgicgaa
