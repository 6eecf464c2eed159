/-
  For any word and any two exact numbers (valid or not) the law FroundBack returns true and leaves its arguments as they were. No condition.
-/
import Derived.Test.YteedipcmhaiglaaRows
import Derived.Test.YteedipcmhaiglaaFrLaws4One
import Derived.WalkKit
import Derived.ProofKit
import Derived.OpenShut
import Derived.ShutString
import Derived.ChangeOld
import Derived.Below
import Derived.Lib.SmallJoins
namespace Go.Proofs.Yteedipcmhaiglaa.froundBack
open Go.ChangeShapes Go.WideShapes Go.ChangeAt Go.RowKit Go.Joins
open Go.ChangeMaps (open_string shut_string)
set_option linter.unusedVariables false

theorem own : ownKnob Try.prog.godebug = none := by kernel_rfl
theorem laidOut : laidOutB Try.prog = true := by kernel_rfl
theorem cellsR : Try.prog.cellsOf 39 = 3 := by kernel_rfl

/-- what the walk is told of a slice of integers that came in -/
def IsRow (k : IntKind) (w : World) (a : Option Addr) (len cap : Nat) (zs : List Int) : Prop :=
  (a = none ∧ len = 0 ∧ cap = 0 ∧ zs = []) ∨
  ∃ x, a = some x ∧ len ≤ cap ∧ cap ≤ maxLen ∧ zs.length = cap ∧ (∀ i, i < zs.length → w.cell? (x.add i) = some (.int k (zs.getD i 0))) ∧ ∀ n ∈ zs, (Lit.int k n).wf = true

theorem walk (a0 : Int) (s1 : Bool) (a1 : Option Addr) (len1 cap1 : Nat) (z1 : List Int) (e1 : Option Addr) (lem1 cab1 : Nat) (y1 : List Int) (s2 : Bool) (a2 : Option Addr) (len2 cap2 : Nat) (z2 : List Int) (e2 : Option Addr) (lem2 cab2 : Nat) (y2 : List Int) (w0 : (Lit.int .u64 a0).wf = true) (w : World) (w1 : IsRow .u64 w a1 len1 cap1 z1) (v1 : IsRow .u64 w e1 lem1 cab1 y1) (w2 : IsRow .u64 w a2 len2 cap2 z2) (v2 : IsRow .u64 w e2 lem2 cab2 y2) :
    Calls Try.prog 10 #[.int .u64 a0, .agg #[.bool s1, .slice a1 len1 cap1, .slice e1 lem1 cab1], .agg #[.bool s2, .slice a2 len2 cap2, .slice e2 lem2 cab2]] w fun e w' => e = .returned (.bool true) ∧ Below w.heap.size w w' :=
  Go.Proofs.Yteedipcmhaiglaa.froundBack_walk a0 s1 a1 len1 cap1 z1 e1 lem1 cab1 y1 s2 a2 len2 cap2 z2 e2 lem2 cab2 y2 w0 w w1 v1 w2 v2

set_option maxRecDepth 100000 in
theorem lifted (os : Os) (started : os.Started) (H : Type) (enc : TypeId × Value → H) :
    ReturnsInHanded {} Try.checked os 10 .any (Rows.froundBackSpec.pre6 enc Try.prog Try.f10 Rows.froundBackRow.domain false) (Rows.froundBackSpec.post enc Try.prog Try.f10 false true false false) := by
  refine returnsInHanded_of_change (C := Try.checked) own started (by kernel_rfl) Try.func10
    (ChangeSpec.witness6 (enc := enc) (C := Try.checked) false ⟨#[], #[.int .u64 0, .agg #[.bool false, .slice none 0 0, .slice none 0 0], .agg #[.bool false, .slice none 0 0, .slice none 0 0]], []⟩ 8 (by kernel_rfl) (by kernel_rfl) (by kernel_rfl) (by kernel_rfl)) ?_
  intro W base args ds gs before hval0 hW hcnd _
  have hval : ∀ (j : Nat) t v, Try.f10.params[j]? = some t → args[j]? = some v → Value.okWide Try.prog W .any base t v := hval0
  have hW' := hW
  obtain ⟨p, q, hA0, hV, rfl, hfz, hnd⟩ := hW
  have hA : DataW.TrodAll enc Try.prog W 0 (fun _ => true) true Try.f10.params.toList args.toList ds p := hA0
  rw [Try.params10] at hA hval
  obtain ⟨v0, vs0, d0, ds0, p0, q0, hargs, rfl, rfl, h0, r0⟩ := trodAll_cons hA
  obtain ⟨v1, vs1, d1, ds1, p1, q1, rfl, rfl, rfl, h1, r1⟩ := trodAll_cons r0
  obtain ⟨v2, vs2, d2, ds2, p2, q2, rfl, rfl, rfl, h2, r2⟩ := trodAll_cons r1
  obtain ⟨rfl, rfl, rfl⟩ := trodAll_nil r2
  obtain rfl : args = #[v0, v1, v2] := by cases args; simp_all
  obtain ⟨rfl, rfl⟩ := trodVars_none hV
  obtain ⟨a0, rfl, rfl, rfl, w0⟩ := open_int Try.underlying22 (hval 0 22 v0 rfl rfl) h0
  have k1 := h1
  have lt1 : ∀ x ∈ p1, x.block < W.heap.size := by obtain ⟨m, hm⟩ := k1; exact DataW.trod_lt m _ _ _ hm
  obtain ⟨c1a, c1b, c1c, f1a, f1b, f1c, m1, rfl, rfl, rfl, ha1, hb1, hc1⟩ := open_agg3 Try.underlying39 (by kernel_rfl) cellsR (hval 1 39 v1 rfl rfl) h1
  obtain ⟨s1, es1, _⟩ := DataW.trod_bool Try.underlying4 ha1
  simp at es1
  subst es1
  obtain ⟨a1, len1, cap1, z1, ecb1, w1⟩ : ∃ A l c zs, c1b = .slice A l c ∧ IsRow .u64 W A l c zs := by
    rcases open_ints Try.underlying37 Try.underlying22 (by kernel_rfl) hb1 with ⟨hcs, _⟩ | ⟨x, l, c, zs, hcs, _, hl, hm, hz, _, hcell, hwz⟩
    · simp at hcs
      exact ⟨none, 0, 0, [], hcs, .inl ⟨rfl, rfl, rfl, rfl⟩⟩
    · simp at hcs
      exact ⟨some x, l, c, zs, hcs, .inr ⟨_, rfl, hl, hm, by simpa using hz, hcell, hwz⟩⟩
  subst ecb1
  obtain ⟨e1, lem1, cab1, y1, ecc1, v1⟩ : ∃ A l c zs, c1c = .slice A l c ∧ IsRow .u64 W A l c zs := by
    rcases open_ints Try.underlying37 Try.underlying22 (by kernel_rfl) hc1 with ⟨hcs, _⟩ | ⟨x, l, c, zs, hcs, _, hl, hm, hz, _, hcell, hwz⟩
    · simp at hcs
      exact ⟨none, 0, 0, [], hcs, .inl ⟨rfl, rfl, rfl, rfl⟩⟩
    · simp at hcs
      exact ⟨some x, l, c, zs, hcs, .inr ⟨_, rfl, hl, hm, by simpa using hz, hcell, hwz⟩⟩
  subst ecc1
  have k2 := h2
  have lt2 : ∀ x ∈ p2, x.block < W.heap.size := by obtain ⟨m, hm⟩ := k2; exact DataW.trod_lt m _ _ _ hm
  obtain ⟨c2a, c2b, c2c, f2a, f2b, f2c, m2, rfl, rfl, rfl, ha2, hb2, hc2⟩ := open_agg3 Try.underlying39 (by kernel_rfl) cellsR (hval 2 39 v2 rfl rfl) h2
  obtain ⟨s2, es2, _⟩ := DataW.trod_bool Try.underlying4 ha2
  simp at es2
  subst es2
  obtain ⟨a2, len2, cap2, z2, ecb2, w2⟩ : ∃ A l c zs, c2b = .slice A l c ∧ IsRow .u64 W A l c zs := by
    rcases open_ints Try.underlying37 Try.underlying22 (by kernel_rfl) hb2 with ⟨hcs, _⟩ | ⟨x, l, c, zs, hcs, _, hl, hm, hz, _, hcell, hwz⟩
    · simp at hcs
      exact ⟨none, 0, 0, [], hcs, .inl ⟨rfl, rfl, rfl, rfl⟩⟩
    · simp at hcs
      exact ⟨some x, l, c, zs, hcs, .inr ⟨_, rfl, hl, hm, by simpa using hz, hcell, hwz⟩⟩
  subst ecb2
  obtain ⟨e2, lem2, cab2, y2, ecc2, v2⟩ : ∃ A l c zs, c2c = .slice A l c ∧ IsRow .u64 W A l c zs := by
    rcases open_ints Try.underlying37 Try.underlying22 (by kernel_rfl) hc2 with ⟨hcs, _⟩ | ⟨x, l, c, zs, hcs, _, hl, hm, hz, _, hcell, hwz⟩
    · simp at hcs
      exact ⟨none, 0, 0, [], hcs, .inl ⟨rfl, rfl, rfl, rfl⟩⟩
    · simp at hcs
      exact ⟨some x, l, c, zs, hcs, .inr ⟨_, rfl, hl, hm, by simpa using hz, hcell, hwz⟩⟩
  subst ecc2
  clear hA0 hval0
  refine (walk a0 s1 a1 len1 cap1 z1 e1 lem1 cab1 y1 s2 a2 len2 cap2 z2 e2 lem2 cab2 y2 w0 W w1 v1 w2 v2).mono fun e W' ⟨he, bel⟩ => ?_
  subst he
  exact ⟨_, rfl, _, _, _, [], _, [], hW', trodAll_mk1 (shut_bool Try.underlying4 _), (trodAll_cons_mk (shut_int Try.underlying22 w0) (trodAll_cons_mk (Below.trod laidOut (by kernel_rfl) (of_decide_eq_true (by kernel_rfl)) k1 bel lt1) (trodAll_cons_mk (Below.trod laidOut (by kernel_rfl) (of_decide_eq_true (by kernel_rfl)) k2 bel lt2) trodAll_mk0))), rfl, bel.frame _, fun h => by cases h⟩

theorem over : Rows.froundBackRow.holds Try.pinned (OpenSpec.ofChange Rows.froundBackSpec) :=
  OpenClaim.holds_of_wide 10 Try.f10 rfl rfl rfl rfl rfl rfl rfl ⟨rfl, rfl, rfl, rfl, rfl⟩ rfl rfl rfl rfl rfl (by kernel_rfl) Try.func10 (by kernel_rfl)
    (of_decide_eq_true (by kernel_rfl)) (by unfold Func.isWrapper; first | (rw [if_pos (by decide +kernel)]; kernel_rfl) | (rw [if_neg (by decide +kernel)]; exact ⟨rfl, rfl⟩))
    (fun os started H enc _ => lifted os started H enc)

theorem proved : Rows.FroundBackSaid := over
#print axioms proved
end Go.Proofs.Yteedipcmhaiglaa.froundBack
