/-
  What the functions of package limb, and the document's answers beside them, return for any words: sums, differences, products. Conditions: the arguments are 64-bit words.
-/
import Derived.Test.YtnheefhbchkbdaaDoorProg
import Derived.Test.YtnheefhbchkbdaaDoorU64
import Derived.WalkKit
import Derived.WalkSpells
import Derived.WalkLawsBesides
import Derived.Lib.Hide
namespace Go.Proofs.YtnheefhbchkbdaaDoor
set_option maxRecDepth 100000
open Go.RowKit
set_option linter.unusedVariables false
set_option linter.unusedSimpArgs false

set_option maxHeartbeats 400000 in
theorem below_any (a b : Int) (w : World) :
    Calls Tryd.prog 84 #[.int .u64 a, .int .u64 b] w fun e w' => e = .returned (.int .u64 (bel a b)) ∧ w = w' := by
  by_cases h : a < b
  · go_enter Tryd.func84, Tryd.ntmps84
    go_wp2
    go_ret
    exact ⟨by simp [bel, h], rfl⟩
  · go_enter Tryd.func84, Tryd.ntmps84
    go_wp2
    go_ret
    exact ⟨by simp [bel, h], rfl⟩

set_option maxHeartbeats 400000 in
theorem limb_add (a b c : Int) (ha : U a) (hb : U b) (hc : U c) (w : World) :
    Calls Tryd.prog 58 #[.int .u64 a, .int .u64 b, .int .u64 c] w fun e w' => e = .returned (.tuple #[.int .u64 (lo64 (a + b + c)), .int .u64 (hi64 (a + b + c))]) ∧ w = w' := by
  go_enter Tryd.func58, Tryd.ntmps58
  go_wp2_with (go_at_call 84; refine (below_any _ _ _).mono ?_; rintro e w' ⟨rfl, rfl⟩)
  go_ret2
  exact ⟨ret2 (add_lo a b c) (add_hi ha hb hc), rfl⟩

set_option maxHeartbeats 400000 in
theorem limb_sub (a b c : Int) (ha : U a) (hb : U b) (hc : U c) (w : World) :
    Calls Tryd.prog 85 #[.int .u64 a, .int .u64 b, .int .u64 c] w fun e w' => e = .returned (.tuple #[.int .u64 (lo64 (a - b - c)), .int .u64 (bor (a - b - c))]) ∧ w = w' := by
  go_enter Tryd.func85, Tryd.ntmps85
  go_wp2_with (go_at_call 84; refine (below_any _ _ _).mono ?_; rintro e w' ⟨rfl, rfl⟩)
  go_ret2
  exact ⟨ret2 (sub_lo a b c) (sub_hi ha hb hc), rfl⟩

set_option maxHeartbeats 400000 in
theorem limb_mul (a b : Int) (ha : U a) (hb : U b) (w : World) :
    Calls Tryd.prog 90 #[.int .u64 a, .int .u64 b] w fun e w' => e = .returned (.tuple #[.int .u64 (hi64 (a * b)), .int .u64 (lo64 (a * b))]) ∧ w = w' := by
  go_enter Tryd.func90, Tryd.ntmps90
  go_wp2
  go_ret2
  exact ⟨ret2 (mul_hi ha hb) (mul_lo ha hb), rfl⟩

set_option maxHeartbeats 400000 in
theorem limb_len (x : Int) (hx : U x) (w : World) :
    Calls Tryd.prog 68 #[.int .u64 x] w fun e w' => e = .returned (.int .i64 (blen x.toNat)) ∧ w = w' := by
  obtain ⟨n, rfl⟩ := Int.eq_ofNat_of_zero_le hx.nn
  have hn : n < 2 ^ 64 := by unfold U at hx; omega
  have hb : blen n ≤ 64 := blen_le hn
  go_enter Tryd.func68, Tryd.ntmps68
  go_wp2
  go_loop [0, 3, 4] (fun x i s => ∃ m k t : Nat, x = .int .u64 m ∧ i = .int .i64 k ∧ s = .int .i64 t ∧ LenAt n m k t) (fun _ _ s => (intOf s).toNat)
  case atStart => exact ⟨n, 0, 32, rfl, rfl, rfl, lenAt_0 hn⟩
  case round =>
    obtain ⟨m, k, t, rfl, rfl, rfl, hk⟩ := hrel
    have hk' : k ≤ 64 := by have := hk.1; omega
    have ht := hk.2
    by_cases h0 : t = 0
    · subst h0
      go_wp2
      go_ret
      exact ⟨ret1 (lenAt_end hk), rfl⟩
    · have h3 : t = 32 ∨ t = 16 ∨ t = 8 ∨ t = 4 ∨ t = 2 ∨ t = 1 := by omega
      by_cases hd : m / 2 ^ t = 0
      · have L := lenAt_no hk h0 hd
        clear ht
        rcases h3 with rfl | rfl | rfl | rfl | rfl | rfl
        all_goals
          simp only [Nat.reducePow] at hd
          go_wp2
          go_round
          case rel => exact ⟨_, _, _, rfl, rfl, by go_num, L⟩
          case measure => simp [intOf]
      · have L := lenAt_yes hk h0 hd
        clear ht
        rcases h3 with rfl | rfl | rfl | rfl | rfl | rfl
        all_goals
          simp only [Nat.reducePow] at hd
          go_wp2
          go_round
          case rel => exact ⟨_, _, _, by go_num, by go_num, by go_num, L⟩
          case measure => simp [intOf]

end Go.Proofs.YtnheefhbchkbdaaDoor
