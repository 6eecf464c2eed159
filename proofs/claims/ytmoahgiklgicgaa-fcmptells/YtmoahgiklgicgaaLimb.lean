/-
  What the functions of package limb, and the document's answers beside them, return for any words: sums, differences, products. Conditions: the arguments are 64-bit words.
-/
import Derived.Test.YtmoahgiklgicgaaProg
import Derived.Test.YtmoahgiklgicgaaU64
import Derived.WalkKit
import Derived.WalkSpells
import Derived.WalkLawsBesides
import Derived.Lib.Hide
namespace Go.Proofs.Ytmoahgiklgicgaa
set_option maxRecDepth 100000
open Go.RowKit
set_option linter.unusedVariables false
set_option linter.unusedSimpArgs false

set_option maxHeartbeats 400000 in
theorem ref_len (x : Int) (hx : U x) (w : World) :
    Calls Try.prog 48 #[.int .u64 x] w fun e w' => e = .returned (.int .i64 (blen x.toNat)) ∧ w = w' := by
  obtain ⟨n, rfl⟩ := Int.eq_ofNat_of_zero_le hx.nn
  have hb : blen n ≤ 64 := blen_le (by unfold U at hx; omega)
  go_enter Try.func48, Try.ntmps48
  go_wp2
  go_loop [0, 3] (fun x i => ∃ m k : Nat, x = .int .u64 m ∧ i = .int .i64 k ∧ blen m + k = blen n) (fun x _ => (intOf x).toNat)
  case atStart => exact ⟨n, 0, rfl, rfl, rfl⟩
  case round =>
    obtain ⟨m, k, rfl, rfl, hk⟩ := hrel
    have hk' : k ≤ 64 := by omega
    have H := Lib.hid hk
    clear hk
    by_cases h0 : 0 < m
    · have hh := Lib.hid (blen_half h0)
      go_wp2
      go_round
      case rel => exact ⟨m / 2, k + 1, by go_num, by go_num, by have := H.out; have := hh.out; omega⟩
      case measure => simp [intOf]; omega
    · obtain rfl : m = 0 := by omega
      go_wp2
      go_ret
      exact ⟨ret1 (by have h9 := H.out; have h8 := blen_zero; omega), rfl⟩

set_option maxHeartbeats 400000 in
theorem limb_len (x : Int) (hx : U x) (w : World) :
    Calls Try.prog 22 #[.int .u64 x] w fun e w' => e = .returned (.int .i64 (blen x.toNat)) ∧ w = w' := by
  obtain ⟨n, rfl⟩ := Int.eq_ofNat_of_zero_le hx.nn
  have hn : n < 2 ^ 64 := by unfold U at hx; omega
  have hb : blen n ≤ 64 := blen_le hn
  go_enter Try.func22, Try.ntmps22
  go_wp2
  go_loop [0, 3, 4] (fun x i s => ∃ m k t : Nat, x = .int .u64 m ∧ i = .int .i64 k ∧ s = .int .i64 t ∧ LenAt n m k t) (fun _ _ s => (intOf s).toNat)
  case atStart => exact ⟨n, 0, 32, rfl, rfl, rfl, lenAt_0 hn⟩
  case round =>
    obtain ⟨m, k, t, rfl, rfl, rfl, hk⟩ := hrel
    have hk' : k ≤ 64 := by have := hk.1; omega
    have ht := hk.2
    by_cases h0 : t = 0
    · subst h0
      go_wp2
      go_ret
      exact ⟨ret1 (lenAt_end hk), rfl⟩
    · have h3 : t = 32 ∨ t = 16 ∨ t = 8 ∨ t = 4 ∨ t = 2 ∨ t = 1 := by omega
      by_cases hd : m / 2 ^ t = 0
      · have L := lenAt_no hk h0 hd
        clear ht
        rcases h3 with rfl | rfl | rfl | rfl | rfl | rfl
        all_goals
          simp only [Nat.reducePow] at hd
          go_wp2
          go_round
          case rel => exact ⟨_, _, _, rfl, rfl, by go_num, L⟩
          case measure => simp [intOf]
      · have L := lenAt_yes hk h0 hd
        clear ht
        rcases h3 with rfl | rfl | rfl | rfl | rfl | rfl
        all_goals
          simp only [Nat.reducePow] at hd
          go_wp2
          go_round
          case rel => exact ⟨_, _, _, by go_num, by go_num, by go_num, L⟩
          case measure => simp [intOf]

end Go.Proofs.Ytmoahgiklgicgaa
