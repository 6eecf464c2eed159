/-
  What the document's own roots (package gradineref04) return. Conditions: the slice reads as a list of words, of at most 1000 words.
-/
import Derived.Test.YtidjacgifdpcmaaRefDiv1
namespace Go.Proofs.Ytidjacgifdpcmaa
set_option maxRecDepth 100000
open Go.RowKit
set_option linter.unusedVariables false
set_option linter.unusedSimpArgs false

/-- where a root bit by bit stands -/
def RootInv (a k r : Nat) : Prop := r % 2 ^ k = 0 ∧ r * r ≤ a ∧ a < (r + 2 ^ k) * (r + 2 ^ k)
theorem rootInv_0 {a k : Nat} (h : a < 2 ^ (2 * k)) : RootInv a k 0 := by
  refine ⟨by simp, by omega, ?_⟩
  rw [Nat.zero_add, ← Nat.pow_add, show k + k = 2 * k by omega]
  exact h
theorem rootInv_free {a k r : Nat} (h : RootInv a (k + 1) r) : r / 2 ^ k % 2 = 0 := by
  have h1 := h.1
  obtain ⟨q, rfl⟩ : ∃ q, r = q * 2 ^ (k + 1) := ⟨r / 2 ^ (k + 1), by have := Nat.div_add_mod r (2 ^ (k + 1)); rw [h1, Nat.mul_comm] at this; omega⟩
  exact qbit_free q k
theorem rootInv_yes {a k r : Nat} (h : RootInv a (k + 1) r) (hle : (r + 2 ^ k) * (r + 2 ^ k) ≤ a) : RootInv a k (r + 2 ^ k) := by
  obtain ⟨h1, h2, h3⟩ := h
  refine ⟨?_, hle, ?_⟩
  · obtain ⟨q, rfl⟩ : ∃ q, r = q * 2 ^ (k + 1) := ⟨r / 2 ^ (k + 1), by have := Nat.div_add_mod r (2 ^ (k + 1)); rw [h1, Nat.mul_comm] at this; omega⟩
    rw [Nat.pow_succ, Nat.mul_comm (2 ^ k) 2, ← Nat.mul_assoc, ← Nat.succ_mul]
    exact Nat.mul_mod_left _ _
  · rw [Nat.add_assoc, show 2 ^ k + 2 ^ k = 2 ^ (k + 1) by rw [Nat.pow_succ]; omega]
    exact h3
theorem rootInv_no {a k r : Nat} (h : RootInv a (k + 1) r) (hlt : a < (r + 2 ^ k) * (r + 2 ^ k)) : RootInv a k r := by
  obtain ⟨h1, h2, h3⟩ := h
  refine ⟨?_, h2, hlt⟩
  obtain ⟨q, rfl⟩ : ∃ q, r = q * 2 ^ (k + 1) := ⟨r / 2 ^ (k + 1), by have := Nat.div_add_mod r (2 ^ (k + 1)); rw [h1, Nat.mul_comm] at this; omega⟩
  rw [Nat.pow_succ, Nat.mul_comm (2 ^ k) 2, ← Nat.mul_assoc]
  exact Nat.mul_mod_left _ _
theorem rootInv_end {a r : Nat} (h : RootInv a 0 r) : rt a = r := rt_unique h.2.1 (by simpa using h.2.2)
theorem rootInv_lt {a k r m : Nat} (h : RootInv a k r) (ha : a < W ^ m) : r < W ^ m := by
  have h2 := h.2.1
  rcases Nat.eq_zero_or_pos r with e | e
  · subst e; exact Nat.pow_pos W_pos
  · exact Nat.lt_of_le_of_lt (Nat.le_trans (Nat.le_mul_of_pos_right _ e) h2) ha

set_option maxHeartbeats 2000000 in
theorem ref_root {w : World} {A : Option Addr} {n c : Nat} {xs : List Int} (h : Sl w A n c xs) (hn : n ≤ 1000) :
    Calls Try.prog 64 #[.slice A n c] w (RetSl (words (rt (val xs))) w) := by
  have hbl := blen_val_le h
  have B := ref_bits h (by omega)
  have hlt := blen_lt (val xs)
  have CMP := fun w1 (hb : Below w.heap.size w w1) (B : Option Addr) (nb cb : Nat) (zs : List Int) (s : Sl w1 B nb cb zs) (hnb : nb ≤ 10000) => ref_cmp s (h.below hb) (by omega) (by omega)
  obtain ⟨L, hL⟩ : ∃ L, blen (val xs) = L := ⟨_, rfl⟩
  rw [hL] at hbl B hlt
  generalize val xs = a at *
  obtain ⟨k0, hk0⟩ : ∃ k, (L + 1) / 2 = k := ⟨_, rfl⟩
  have ek : ((L : Int) + 1) / 2 = (k0 : Int) := by omega
  have hini : RootInv a (k0 + 1) 0 := rootInv_0 (Nat.lt_of_lt_of_le hlt (Nat.pow_le_pow_right (by omega) (by omega)))
  have hkb : k0 ≤ 40000 := by omega
  obtain ⟨K, hK1, hK2⟩ : ∃ K : Nat, K ≤ 2000 ∧ 1900 ≤ K := ⟨2000, by omega, by omega⟩
  have HB := Lib.hid B
  have HI := Lib.hid hini
  have HCMP := Lib.hid CMP
  clear B hini CMP hL hk0 hlt
  go_enter Try.func64, Try.ntmps64
  go_wp2_with fail
  refine HB.out.mono ?_
  rintro e w' ⟨rfl, rfl⟩
  go_wp2_with fail
  rw [ek]
  clear ek
  go_loopw [3, 4] (fun rv iv wr => ∃ (k : Nat) (j : Int) (Br : Option Addr) (nr cr : Nat) (rs : List Int), k ≤ k0 + 1 ∧ j + 1 ≤ k ∧ (k : Int) ≤ j + 1 ∧ iv = .int .i64 j ∧ rv = .slice Br nr cr ∧ nr ≤ K ∧ Sl wr Br nr cr rs ∧ Hid (RootInv a k (val rs)) ∧ Below w.heap.size w wr) (fun _ iv _ => (intOf iv + 1).toNat)
  case atStart => exact ⟨k0 + 1, _, none, 0, 0, [], by omega, by omega, by omega, rfl, rfl, by omega, Sl.nil _ _ _, HI, Below.refl _ _⟩
  case round =>
    clear HI HB
    obtain ⟨k, j, Br, nr, cr, rs, hk, hj1, hj2, rfl, rfl, hnr, sr, HR, hb⟩ := hrel
    by_cases hk0 : k = 0
    · subst hk0
      obtain rfl : j = -1 := by omega
      have T := ref_trim sr (by omega)
      rw [← rootInv_end HR.out] at T
      have HT := Lib.hid T
      clear T
      go_wp2_with fail
      refine HT.out.mono ?_
      rintro e w1 ⟨A1, n1, c1, rfl, s1, b1⟩
      go_wp2_with fail
      go_ret
      exact ⟨_, _, _, rfl, s1, hb.trans (b1.mono hb.size)⟩
    · obtain ⟨i, rfl⟩ : ∃ i, k = i + 1 := ⟨k - 1, by omega⟩
      obtain rfl : j = (i : Int) := by omega
      have ST := ref_set sr (by omega) i (by omega) (rootInv_free HR.out) K (by omega) (by omega)
      have HST := Lib.hid ST
      clear ST
      go_wp2_with fail
      refine HST.out.mono ?_
      rintro e w1 ⟨A1, n1, c1, zs, rfl, hn1, s1, v1, b1⟩
      have hb1 := hb.trans (b1.mono hb.size)
      have sr1 := sr.below b1
      have M := ref_nmul s1 s1 (by omega) (by omega)
      rw [v1] at M
      have HM := Lib.hid M
      have HV1 := Lib.hid v1
      have hzl : val zs < W ^ K := val_lt_pow s1.us (by have := s1.len; omega)
      have HZL := Lib.hid hzl
      clear M v1 b1 sr HST hzl
      go_wp2_with fail
      refine HM.out.mono ?_
      rintro e w2 ⟨A2, n2, c2, rfl, s2, b2⟩
      have hb2 := hb1.trans (b2.mono hb1.size)
      have sr2 := sr1.below b2
      have s12 := s1.below b2
      have hn2 : n2 ≤ K + K := s2.small (k := K + K) (mul_lt_powW (by rw [← HV1.out]; exact HZL.out) (by rw [← HV1.out]; exact HZL.out))
      have C := HCMP.out _ hb2 _ _ _ _ s2 (by omega)
      rw [val_words] at C
      clear HM b2 sr1 s1 s2
      by_cases hle : (val rs + 2 ^ i) * (val rs + 2 ^ i) ≤ a
      · have hcm : cmpN ((val rs + 2 ^ i) * (val rs + 2 ^ i)) a ≤ 0 := by unfold cmpN; split <;> (try split) <;> omega
        have hri := rootInv_yes HR.out hle
        rw [← HV1.out] at hri
        generalize cmpN ((val rs + 2 ^ i) * (val rs + 2 ^ i)) a = cm at *
        have HC := Lib.hid C
        have HRI := Lib.hid hri
        clear C hri hle
        go_wp2_with fail
        refine HC.out.mono ?_
        rintro e w' ⟨rfl, rfl⟩
        go_wp2_with fail
        go_roundw
        case rel => exact ⟨i, _, _, _, _, zs, by omega, by omega, by omega, rfl, rfl, hn1, s12, HRI, hb2⟩
        case measure => simp [intOf]
      · have hcm : 0 < cmpN ((val rs + 2 ^ i) * (val rs + 2 ^ i)) a := by rw [cmpN_gt (by omega)]; omega
        have hri := rootInv_no HR.out (by omega)
        generalize cmpN ((val rs + 2 ^ i) * (val rs + 2 ^ i)) a = cm at *
        have HC := Lib.hid C
        have HRI := Lib.hid hri
        clear C hri hle
        go_wp2_with fail
        refine HC.out.mono ?_
        rintro e w' ⟨rfl, rfl⟩
        go_wp2_with fail
        go_roundw
        case rel => exact ⟨i, _, _, _, _, rs, by omega, by omega, by omega, rfl, rfl, hnr, sr2, HRI, hb2⟩
        case measure => simp [intOf]

end Go.Proofs.Ytidjacgifdpcmaa
