/-
  What the bit functions of package nat, the document's answers beside them, and the comparison of lists return. Conditions: the slices read as lists of words, of at most 10^9 words.
-/
import Derived.Test.YtolibnnmojinkaaDoorNatRead
namespace Go.Proofs.YtolibnnmojinkaaDoor
open Go.RowKit
set_option linter.unusedVariables false
set_option linter.unusedSimpArgs false

theorem blen_le64 {xs : List Int} (h : ∀ x ∈ xs, U x) (j : Nat) : blen (xs.getD j 0).toNat ≤ 64 := by
  have := (Dg_U h).at_ W_pos j
  refine blen_le ?_
  unfold W at this
  omega
theorem blen_val_le {w : World} {A : Option Addr} {n c : Nat} {xs : List Int} (h : Sl w A n c xs) : blen (val xs) ≤ n * 64 := by
  rcases Nat.eq_zero_or_pos (sz xs) with h0 | h0
  · have : val xs = 0 := (valB_zero_iff W_pos (Dg_U h.us)).2 h0
    rw [this, blen_zero]; omega
  · rw [blen_val (Dg_U h.us) h0]
    have := blen_le64 h.us (sz xs - 1)
    have := sz_le xs
    have := h.len
    omega

theorem bit_wd {xs : List Int} (h : ∀ x ∈ xs, U x) (k : Nat) : (bits BinOp.and IntKind.u64 (wd xs ((k : Int) / 64) / 2 ^ (k % 64)) 1 == 1) = bitN (val xs) k := by
  have e1 : wd xs ((k : Int) / 64) = (((xs.getD (k / 64) 0).toNat : Nat) : Int) := by
    have := (Dg_U h).at_ W_pos (k / 64)
    unfold wd
    rw [show ((k : Int) / 64).toNat = k / 64 by omega]
    omega
  have hu : U (((xs.getD (k / 64) 0).toNat : Nat) : Int) := by
    have := (Dg_U h).at_ W_pos (k / 64)
    unfold U; unfold W at this; omega
  have hd : ∀ t : Nat, ((t : Int) == 1) = decide (t = 1) := fun t => by rw [Bool.eq_iff_iff]; simp; omega
  rw [e1, bit_of _ _ hu, bitN_nat, bit_word (Dg_U h), hd]

theorem bitN_true {v k : Nat} (h : v / 2 ^ k % 2 = 1) : bitN v k = true := by rw [bitN_nat]; simpa using h
theorem bitN_false {v k : Nat} (h : v / 2 ^ k % 2 ≠ 1) : bitN v k = false := by rw [bitN_nat]; simpa using h

/-- the first k places are the same -/
def SameTo (xs ys : List Int) (k : Nat) : Prop := ∀ j, j < k → xs.getD j 0 = ys.getD j 0
theorem SameTo.step {xs ys : List Int} {k : Nat} (h : SameTo xs ys k) (h0 : xs.getD k 0 = ys.getD k 0) : SameTo xs ys (k + 1) := fun j hj => by
  rcases Nat.lt_or_ge j k with hl | hl
  · exact h j hl
  · rw [show j = k by omega]; exact h0
theorem SameTo.all {xs ys : List Int} (hl : xs.length = ys.length) (h : SameTo xs ys xs.length) : xs = ys := by
  apply List.ext_getElem hl
  intro i h1 h2
  have := h i h1
  simpa [List.getD_eq_getElem?_getD, h1, h2] using this

set_option maxHeartbeats 400000 in
theorem plain_words {w : World} {A A' : Option Addr} {n n' c c' : Nat} {xs ys : List Int} (h : Sl w A n c xs) (h' : Sl w A' n' c' ys) (hn : n ≤ 1000000000) (hn' : n' ≤ 1000000000) :
    Calls Tryd.prog 11 #[.slice A n c, .slice A' n' c'] w fun e w' => e = .returned (.bool (decide (xs = ys))) ∧ ∃ k, w' = w.drewN k := by
  by_cases hl : n = n'
  · subst hl
    go_enter Tryd.func11, Tryd.ntmps11
    go_wp2
    go_loopw [13] (fun i wr => ∃ k m : Nat, k ≤ n ∧ i = .int .i64 k ∧ SameTo xs ys k ∧ wr = w.drewN m) (fun i _ => n - mes i)
    case atStart => exact ⟨0, 0, by omega, rfl, fun j hj => by omega, rfl⟩
    case round =>
      obtain ⟨k, m, hk, rfl, hz, rfl⟩ := hrel
      by_cases hk2 : k < n
      · obtain ⟨b, off, rfl, hb, hc⟩ := h.at_ hk2
        obtain ⟨b', off', rfl, hb', hc'⟩ := h'.at_ hk2
        have g1 := hc k hk2
        have g2 := hc' k hk2
        obtain ⟨x, hx⟩ : ∃ x, xs.getD k 0 = x := ⟨_, rfl⟩
        obtain ⟨y, hy⟩ : ∃ y, ys.getD k 0 = y := ⟨_, rfl⟩
        rw [hx] at g1
        rw [hy] at g2
        have HX := Lib.hid hx
        have HY := Lib.hid hy
        clear hc hc' hx hy
        by_cases hxy : x = y
        · subst hxy
          go_wp2
          go_region
          all_goals try go_wp2
          go_roundw
          case rel => exact ⟨k + 1, m + 1, by omega, by go_num, hz.step (by rw [HX.out, HY.out]), rfl⟩
          case measure => simp [mes, intOf]; omega
        · have hne : (x != y) = true := by simpa using hxy
          go_wp2
          go_region
          all_goals try go_wp2
          go_ret
          refine ⟨retB ?_, m + 1, rfl⟩
          symm
          rw [decide_eq_false_iff_not]
          rintro rfl
          exact hxy (by rw [← HX.out, ← HY.out])
      · go_wp2
        go_ret
        refine ⟨retB ?_, m, rfl⟩
        symm
        rw [decide_eq_true_iff]
        have hkn : k = n := by omega
        exact SameTo.all (by rw [← h.len, ← h'.len]) (by rw [← h.len, ← hkn]; exact hz)
  · have hne : ((n : Int) != (n' : Int)) = true := by simp; omega
    have hne2 : (n != n') = true := by simpa using hl
    go_enter Tryd.func11, Tryd.ntmps11
    go_wp2
    go_ret
    refine ⟨retB ?_, 0, rfl⟩
    symm
    rw [decide_eq_false_iff_not]
    rintro rfl
    exact hl (by rw [h.len, h'.len])

end Go.Proofs.YtolibnnmojinkaaDoor
