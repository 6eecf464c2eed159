/-
  What the bit functions of package nat, the document's answers beside them, and the comparison of lists return. Conditions: the slices read as lists of words, of at most 10^9 words.
-/
import Derived.Test.YtmoahgiklgicgaaNatRead
namespace Go.Proofs.Ytmoahgiklgicgaa
set_option maxRecDepth 100000
open Go.RowKit
set_option linter.unusedVariables false
set_option linter.unusedSimpArgs false

theorem blen_le64 {xs : List Int} (h : ∀ x ∈ xs, U x) (j : Nat) : blen (xs.getD j 0).toNat ≤ 64 := by
  have := (Dg_U h).at_ W_pos j
  refine blen_le ?_
  unfold W at this
  omega
theorem blen_val_le {w : World} {A : Option Addr} {n c : Nat} {xs : List Int} (h : Sl w A n c xs) : blen (val xs) ≤ n * 64 := by
  rcases Nat.eq_zero_or_pos (sz xs) with h0 | h0
  · have : val xs = 0 := (valB_zero_iff W_pos (Dg_U h.us)).2 h0
    rw [this, blen_zero]; omega
  · rw [blen_val (Dg_U h.us) h0]
    have := blen_le64 h.us (sz xs - 1)
    have := sz_le xs
    have := h.len
    omega

set_option maxHeartbeats 400000 in
theorem ref_bits {w : World} {A : Option Addr} {n c : Nat} {xs : List Int} (h : Sl w A n c xs) (hn : n ≤ 1000000000) :
    Calls Try.prog 28 #[.slice A n c] w fun e w' => e = .returned (.int .i64 (blen (val xs))) ∧ w = w' := by
  have hs : sz xs ≤ n := by rw [h.len]; exact sz_le xs
  by_cases h0 : sz xs = 0
  · have hv : val xs = 0 := (valB_zero_iff W_pos (Dg_U h.us)).2 h0
    have HV := Lib.hid hv
    have S := ref_size h hn
    rw [h0] at S
    have HS := Lib.hid S
    clear hv S h0
    go_enter Try.func28, Try.ntmps28
    go_wp2_with fail
    refine HS.out.mono ?_
    rintro e w' ⟨rfl, rfl⟩
    go_wp2_with fail
    go_ret
    exact ⟨ret1 (by rw [HV.out]; rfl), rfl⟩
  · obtain ⟨m, hm⟩ : ∃ m, sz xs = m + 1 := ⟨sz xs - 1, by omega⟩
    have hv := blen_val (Dg_U h.us) (by omega)
    have hb := blen_le64 h.us m
    have hu := h.u m
    rw [hm, Nat.add_sub_cancel] at hv
    have S := ref_size h hn
    rw [hm] at S
    have hm' : m < n := by omega
    obtain ⟨b, off, rfl, hb', hc⟩ := h.at_ hm'
    have hcell := hc m hm'
    obtain ⟨z, hz⟩ : ∃ z, xs.getD m 0 = z := ⟨_, rfl⟩
    rw [hz] at hcell hv hb hu
    have HV := Lib.hid hv
    have HS := Lib.hid S
    clear hv S h0 hm hs hc hz
    go_enter Try.func28, Try.ntmps28
    go_wp2_with fail
    refine HS.out.mono ?_
    rintro e w' ⟨rfl, rfl⟩
    go_wp2_with fail
    refine (ref_len z hu _).mono ?_
    rintro e w' ⟨rfl, rfl⟩
    go_wp2_with fail
    go_ret
    exact ⟨ret1 (by rw [HV.out]; omega), rfl⟩


theorem bit_wd {xs : List Int} (h : ∀ x ∈ xs, U x) (k : Nat) : (bits BinOp.and IntKind.u64 (wd xs ((k : Int) / 64) / 2 ^ (k % 64)) 1 == 1) = bitN (val xs) k := by
  have e1 : wd xs ((k : Int) / 64) = (((xs.getD (k / 64) 0).toNat : Nat) : Int) := by
    have := (Dg_U h).at_ W_pos (k / 64)
    unfold wd
    rw [show ((k : Int) / 64).toNat = k / 64 by omega]
    omega
  have hu : U (((xs.getD (k / 64) 0).toNat : Nat) : Int) := by
    have := (Dg_U h).at_ W_pos (k / 64)
    unfold U; unfold W at this; omega
  have hd : ∀ t : Nat, ((t : Int) == 1) = decide (t = 1) := fun t => by rw [Bool.eq_iff_iff]; simp; omega
  rw [e1, bit_of _ _ hu, bitN_nat, bit_word (Dg_U h), hd]

set_option maxHeartbeats 400000 in
theorem ref_bit {w : World} {A : Option Addr} {n c : Nat} {xs : List Int} (h : Sl w A n c xs) (hn : n ≤ 1000000000) (i : Int) (hi2 : i ≤ 9223372036854775807) :
    Calls Try.prog 56 #[.slice A n c, .int .i64 i] w fun e w' => e = .returned (.bool (bitN (val xs) i)) ∧ w = w' := by
  by_cases hi : i < 0
  · have hb := bitN_neg (val xs) hi
    have HB := Lib.hid hb
    clear hb
    have h1 : decide (0 ≤ i) = false := by simp; omega
    go_enter Try.func56, Try.ntmps56
    go_wp2
    go_ret
    exact ⟨retB HB.out.symm, rfl⟩
  · obtain ⟨k, rfl⟩ := Int.eq_ofNat_of_zero_le (show 0 ≤ i by omega)
    have hb := bit_wd h.us k
    by_cases hk : k / 64 < n
    · obtain ⟨b, off, rfl, hb', hc⟩ := h.at_ hk
      have hcell := hc (k / 64) hk
      have e1 : wd xs ((k : Int) / 64) = xs.getD (k / 64) 0 := by unfold wd; rw [show ((k : Int) / 64).toNat = k / 64 by omega]
      rw [← e1] at hcell
      obtain ⟨z, hz⟩ : ∃ z, wd xs ((k : Int) / 64) = z := ⟨_, rfl⟩
      rw [hz] at hcell hb
      have HB := Lib.hid hb
      clear hb e1 hz hc
      have h1 : decide (0 ≤ (k : Int)) = true := by simp
      have h2 : decide (k / 64 < n) = true := by simp; omega
      have h3 : (k : Int) / 64 < (n : Int) := by omega
      go_enter Try.func56, Try.ntmps56
      go_wp2
      go_ret
      exact ⟨retB HB.out, rfl⟩
    · have e1 : wd xs ((k : Int) / 64) = 0 := by
        unfold wd
        rw [show ((k : Int) / 64).toNat = k / 64 by omega, List.getD_eq_getElem?_getD, List.getElem?_eq_none (by have := h.len; omega)]; rfl
      have hb2 : bitN (val xs) k = false := by
        rw [← hb, e1, Int.zero_ediv]
        decide
      have HB := Lib.hid hb2
      clear hb hb2 e1
      have h1 : decide (0 ≤ (k : Int)) = true := by simp
      have h2 : decide (k / 64 < n) = false := by simp; omega
      have h3 : (n : Int) ≤ (k : Int) / 64 := by omega
      go_enter Try.func56, Try.ntmps56
      go_wp2
      go_ret
      exact ⟨retB HB.out.symm, rfl⟩

theorem bitN_true {v k : Nat} (h : v / 2 ^ k % 2 = 1) : bitN v k = true := by rw [bitN_nat]; simpa using h
theorem bitN_false {v k : Nat} (h : v / 2 ^ k % 2 ≠ 1) : bitN v k = false := by rw [bitN_nat]; simpa using h

set_option maxHeartbeats 400000 in
theorem ref_even {w : World} {A : Option Addr} {n c : Nat} {xs : List Int} (h : Sl w A n c xs) (hn : n ≤ 1000000000) :
    Calls Try.prog 65 #[.slice A n c] w fun e w' => e = .returned (.int .i64 (tz (val xs))) ∧ w = w' := by
  have hbl := blen_val_le h
  have S := ref_size h hn
  have hs : sz xs ≤ n := by rw [h.len]; exact sz_le xs
  by_cases h0 : sz xs = 0
  · have hv : val xs = 0 := (valB_zero_iff W_pos (Dg_U h.us)).2 h0
    have HV := Lib.hid hv
    rw [h0] at S
    have HS := Lib.hid S
    clear hv S h0
    go_enter Try.func65, Try.ntmps65
    go_wp2_with fail
    refine HS.out.mono ?_
    rintro e w' ⟨rfl, rfl⟩
    go_wp2_with fail
    go_ret
    exact ⟨ret1 (by rw [HV.out]; rfl), rfl⟩
  · have hv : val xs ≠ 0 := fun e => h0 ((valB_zero_iff W_pos (Dg_U h.us)).1 e)
    obtain ⟨L, hL⟩ : ∃ L, blen (val xs) = L := ⟨_, rfl⟩
    rw [hL] at hbl
    have HL := Lib.hid hL
    have HV := Lib.hid hv
    obtain ⟨p, hp⟩ : ∃ p, sz xs = p := ⟨_, rfl⟩
    rw [hp] at S hs h0
    have HS := Lib.hid S
    have h0' : ((p : Int) == 0) = false := by simp; omega
    clear S hL hv hp
    go_enter Try.func65, Try.ntmps65
    go_wp2_with fail
    refine HS.out.mono ?_
    rintro e w' ⟨rfl, rfl⟩
    go_wp2_with fail
    go_loop [3] (fun i => ∃ k : Nat, k ≤ L ∧ i = .int .i64 k ∧ LowZero (val xs) k) (fun i => L - mes i)
    case atStart => exact ⟨0, by omega, rfl, lowZero_0 _⟩
    case round =>
      obtain ⟨k, hk, rfl, hz⟩ := hrel
      have hk2 : k < L := by
        rcases Nat.lt_or_ge k L with h9 | h9
        · exact h9
        · exact absurd (lowZero_zero (v := val xs) (by rw [HL.out, ← (show k = L from by omega)]; exact hz)) HV.out
      have B := ref_bit h hn (k : Int) (by omega)
      by_cases hb : val xs / 2 ^ k % 2 = 1
      · rw [bitN_true hb] at B
        have HB := Lib.hid B
        have H1 := Lib.hid hb
        clear B hb
        go_wp2_with fail
        refine HB.out.mono ?_
        rintro e w' ⟨rfl, rfl⟩
        go_wp2_with fail
        go_ret
        exact ⟨ret1 (by rw [tz_unique hz H1.out]), rfl⟩
      · rw [bitN_false hb] at B
        have HB := Lib.hid B
        have H1 := Lib.hid hb
        clear B hb
        go_wp2_with fail
        refine HB.out.mono ?_
        rintro e w' ⟨rfl, rfl⟩
        go_wp2_with fail
        go_round
        case rel => exact ⟨k + 1, by omega, by go_num, hz.step H1.out⟩
        case measure => simp [mes, intOf]; omega

/-- the first k places are the same -/
def SameTo (xs ys : List Int) (k : Nat) : Prop := ∀ j, j < k → xs.getD j 0 = ys.getD j 0
theorem SameTo.step {xs ys : List Int} {k : Nat} (h : SameTo xs ys k) (h0 : xs.getD k 0 = ys.getD k 0) : SameTo xs ys (k + 1) := fun j hj => by
  rcases Nat.lt_or_ge j k with hl | hl
  · exact h j hl
  · rw [show j = k by omega]; exact h0
theorem SameTo.all {xs ys : List Int} (hl : xs.length = ys.length) (h : SameTo xs ys xs.length) : xs = ys := by
  apply List.ext_getElem hl
  intro i h1 h2
  have := h i h1
  simpa [List.getD_eq_getElem?_getD, h1, h2] using this

end Go.Proofs.Ytmoahgiklgicgaa
