/-
  Plain mathematics of shifts of lists of words in place: from the top down for a shift to the left, from the bottom up for one to the right. No Go in sight.
-/
import Derived.Test.YtmoahgiklgicgaaNatMath
namespace Go.Proofs.Ytmoahgiklgicgaa
set_option maxRecDepth 100000
open Go.RowKit
set_option linter.unusedVariables false
set_option linter.unusedSimpArgs false

theorem shl_digit2 {x y : Int} {s : Nat} (hs : s < 64) (hx : U x) (hy : U y) :
    ∃ v : Nat, bits BinOp.or IntKind.u64 (IntKind.u64.wrap (x * 2 ^ s)) (y / 2 ^ (64 - s)) = (v : Int) ∧ v < W ∧ v = x.toNat * 2 ^ s % W + y.toNat / 2 ^ (64 - s) ∧ x.toNat * 2 ^ s = x.toNat * 2 ^ s % W + W * (x.toNat / 2 ^ (64 - s)) := by
  obtain ⟨n, rfl⟩ := Int.eq_ofNat_of_zero_le hx.1
  obtain ⟨e, rfl⟩ := Int.eq_ofNat_of_zero_le hy.1
  have hW := W_split (s := s) (by omega)
  have p0 : 0 < 2 ^ s := Nat.two_pow_pos s
  have hm : n * 2 ^ s % W < W := Nat.mod_lt _ W_pos
  have hm0 : n * 2 ^ s % W % 2 ^ s = 0 := by
    rw [hW, Nat.mod_mul_right_mod, Nat.mul_mod_left]
  have heW : e < W := by have := hy.2; unfold W; omega
  obtain ⟨hb, hb'⟩ := shl_high hs heW
  have hlt : n * 2 ^ s % W + 2 ^ s ≤ W := by
    have e1 : n * 2 ^ s % W = 2 ^ s * (n * 2 ^ s % W / 2 ^ s) := by
      have := Nat.div_add_mod (n * 2 ^ s % W) (2 ^ s); omega
    have e2 : n * 2 ^ s % W / 2 ^ s < 2 ^ (64 - s) := by
      rw [Nat.div_lt_iff_lt_mul p0, Nat.mul_comm (2 ^ (64 - s)), ← hW]; exact hm
    have e3 : 2 ^ s * (n * 2 ^ s % W / 2 ^ s + 1) ≤ 2 ^ s * 2 ^ (64 - s) := Nat.mul_le_mul_left _ e2
    rw [← hW, Nat.mul_add] at e3
    omega
  refine ⟨n * 2 ^ s % W + e / 2 ^ (64 - s), ?_, by omega, by simp, ?_⟩
  · rw [cast_shl, cast_shr, wrapU]
    have ew : ((n * 2 ^ s : Nat) : Int) % 18446744073709551616 = ((n * 2 ^ s % W : Nat) : Int) := by rw [Int.natCast_emod]; rfl
    rw [ew]
    generalize n * 2 ^ s % W = a at *
    generalize e / 2 ^ (64 - s) = b at *
    have := shl_or a b s (by unfold W at hm; omega) hm0 hb (by unfold W at hb'; omega)
    rw [wrapU_lo, lo_U (by unfold U; unfold W at hm; omega)] at this
    exact this
  · simp only [Int.toNat_natCast]
    have e5 : n * 2 ^ s / W = n / 2 ^ (64 - s) := by rw [hW, Nat.mul_comm (2 ^ s), Nat.mul_div_mul_right _ _ p0]
    have := Nat.div_add_mod (n * 2 ^ s) W
    rw [e5] at this
    omega

/-- places above i hold shifted words, those up to i hold what they held -/
def ShlDown (L : List Int) (s i : Nat) (zs : List Int) : Prop :=
  zs.length = L.length ∧ Dg W zs ∧ (∀ j, j ≤ i → zs.getD j 0 = L.getD j 0) ∧ valB W (zs.drop (i + 1)) = valB W (L.drop (i + 1)) * 2 ^ s + (L.getD i 0).toNat / 2 ^ (64 - s)
theorem shlDown_0 {L : List Int} {s N : Nat} (hd : Dg W L) (hN : L.length = N + 1) (h0 : L.getD N 0 = 0) : ShlDown L s N L := by
  refine ⟨rfl, hd, fun j _ => rfl, ?_⟩
  rw [List.drop_eq_nil_of_le (by omega), h0]
  simp [valB]
theorem shlDown_alg (b T X Lx Hx V2 Y v R : Nat) (hv : v = Lx + Y) (hx : X * T = Lx + b * Hx) (hR : R = V2 * T + Hx) : v + b * R = (X + b * V2) * T + Y := by
  subst hv hR
  rw [Nat.add_mul, hx, Nat.mul_add, Nat.mul_assoc]
  omega
theorem shlDown_step {L zs : List Int} {s k v : Nat} (h : ShlDown L s (k + 1) zs) (hk : k + 1 < L.length) (hv1 : v < W) (hv : v = (L.getD (k + 1) 0).toNat * 2 ^ s % W + (L.getD k 0).toNat / 2 ^ (64 - s))
    (hx : (L.getD (k + 1) 0).toNat * 2 ^ s = (L.getD (k + 1) 0).toNat * 2 ^ s % W + W * ((L.getD (k + 1) 0).toNat / 2 ^ (64 - s))) : ShlDown L s k (zs.set (k + 1) (v : Int)) := by
  obtain ⟨h1, h2, h3, h4⟩ := h
  refine ⟨by simpa using h1, h2.set _ (Int.natCast_nonneg _) (Int.ofNat_lt.2 hv1), fun j hj => ?_, ?_⟩
  · rw [getD_set_ne _ (by omega)]; exact h3 j (by omega)
  · rw [valB_drop W _ (k + 1), getD_set_self _ (by omega), Int.toNat_natCast, List.drop_set_of_lt (by omega), valB_drop W L (k + 1)]
    exact shlDown_alg W _ _ _ _ _ _ _ _ hv hx h4
theorem shlDown_end {L zs : List Int} {s v : Nat} (h : ShlDown L s 0 zs) (hk : 0 < L.length) (hv1 : v < W) (hv : v = (L.getD 0 0).toNat * 2 ^ s % W)
    (hx : (L.getD 0 0).toNat * 2 ^ s = (L.getD 0 0).toNat * 2 ^ s % W + W * ((L.getD 0 0).toNat / 2 ^ (64 - s))) : val (zs.set 0 (v : Int)) = val L * 2 ^ s ∧ Dg W (zs.set 0 (v : Int)) ∧ (zs.set 0 (v : Int)).length = L.length := by
  obtain ⟨h1, h2, h3, h4⟩ := h
  refine ⟨?_, h2.set _ (Int.natCast_nonneg _) (Int.ofNat_lt.2 hv1), by simpa using h1⟩
  unfold val
  have e1 := valB_drop W (zs.set 0 (v : Int)) 0
  have e2 := valB_drop W L 0
  rw [List.drop_zero] at e1 e2
  rw [e1, getD_set_self _ (by omega), Int.toNat_natCast, List.drop_set_of_lt (by omega), e2]
  have := shlDown_alg W (2 ^ s) (L.getD 0 0).toNat _ _ _ 0 v _ (by rw [Nat.add_zero]; exact hv) hx h4
  rw [Nat.add_zero] at this
  exact this
theorem val_zeros_append (k : Nat) (xs : List Int) : val (List.replicate k 0 ++ xs) = W ^ k * val xs := by
  unfold val
  rw [valB_append, valB_zeros, List.length_replicate, Nat.zero_add]
theorem val_snoc_zero (xs : List Int) : val (xs ++ [0]) = val xs := by
  unfold val
  rw [valB_snoc]
  simp

/-- places below k hold shifted words, those from k on hold what they held -/
def ShrUp (L : List Int) (s k : Nat) (zs : List Int) : Prop :=
  zs.length = L.length ∧ Dg W zs ∧ (∀ j, k ≤ j → zs.getD j 0 = L.getD j 0) ∧ valB W (zs.take k) + W ^ k * (valB W (L.drop k) / 2 ^ s) = valB W L / 2 ^ s
theorem shrUp_0 {L : List Int} (s : Nat) (hd : Dg W L) : ShrUp L s 0 L := by
  refine ⟨rfl, hd, fun j _ => rfl, ?_⟩
  simp [valB]
theorem shrUp_step {L zs : List Int} {s k v : Nat} (hs : s < 64) (hd : Dg W L) (h : ShrUp L s k zs) (hk : k < L.length) (hv1 : v < W) (hv : v = (L.getD k 0).toNat / 2 ^ s + 2 ^ (64 - s) * ((L.getD (k + 1) 0).toNat % 2 ^ s)) :
    ShrUp L s (k + 1) (zs.set k (v : Int)) := by
  obtain ⟨h1, h2, h3, h4⟩ := h
  have hR := shr_half W (2 ^ s) (2 ^ (64 - s)) (L.getD k 0).toNat (L.getD (k + 1) 0).toNat _ _ (W_split (by omega)) (Nat.two_pow_pos s) (valB_drop W L (k + 1))
  rw [← valB_drop, ← hv] at hR
  refine ⟨by simpa using h1, h2.set _ (Int.natCast_nonneg _) (Int.ofNat_lt.2 hv1), fun j hj => ?_, ?_⟩
  · rw [getD_set_ne _ (by omega)]; exact h3 j (by omega)
  · rw [valB_take_succ, getD_set_self _ (by omega), Int.toNat_natCast, List.take_set_of_le (by omega), Nat.pow_succ]
    exact shr_algebra W _ _ _ _ _ _ _ rfl h4 hR
theorem shrUp_end {L zs : List Int} {s : Nat} (h : ShrUp L s L.length zs) : val zs = val L / 2 ^ s := by
  obtain ⟨h1, h2, h3, h4⟩ := h
  rw [List.drop_length, List.take_of_length_le (by omega)] at h4
  unfold val
  have e : valB W [] / 2 ^ s = 0 := by simp [valB]
  rw [e, Nat.mul_zero, Nat.add_zero] at h4
  exact h4
theorem val_drop_div {xs : List Int} (h : Dg W xs) (m : Nat) : val (xs.drop (m / 64)) / 2 ^ (m % 64) = val xs / 2 ^ m := by
  unfold val
  rw [← valB_div W_pos h, Nat.div_div_eq_div_mul, pow_shift]

end Go.Proofs.Ytmoahgiklgicgaa
