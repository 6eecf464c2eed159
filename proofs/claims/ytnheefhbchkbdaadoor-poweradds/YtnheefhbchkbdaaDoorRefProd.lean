/-
  What the document's own products and powers (package gradineref03) return. Conditions: the slices read as lists of words, of at most 10^5 words (a power: 1000 words).
-/
import Derived.Test.YtnheefhbchkbdaaDoorProdPow
import Derived.Test.YtnheefhbchkbdaaDoorRefAdd
namespace Go.Proofs.YtnheefhbchkbdaaDoor
set_option maxRecDepth 100000
open Go.RowKit
set_option linter.unusedVariables false
set_option linter.unusedSimpArgs false

/-! ### products by halves: plain -/
/-- where the inner round stands: i digits of xs are done, of the next one k digits of ys -/
def HMulIn (xs ys : List Int) (N i k : Nat) (cy : Int) (zs : List Int) : Prop :=
  zs.length = N ∧ Dg H zs ∧ (0 ≤ cy ∧ cy < (H : Int)) ∧ valB H zs + H ^ (i + k) * cy.toNat = valB H (xs.take i) * valB H ys + H ^ i * ((xs.getD i 0).toNat * valB H (ys.take k)) ∧ ∀ j, i + ys.length ≤ j → zs.getD j 0 = 0
/-- where the outer round stands -/
def HMulOut (xs ys : List Int) (N i : Nat) (zs : List Int) : Prop :=
  zs.length = N ∧ Dg H zs ∧ valB H zs = valB H (xs.take i) * valB H ys ∧ ∀ j, i + ys.length ≤ j → zs.getD j 0 = 0
theorem hmulOut_0 (xs ys : List Int) (N : Nat) : HMulOut xs ys N 0 (List.replicate N 0) :=
  ⟨by simp, Dg.zeros H_pos _, by rw [valB_zeros]; simp [valB], fun j _ => getD_zeros N j⟩
theorem hmulIn_0 {xs ys zs : List Int} {N i : Nat} (h : HMulOut xs ys N i zs) : HMulIn xs ys N i 0 0 zs := by
  obtain ⟨h1, h2, h3, h4⟩ := h
  exact ⟨h1, h2, by unfold H; omega, by rw [h3]; simp [valB], h4⟩
theorem hmul_word {x y z cy : Int} (hx : 0 ≤ x ∧ x < (H : Int)) (hy : 0 ≤ y ∧ y < (H : Int)) (hz : 0 ≤ z ∧ z < (H : Int)) (hc : 0 ≤ cy ∧ cy < (H : Int)) :
    0 ≤ x * y ∧ cy + x * y + z < 18446744073709551616 ∧ x.toNat * y.toNat + z.toNat + cy.toNat = ((cy + x * y + z) % 4294967296).toNat + H * ((cy + x * y + z) / 4294967296).toNat ∧ (0 ≤ (cy + x * y + z) / 4294967296 ∧ (cy + x * y + z) / 4294967296 < (H : Int)) := by
  have hb := mul_bound (A := 4294967295) (B := 4294967295) hx.1 (by have := hx.2; unfold H at this; omega) hy.1 (by have := hy.2; unfold H at this; omega)
  have e : x.toNat * y.toNat = (x * y).toNat := by rw [Int.toNat_mul hx.1 hy.1]
  rw [e]
  generalize x * y = p at *
  unfold H at *
  omega
theorem hmul_alg (b P Q A X Y m c d cy' y z : Nat) (h : A + P * Q * c = X + P * (m * Y)) (e : m * y + z + c = d + b * cy') : A + P * Q * d + P * Q * b * cy' = X + P * (m * (Y + Q * y)) + P * Q * z := by
  have e1 : P * Q * d + P * Q * b * cy' = P * Q * (m * y + z + c) := by rw [e, Nat.mul_add, Nat.mul_assoc (P * Q) b cy']
  have e2 : P * (m * (Y + Q * y)) = P * (m * Y) + P * Q * (m * y) := by grind
  have e3 : P * Q * (m * y + z + c) = P * Q * (m * y) + P * Q * z + P * Q * c := by rw [Nat.mul_add, Nat.mul_add]
  omega
theorem hmulIn_step {xs ys zs : List Int} {N i k : Nat} {cy d cy' : Int} (h : HMulIn xs ys N i k cy zs) (hk : k < ys.length) (hN : i + ys.length < N)
    (hd : 0 ≤ d ∧ d < (H : Int)) (hc' : 0 ≤ cy' ∧ cy' < (H : Int)) (e : (xs.getD i 0).toNat * (ys.getD k 0).toNat + (zs.getD (i + k) 0).toNat + cy.toNat = d.toNat + H * cy'.toNat) : HMulIn xs ys N i (k + 1) cy' (zs.set (i + k) d) := by
  obtain ⟨h1, h2, h3, h4, h5⟩ := h
  refine ⟨by rw [List.length_set, h1], h2.set _ hd.1 hd.2, hc', ?_, fun j hj => ?_⟩
  · have hs := valB_set H zs (i + k) (by omega) d
    rw [valB_take_succ]
    rw [Nat.pow_add] at h4 hs
    have := hmul_alg H (H ^ i) (H ^ k) _ _ _ _ _ _ _ _ _ h4 e
    rw [show i + (k + 1) = i + k + 1 from rfl, Nat.pow_succ, Nat.pow_add]
    omega
  · rw [getD_set_ne _ (by omega)]
    exact h5 j hj
theorem hmulIn_end {xs ys zs : List Int} {N i : Nat} {cy : Int} (h : HMulIn xs ys N i ys.length cy zs) (hN : i + ys.length < N) : HMulOut xs ys N (i + 1) (zs.set (i + ys.length) cy) := by
  obtain ⟨h1, h2, h3, h4, h5⟩ := h
  refine ⟨by rw [List.length_set, h1], h2.set _ h3.1 h3.2, ?_, fun j hj => ?_⟩
  · have hs := valB_set H zs (i + ys.length) (by omega) cy
    rw [h5 _ (Nat.le_refl _)] at hs
    rw [List.take_of_length_le (Nat.le_refl _)] at h4
    rw [valB_take_succ, Nat.add_mul, Nat.mul_assoc]
    simp at hs
    omega
  · rw [getD_set_ne _ (by omega)]
    exact h5 j (by omega)

theorem sl_one (w : World) (x : Int) (hx : U x) : Sl (w.alloc (.cells #[.int .u64 x] 37)) (some ⟨w.heap.size, 0, none⟩) 1 1 [x] := sl_lit w x hx
theorem val_one (x : Int) : val [x] = x.toNat := by simp [val, valB]

theorem words_one : words 1 = [1] := by
  have e : (1 : Nat) = val [1] := by simp [val, valB]
  rw [e, words_val (by intro x hx; simp at hx; subst hx; unfold W; omega)]
  decide

end Go.Proofs.YtnheefhbchkbdaaDoor
