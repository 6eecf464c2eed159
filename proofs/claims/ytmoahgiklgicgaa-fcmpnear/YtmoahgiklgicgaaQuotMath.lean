/-
  Plain mathematics of long division and of roots: quotients word by word, Knuth's digits, Newton's steps. No Go in sight. Conditions: those that each theorem names.
-/
import Derived.Test.YtmoahgiklgicgaaProdMath
namespace Go.Proofs.Ytmoahgiklgicgaa
set_option maxRecDepth 100000
open Go.RowKit
set_option linter.unusedVariables false
set_option linter.unusedSimpArgs false

/-! ### division by a word -/
/-- where a division by a word stands: the words from k on are divided -/
def WdInv (xs : List Int) (d : Int) (k : Nat) (r : Int) (qs : List Int) : Prop :=
  qs.length = xs.length ∧ Dg W qs ∧ (0 ≤ r ∧ r < d) ∧ valB W (qs.drop k) * d.toNat + r.toNat = valB W (xs.drop k)
theorem wdInv_0 (xs : List Int) {d : Int} (hd : 0 < d) : WdInv xs d xs.length 0 (List.replicate xs.length 0) :=
  ⟨by simp, Dg.zeros W_pos _, by omega, by rw [List.drop_eq_nil_of_le (by simp), List.drop_eq_nil_of_le (Nat.le_refl _)]; simp [valB]⟩
theorem valB_drop_set (b : Nat) (qs : List Int) (k : Nat) (hk : k < qs.length) (x : Int) : valB b ((qs.set k x).drop k) = x.toNat + b * valB b (qs.drop (k + 1)) := by
  rw [valB_drop, getD_set_self _ hk, List.drop_set_of_lt (by omega)]
theorem wd_alg (b q d r x t X r' : Nat) (h : q * d + r = X) (e : r * b + x = t * d + r') : (t + b * q) * d + r' = x + b * X := by
  subst h
  have e1 : (t + b * q) * d = t * d + b * (q * d) := by grind
  have e2 : b * (q * d + r) = b * (q * d) + r * b := by grind
  omega
theorem wd_core (b R X D : Nat) (hX : X < b) (hRD : R < D) : (R * b + X) / D < b ∧ (R * b + X) % D < D ∧ R * b + X = (R * b + X) / D * D + (R * b + X) % D := by
  have h1 : (R + 1) * b ≤ D * b := Nat.mul_le_mul_right b hRD
  rw [Nat.add_mul] at h1
  have hD : 0 < D := by omega
  refine ⟨?_, Nat.mod_lt _ hD, ?_⟩
  · rw [Nat.div_lt_iff_lt_mul hD, Nat.mul_comm b D]; omega
  · rw [Nat.mul_comm (_ / D) D]; exact (Nat.div_add_mod _ D).symm
theorem wd_cast (b R X D : Nat) : ((R : Int) * (b : Int) + (X : Int)) / (D : Int) = (((R * b + X) / D : Nat) : Int) ∧ ((R : Int) * (b : Int) + (X : Int)) % (D : Int) = (((R * b + X) % D : Nat) : Int) := by
  constructor <;> push_cast <;> rfl
theorem wd_digit_b (b : Nat) {r x d : Int} (hr : 0 ≤ r) (hrd : r < d) (hx0 : 0 ≤ x) (hx : x < (b : Int)) :
    (0 ≤ (r * (b : Int) + x) / d ∧ (r * (b : Int) + x) / d < (b : Int)) ∧ (0 ≤ (r * (b : Int) + x) % d ∧ (r * (b : Int) + x) % d < d) ∧ r.toNat * b + x.toNat = ((r * (b : Int) + x) / d).toNat * d.toNat + ((r * (b : Int) + x) % d).toNat := by
  obtain ⟨D, rfl⟩ := Int.eq_ofNat_of_zero_le (show 0 ≤ d by omega)
  obtain ⟨R, rfl⟩ := Int.eq_ofNat_of_zero_le hr
  obtain ⟨X, rfl⟩ := Int.eq_ofNat_of_zero_le hx0
  have c := wd_core b R X D (by omega) (by omega)
  have e := wd_cast b R X D
  rw [e.1, e.2]
  clear e
  generalize (R * b + X) / D = Q at *
  generalize (R * b + X) % D = M at *
  obtain ⟨c1, c2, c3⟩ := c
  refine ⟨⟨by omega, by omega⟩, ⟨by omega, by omega⟩, ?_⟩
  simp only [Int.toNat_natCast]
  exact c3
theorem W_int : ((W : Nat) : Int) = 18446744073709551616 := by unfold W; rfl
theorem wd_digit {r x d : Int} (hr : 0 ≤ r) (hrd : r < d) (hx : U x) :
    U ((r * 18446744073709551616 + x) / d) ∧ (0 ≤ (r * 18446744073709551616 + x) % d ∧ (r * 18446744073709551616 + x) % d < d) ∧ r.toNat * W + x.toNat = ((r * 18446744073709551616 + x) / d).toNat * d.toNat + ((r * 18446744073709551616 + x) % d).toNat := by
  have h := wd_digit_b W hr hrd hx.1 (by rw [W_int]; exact hx.2)
  rw [W_int] at h
  exact h
theorem wdInv_step {xs qs : List Int} {d r t r' : Int} {k : Nat} (h : WdInv xs d (k + 1) r qs) (hk : k < xs.length) (ht : U t) (hr' : 0 ≤ r' ∧ r' < d)
    (e : r.toNat * W + (xs.getD k 0).toNat = t.toNat * d.toNat + r'.toNat) : WdInv xs d k r' (qs.set k t) := by
  obtain ⟨h1, h2, h3, h4⟩ := h
  refine ⟨by rw [List.length_set, h1], h2.set _ ht.1 (by have := ht.2; unfold W; omega), hr', ?_⟩
  rw [valB_drop_set _ _ _ (by omega), valB_drop W xs k]
  exact wd_alg _ _ _ _ _ _ _ _ h4 e
theorem wdInv_end {xs qs : List Int} {d r : Int} (h : WdInv xs d 0 r qs) : val qs = val xs / d.toNat ∧ r.toNat = val xs % d.toNat := by
  obtain ⟨h1, h2, h3, h4⟩ := h
  simp only [List.drop_zero] at h4
  have hd : 0 < d.toNat := by omega
  have hr : r.toNat < d.toNat := by omega
  unfold val
  rw [← h4, Nat.mul_comm]
  exact ⟨by rw [Nat.mul_add_div hd, Nat.div_eq_of_lt hr, Nat.add_zero], by rw [Nat.mul_add_mod, Nat.mod_eq_of_lt hr]⟩

/-! ### digits of a long quotient -/
/-- where a long division stands: the digits from k on are found; us is what is left -/
def DivInv (A V n m k : Nat) (us qs : List Int) : Prop :=
  (us.length = m + n ∧ Dg W us) ∧ (qs.length = m ∧ Dg W qs) ∧ valB W qs * V + valB W us = A ∧ (∀ j, j < k → qs.getD j 0 = 0) ∧ valB W (us.drop k) < V
theorem divInv_0 {A V n m : Nat} {us : List Int} (h1 : us.length = m + n) (h2 : Dg W us) (h3 : valB W us = A) (h4 : A < W ^ m * V) : DivInv A V n m m us (List.replicate m 0) := by
  refine ⟨⟨h1, h2⟩, ⟨by simp, Dg.zeros W_pos _⟩, by rw [valB_zeros]; omega, fun j _ => getD_zeros _ j, ?_⟩
  rw [← valB_div W_pos h2, h3]
  rw [Nat.div_lt_iff_lt_mul (Nat.pow_pos W_pos), Nat.mul_comm]
  exact h4
theorem div_part {A V n m i : Nat} {us qs : List Int} (h : DivInv A V n m (i + 1) us qs) (hV : V ≤ W ^ n) (hi : i < m) :
    ((us.drop i).take (n + 1)).length = n + 1 ∧ valB W (us.drop (i + (n + 1))) = 0 ∧ valB W (us.drop i) = val ((us.drop i).take (n + 1)) ∧ val ((us.drop i).take (n + 1)) < W * V := by
  obtain ⟨⟨h1, h2⟩, h3, h4, h5, h6⟩ := h
  have e0 := valB_split W (us.drop (i + 1)) n
  rw [List.drop_drop] at e0
  have z : valB W (us.drop (i + 1 + n)) = 0 := by
    rcases Nat.eq_zero_or_pos (valB W (us.drop (i + 1 + n))) with z | z
    · exact z
    · exfalso
      have : W ^ n * 1 ≤ W ^ n * valB W (us.drop (i + 1 + n)) := Nat.mul_le_mul_left _ z
      omega
  have e1 := valB_split W (us.drop i) (n + 1)
  rw [List.drop_drop, show i + (n + 1) = i + 1 + n by omega, z, Nat.mul_zero, Nat.add_zero] at e1
  have e2 := valB_drop W us i
  have hu := h2.at_ W_pos i
  refine ⟨by rw [List.length_take, List.length_drop]; omega, by rw [show i + (n + 1) = i + 1 + n by omega]; exact z, e1, ?_⟩
  unfold val
  rw [← e1, e2]
  have : W * (valB W (us.drop (i + 1)) + 1) ≤ W * V := Nat.mul_le_mul_left _ h6
  rw [Nat.mul_add] at this
  omega
/-- part of a list was replaced by a number -/
def Replaced (zs : List Int) (off L v : Nat) (ys : List Int) : Prop :=
  ys.length = zs.length ∧ Dg W ys ∧ ys.take off = zs.take off ∧ ys.drop (off + L) = zs.drop (off + L) ∧ valB W ((ys.drop off).take L) = v
theorem div_alg (q V T p r t D : Nat) {A Q : Nat} (h : q * V + (T + D * p) = A) (hp : p = t * V + r) (hQ : Q = q + D * t) : Q * V + (T + D * r) = A := by
  subst hQ hp h
  grind
theorem divInv_step {A V n m i p : Nat} {us qs ys : List Int} {t : Nat} (h : DivInv A V n m (i + 1) us qs) (hV : V ≤ W ^ n) (hi : i < m) (hp : p = val ((us.drop i).take (n + 1)))
    (ht : t = p / V) (hV0 : 0 < V) (hr : Replaced us i (n + 1) (p % V) ys) : DivInv A V n m i ys (qs.set i (t : Int)) ∧ t < W := by
  have hpart := div_part h hV hi
  obtain ⟨⟨h1, h2⟩, ⟨h3, h3'⟩, h4, h5, h6⟩ := h
  obtain ⟨r1, r2, r3, r4, r5⟩ := hr
  obtain ⟨p1, p2, p3, p4⟩ := hpart
  rw [← hp] at p3 p4
  have htW : t < W := by rw [ht, Nat.div_lt_iff_lt_mul hV0]; exact p4
  have ed : valB W (ys.drop i) = p % V := by
    rw [valB_split W (ys.drop i) (n + 1), r5, List.drop_drop, r4, p2]; omega
  refine ⟨⟨⟨by rw [r1, h1], r2⟩, ⟨by rw [List.length_set, h3], h3'.set _ (by omega) (by omega)⟩, ?_, fun j hj => ?_, ?_⟩, htW⟩
  · have e1 := valB_split W us i
    have e2 := valB_split W ys i
    rw [r3, ed] at e2
    rw [p3] at e1
    have hq := set_val W qs i (by omega) t (h5 i (by omega))
    rw [e2]
    rw [e1] at h4
    have hdm := Nat.div_add_mod p V
    exact div_alg _ _ _ _ _ _ _ h4 (by rw [ht, Nat.mul_comm]; exact hdm.symm) hq
  · rw [getD_set_ne _ (by omega)]
    exact h5 j (by omega)
  · rw [ed]; exact Nat.mod_lt _ hV0
/-- an estimate from the two highest words and the highest one of the divisor is not too small -/
theorem est_ge {ps vs : List Int} {n : Nat} (hp : ps.length = n + 1) (hdp : Dg W ps) (hv : vs.length = n) (hdv : Dg W vs) (hn : 1 ≤ n) (h0 : 0 < (vs.getD (n - 1) 0).toNat) :
    val ps / val vs ≤ ((ps.getD n 0).toNat * W + (ps.getD (n - 1) 0).toNat) / (vs.getD (n - 1) 0).toNat := by
  have e1 : val ps / W ^ (n - 1) = (ps.getD n 0).toNat * W + (ps.getD (n - 1) 0).toNat := by
    unfold val
    rw [valB_div W_pos hdp, valB_drop, show n - 1 + 1 = n by omega, valB_drop, List.drop_eq_nil_of_le (by omega)]
    simp [valB]
    rw [Nat.mul_comm]
    omega
  have e2 : W ^ (n - 1) * (vs.getD (n - 1) 0).toNat ≤ val vs := by
    unfold val
    rw [valB_split W vs (n - 1), valB_drop, show n - 1 + 1 = n by omega, List.drop_eq_nil_of_le (by omega)]
    simp [valB]
  rw [← e1, Nat.div_div_eq_div_mul]
  exact Nat.div_le_div_left e2 (Nat.mul_pos (Nat.pow_pos W_pos) h0)
/-- the divisor and the dividend, shifted -/
theorem norm_div {a b n la s : Nat} (hb : W ^ (n - 1) * 2 ^ (63 - s) ≤ b) (hb2 : b < W ^ (n - 1) * 2 ^ (64 - s)) (hn : 1 ≤ n) (hs : s ≤ 63) (ha : a < W ^ la) (hla : n ≤ la) :
    W ^ (n - 1) ≤ b * 2 ^ s ∧ b * 2 ^ s ≤ W ^ n ∧ b * 2 ^ s < W ^ n ∧ a * 2 ^ s < W ^ (la + 1) ∧ a * 2 ^ s < W ^ (la - n + 1) * (b * 2 ^ s) := by
  have p0 : 0 < 2 ^ s := Nat.two_pow_pos s
  have e1 : W ^ (n - 1) * 2 ^ 63 ≤ b * 2 ^ s := by
    have := Nat.mul_le_mul_right (2 ^ s) hb
    rw [Nat.mul_assoc, ← Nat.pow_add, show 63 - s + s = 63 by omega] at this
    exact this
  have e2 : b * 2 ^ s < W ^ n := by
    have := Nat.mul_lt_mul_of_pos_right hb2 p0
    rw [Nat.mul_assoc, ← Nat.pow_add, show 64 - s + s = 64 by omega, ← W_pow, ← Nat.pow_succ, show (n - 1).succ = n by omega] at this
    exact this
  have hs2 : 2 ^ s ≤ 2 ^ 63 := Nat.pow_le_pow_right (by omega) hs
  have e3 : a * 2 ^ s < W ^ la * 2 ^ 63 := by
    have h1 : a * 2 ^ s < W ^ la * 2 ^ s := Nat.mul_lt_mul_of_pos_right ha p0
    have h2 : W ^ la * 2 ^ s ≤ W ^ la * 2 ^ 63 := Nat.mul_le_mul_left _ hs2
    omega
  refine ⟨Nat.le_trans ?_ e1, Nat.le_of_lt e2, e2, ?_, ?_⟩
  · exact Nat.le_mul_of_pos_right _ (by decide)
  · rw [Nat.pow_succ]
    have : W ^ la * 2 ^ 63 ≤ W ^ la * W := Nat.mul_le_mul_left _ (by decide)
    omega
  · have : W ^ la * 2 ^ 63 ≤ W ^ (la - n + 1) * (b * 2 ^ s) := by
      have h1 := Nat.mul_le_mul_left (W ^ (la - n + 1)) e1
      rw [← Nat.mul_assoc, ← Nat.pow_add, show la - n + 1 + (n - 1) = la by omega] at h1
      exact h1
    omega
theorem div_end {A V n m a b s : Nat} {us qs : List Int} (h : DivInv A V n m 0 us qs) (hA : A = a * 2 ^ s) (hV : V = b * 2 ^ s) : val qs = a / b ∧ val us / 2 ^ s = a % b := by
  obtain ⟨_, _, h4, _, h6⟩ := h
  simp only [List.drop_zero] at h6
  have p0 : 0 < 2 ^ s := Nat.two_pow_pos s
  unfold val
  rw [Nat.mul_comm] at h4
  have hq : valB W qs = A / V := by rw [← h4, Nat.mul_add_div (by omega), Nat.div_eq_of_lt h6, Nat.add_zero]
  have hr : valB W us = A % V := by rw [← h4, Nat.mul_add_mod, Nat.mod_eq_of_lt h6]
  rw [hq, hr, hA, hV, Nat.mul_div_mul_right _ _ p0, Nat.mul_mod_mul_right, Nat.mul_div_cancel _ p0]
  exact ⟨rfl, rfl⟩
/-- the highest word of a normalized list, and how far it can be shifted -/
theorem top_word {xs : List Int} (hd : Dg W xs) {n : Nat} (hl : xs.length = n) (hn : 1 ≤ n) (h0 : xs.getD (n - 1) 0 ≠ 0) :
    ∃ s, s ≤ 63 ∧ blen (xs.getD (n - 1) 0).toNat + s = 64 ∧ W ^ (n - 1) * 2 ^ (63 - s) ≤ val xs ∧ val xs < W ^ (n - 1) * 2 ^ (64 - s) := by
  have ht := hd.at_ W_pos (n - 1)
  generalize e : (xs.getD (n - 1) 0).toNat = x
  have hx0 : 0 < x := by omega
  have hxW : x < 2 ^ 64 := by rw [← W_pow]; omega
  have b1 := blen_le hxW
  have b2 := blen_pos hx0
  have b3 := blen_lt x
  have b4 := blen_self hx0
  refine ⟨64 - blen x, by omega, by omega, ?_, ?_⟩
  all_goals
    have e1 := valB_split W xs (n - 1)
    rw [valB_drop, show n - 1 + 1 = n by omega, List.drop_eq_nil_of_le (by omega), e] at e1
    have hz : valB W [] = 0 := rfl
    rw [hz, Nat.mul_zero, Nat.add_zero] at e1
    have e2 := valB_take_lt W_pos hd (n - 1)
    unfold val
    rw [e1]
  · rw [show 63 - (64 - blen x) = blen x - 1 by omega]
    have := Nat.mul_le_mul_left (W ^ (n - 1)) b4
    omega
  · rw [show 64 - (64 - blen x) = blen x by omega]
    have := Nat.mul_le_mul_left (W ^ (n - 1)) (show x + 1 ≤ 2 ^ blen x by omega)
    rw [Nat.mul_add] at this
    omega
theorem words_len_ge {v k : Nat} (h : W ^ k ≤ v) : k + 1 ≤ (words v).length := by
  rcases Nat.lt_or_ge (words v).length (k + 1) with hl | hl
  · exfalso
    have h1 := valB_lt (words_Dg v)
    have h2 : valB W (words v) = v := val_words v
    have h3 : W ^ (words v).length ≤ W ^ k := Nat.pow_le_pow_right W_pos (by omega)
    omega
  · exact hl

/-! ### roots -/
/-- the root of a number, rounded down -/
def rt : Nat → Nat
  | 0 => 0
  | a + 1 => if (rt a + 1) * (rt a + 1) ≤ a + 1 then rt a + 1 else rt a
theorem sq_succ (r : Nat) : (r + 1) * (r + 1) = r * r + 2 * r + 1 := by grind
theorem rt_spec (a : Nat) : rt a * rt a ≤ a ∧ a < (rt a + 1) * (rt a + 1) := by
  induction a with
  | zero => simp [rt]
  | succ a ih =>
    unfold rt
    split
    · rename_i h
      refine ⟨h, ?_⟩
      have := sq_succ (rt a)
      have := sq_succ (rt a + 1)
      omega
    · rename_i h
      exact ⟨by omega, by omega⟩
theorem rt_unique {a r : Nat} (h1 : r * r ≤ a) (h2 : a < (r + 1) * (r + 1)) : rt a = r := by
  obtain ⟨g1, g2⟩ := rt_spec a
  rcases Nat.lt_trichotomy (rt a) r with h | h | h
  · exfalso
    have := Nat.mul_le_mul (show rt a + 1 ≤ r by omega) (show rt a + 1 ≤ r by omega)
    omega
  · exact h
  · exfalso
    have := Nat.mul_le_mul (show r + 1 ≤ rt a by omega) (show r + 1 ≤ rt a by omega)
    omega
theorem rt_pos {a : Nat} (h : 0 < a) : 0 < rt a := by
  rcases Nat.eq_zero_or_pos (rt a) with e | e
  · have := (rt_spec a).2; rw [e] at this; omega
  · exact e
theorem newton_ge {a x : Nat} (hx : 0 < x) : rt a ≤ (x + a / x) / 2 := by
  obtain ⟨g1, _⟩ := rt_spec a
  generalize rt a = s at *
  rcases Nat.lt_or_ge (2 * s) x with h | h
  · generalize a / x = q
    omega
  · have k : 2 * s - x ≤ a / x := by
      rw [Nat.le_div_iff_mul_le hx]
      refine Nat.le_trans ?_ g1
      obtain ⟨d, hd⟩ : ∃ d, 2 * s = x + d := ⟨2 * s - x, by omega⟩
      rw [show 2 * s - x = d by omega]
      have e4 : (x + d) * (x + d) = 4 * (s * s) := by rw [← hd]; grind
      have e5 : (x + d) * (x + d) = x * x + d * d + 2 * (d * x) := by grind
      rcases Nat.le_total x d with hle | hle
      · obtain ⟨c, rfl⟩ : ∃ c, d = x + c := ⟨d - x, by omega⟩
        have e6 : (x + c) * (x + c) = x * x + c * c + 2 * (c * x) := by grind
        have e7 : (x + c) * x = x * x + c * x := by grind
        omega
      · obtain ⟨c, rfl⟩ : ∃ c, x = d + c := ⟨x - d, by omega⟩
        have e6 : (d + c) * (d + c) = d * d + c * c + 2 * (c * d) := by grind
        have e7 : d * (d + c) = d * d + c * d := by grind
        omega
    generalize a / x = q at *
    omega
theorem newton_stop {a x : Nat} (hx : 0 < x) (hge : rt a ≤ x) (h : x ≤ (x + a / x) / 2) : x = rt a := by
  have h1 : x ≤ a / x := by omega
  rw [Nat.le_div_iff_mul_le hx] at h1
  obtain ⟨g1, g2⟩ := rt_spec a
  rcases Nat.lt_or_ge (rt a) x with hl | hl
  · exfalso
    have := Nat.mul_le_mul (show rt a + 1 ≤ x by omega) (show rt a + 1 ≤ x by omega)
    omega
  · omega
theorem rt_start {a k : Nat} (h : a < 2 ^ (2 * k)) : rt a ≤ 2 ^ k := by
  obtain ⟨g1, _⟩ := rt_spec a
  rcases Nat.lt_or_ge (2 ^ k) (rt a) with hl | hl
  · exfalso
    have := Nat.mul_le_mul (Nat.le_of_lt hl) (Nat.le_of_lt hl)
    rw [← Nat.pow_add, show k + k = 2 * k by omega] at this
    omega
  · exact hl
theorem rt_sq (a : Nat) : rt (a * a) = a := rt_unique (Nat.le_refl _) (by have := sq_succ a; omega)

end Go.Proofs.Ytmoahgiklgicgaa
