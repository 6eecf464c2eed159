/-
  Plain mathematics of decimal texts: a number's digits, reading them back, their order, groups of nineteen digits, division by ten. No Go function in sight.
-/
import Derived.Test.YtnheefhbchkbdaaGreatDoorNatMath
namespace Go.Proofs.YtnheefhbchkbdaaGreatDoor
set_option maxRecDepth 100000
set_option linter.unusedVariables false
set_option linter.unusedSimpArgs false

/-! ### the text of a number -/
def dig8 (d : Nat) : UInt8 := UInt8.ofNat (48 + d)
theorem dig8_toNat {d : Nat} (h : d < 10) : (dig8 d).toNat = 48 + d := by
  unfold dig8
  rw [UInt8.toNat_ofNat']
  omega
theorem dig8_back {c : UInt8} (h : 48 ≤ c.toNat) : dig8 (c.toNat - 48) = c := by
  unfold dig8
  rw [show 48 + (c.toNat - 48) = c.toNat by omega]
  exact UInt8.ofNat_toNat
theorem dig8_48 {d : Nat} (h : d < 10) : dig8 d = 48 ↔ d = 0 := by
  constructor
  · intro e
    have := congrArg UInt8.toNat e
    rw [dig8_toNat h] at this
    have e2 : (48 : UInt8).toNat = 48 := rfl
    omega
  · rintro rfl; rfl
/-- the digits, none for 0 -/
def txt0F : Nat → Nat → List UInt8
  | 0, _ => []
  | f + 1, n => if n = 0 then [] else txt0F f (n / 10) ++ [dig8 (n % 10)]
def txt0 (n : Nat) : List UInt8 := txt0F n n
theorem txt0F_zero (f : Nat) : txt0F f 0 = [] := by cases f <;> simp [txt0F]
theorem txt0F_fuel (f n : Nat) (h : n ≤ f) : txt0F f n = txt0F n n := by
  induction n using Nat.strongRecOn generalizing f with
  | ind n ih =>
    by_cases h0 : n = 0
    · subst h0; rw [txt0F_zero, txt0F_zero]
    · obtain ⟨f, rfl⟩ : ∃ g, f = g + 1 := ⟨f - 1, by omega⟩
      obtain ⟨m, rfl⟩ : ∃ m, n = m + 1 := ⟨n - 1, by omega⟩
      rw [txt0F, txt0F, if_neg h0, if_neg h0, ih _ (by omega) f (by omega), ih _ (by omega) m (by omega)]
theorem txt0_zero : txt0 0 = [] := rfl
theorem txt0_step {n : Nat} (h : n ≠ 0) : txt0 n = txt0 (n / 10) ++ [dig8 (n % 10)] := by
  obtain ⟨m, rfl⟩ : ∃ m, n = m + 1 := ⟨n - 1, by omega⟩
  unfold txt0
  rw [txt0F, if_neg h, txt0F_fuel _ _ (by omega)]
/-- the text -/
def txt (n : Nat) : List UInt8 := if n = 0 then [48] else txt0 n
theorem txt0_ne {n : Nat} (h : n ≠ 0) : txt0 n ≠ [] := by rw [txt0_step h]; simp
theorem txt_of {n : Nat} {l : List UInt8} (e : l = txt0 n) : (if l = [] then [48] else l) = txt n := by
  subst e
  unfold txt
  by_cases h : n = 0
  · subst h; rfl
  · rw [if_neg h, if_neg (txt0_ne h)]

/-! ### digits of a given number of places -/
def digs : Nat → Nat → List UInt8
  | 0, _ => []
  | L + 1, n => digs L (n / 10) ++ [dig8 (n % 10)]
theorem digs_length (L n : Nat) : (digs L n).length = L := by
  induction L generalizing n with
  | zero => rfl
  | succ L ih => rw [digs, List.length_append, ih]; rfl
theorem dropWhile_snoc (p : UInt8 → Bool) (l : List UInt8) (c : UInt8) : (l ++ [c]).dropWhile p = if l.dropWhile p = [] then (if p c then [] else [c]) else l.dropWhile p ++ [c] := by
  induction l with
  | nil => by_cases h : p c <;> simp [List.dropWhile, h]
  | cons a l ih =>
    by_cases h : p a
    · simp only [List.cons_append, List.dropWhile_cons, h, if_true]; exact ih
    · simp [List.dropWhile_cons, h]
theorem digs_trim (L n : Nat) (h : n < 10 ^ L) : (digs L n).dropWhile (· == 48) = txt0 n := by
  induction L generalizing n with
  | zero =>
    have : n = 0 := by simpa using h
    subst this; rfl
  | succ L ih =>
    have hd : n / 10 < 10 ^ L := by rw [Nat.pow_succ] at h; omega
    rw [digs, dropWhile_snoc, ih _ hd]
    by_cases h0 : n = 0
    · subst h0; rfl
    · rw [txt0_step h0]
      by_cases h1 : n / 10 = 0
      · rw [h1, txt0_zero, if_pos rfl, if_neg]
        · rfl
        · have hm : n % 10 ≠ 0 := by omega
          have := mt (dig8_48 (Nat.mod_lt n (by omega : 10 > 0))).1 hm
          simpa using this
      · rw [if_neg (txt0_ne h1)]
theorem digs_at (L n i : Nat) (h : i < L) : (digs L n)[L - 1 - i]? = some (dig8 (n / 10 ^ i % 10)) := by
  induction L generalizing n i with
  | zero => omega
  | succ L ih =>
    rw [digs]
    rcases i with _ | i
    · rw [List.getElem?_append_right (by rw [digs_length]; omega), digs_length]
      simp
    · rw [List.getElem?_append_left (by rw [digs_length]; omega), show L + 1 - 1 - (i + 1) = L - 1 - i by omega, ih _ _ (by omega), Nat.div_div_eq_div_mul, Nat.pow_succ, Nat.mul_comm 10]

/-! ### reading -/
def rd (l : List UInt8) : Nat := l.foldl (fun v c => v * 10 + (c.toNat - 48)) 0
theorem rd_snoc (l : List UInt8) (c : UInt8) : rd (l ++ [c]) = rd l * 10 + (c.toNat - 48) := by unfold rd; simp
theorem rd_txt0 (n : Nat) : rd (txt0 n) = n := by
  induction n using Nat.strongRecOn with
  | ind n ih =>
    by_cases h0 : n = 0
    · subst h0; rfl
    · rw [txt0_step h0, rd_snoc, ih _ (by omega), dig8_toNat (Nat.mod_lt _ (by omega))]
      omega
theorem rd_txt (n : Nat) : rd (txt n) = n := by
  unfold txt
  split
  · next h => subst h; rfl
  · exact rd_txt0 n
/-- a text is a number's -/
def IsNum (l : List UInt8) : Prop := l ≠ [] ∧ (l.head? = some 48 → l = [48]) ∧ ∀ c ∈ l, 48 ≤ c.toNat ∧ c.toNat ≤ 57
theorem txt0_digits (n : Nat) : ∀ c ∈ txt0 n, 48 ≤ c.toNat ∧ c.toNat ≤ 57 := by
  induction n using Nat.strongRecOn with
  | ind n ih =>
    by_cases h0 : n = 0
    · subst h0; intro c hc; rw [txt0_zero] at hc; cases hc
    · intro c hc
      rw [txt0_step h0, List.mem_append] at hc
      rcases hc with hc | hc
      · exact ih _ (by omega) c hc
      · simp only [List.mem_singleton] at hc
        subst hc
        have hm := Nat.mod_lt n (by omega : 10 > 0)
        rw [dig8_toNat hm]
        omega
theorem txt0_head {n : Nat} (h : n ≠ 0) : (txt0 n).head? ≠ some 48 := by
  induction n using Nat.strongRecOn with
  | ind n ih =>
    rw [txt0_step h]
    by_cases h1 : n / 10 = 0
    · rw [h1, txt0_zero]
      have hm : n % 10 ≠ 0 := by omega
      have := mt (dig8_48 (Nat.mod_lt n (by omega : 10 > 0))).1 hm
      simpa using this
    · have := ih _ (by omega) h1
      have hne := txt0_ne h1
      cases e : txt0 (n / 10) with
      | nil => exact absurd e hne
      | cons a l => rw [e] at this; simpa using this
theorem txt_isNum (n : Nat) : IsNum (txt n) := by
  unfold txt
  split
  · exact ⟨by simp, fun _ => rfl, by intro c hc; simp only [List.mem_singleton] at hc; subst hc; decide⟩
  · next h => exact ⟨txt0_ne h, fun e => absurd e (txt0_head h), txt0_digits n⟩
theorem txt_back0 (k : Nat) : ∀ l : List UInt8, l.length = k → l ≠ [] → l.head? ≠ some 48 → (∀ c ∈ l, 48 ≤ c.toNat ∧ c.toNat ≤ 57) → rd l ≠ 0 ∧ txt0 (rd l) = l := by
  induction k with
  | zero => intro l hl hne; exact absurd (List.eq_nil_of_length_eq_zero hl) hne
  | succ k ih =>
    intro l hl hne hh hd
    obtain ⟨p, c, rfl⟩ : ∃ p c, l = p ++ [c] := ⟨l.dropLast, l.getLast hne, (List.dropLast_concat_getLast hne).symm⟩
    have hc := hd c (by simp)
    rw [rd_snoc]
    by_cases hp : p = []
    · subst hp
      have hc48 : c ≠ 48 := by simpa using hh
      have h48 : c.toNat ≠ 48 := fun e => hc48 (by rw [← UInt8.ofNat_toNat (x := c), e]; rfl)
      have e0 : rd [] = 0 := rfl
      rw [e0]
      have hne0 : 0 * 10 + (c.toNat - 48) ≠ 0 := by omega
      refine ⟨hne0, ?_⟩
      rw [txt0_step hne0, show (0 * 10 + (c.toNat - 48)) / 10 = 0 by omega, show (0 * 10 + (c.toNat - 48)) % 10 = c.toNat - 48 by omega, txt0_zero, dig8_back hc.1]
    · obtain ⟨h1, h2⟩ := ih p (by simpa using hl) hp (by cases p with | nil => exact absurd rfl hp | cons a q => simpa using hh) (fun x hx => hd x (by simp [hx]))
      have hne0 : rd p * 10 + (c.toNat - 48) ≠ 0 := by omega
      refine ⟨hne0, ?_⟩
      rw [txt0_step hne0, show (rd p * 10 + (c.toNat - 48)) / 10 = rd p by omega, show (rd p * 10 + (c.toNat - 48)) % 10 = c.toNat - 48 by omega, h2, dig8_back hc.1]
theorem txt_rd {l : List UInt8} (h : IsNum l) : txt (rd l) = l := by
  by_cases hh : l.head? = some 48
  · rw [h.2.1 hh]; rfl
  · obtain ⟨h1, h2⟩ := txt_back0 l.length l rfl h.1 hh h.2.2
    unfold txt
    rw [if_neg h1]
    exact h2

/-! ### lengths and order -/
theorem txt0_digs (n : Nat) : txt0 n = digs (txt0 n).length n := by
  induction n using Nat.strongRecOn with
  | ind n ih =>
    by_cases h0 : n = 0
    · subst h0; rfl
    · have e := txt0_step h0
      have hl : (txt0 n).length = (txt0 (n / 10)).length + 1 := by rw [e]; simp
      rw [hl, digs, ← ih _ (by omega)]
      exact e
theorem txt0_lt (n : Nat) : n < 10 ^ (txt0 n).length := by
  induction n using Nat.strongRecOn with
  | ind n ih =>
    by_cases h0 : n = 0
    · subst h0; simp [txt0_zero]
    · have hl : (txt0 n).length = (txt0 (n / 10)).length + 1 := by rw [txt0_step h0]; simp
      have := ih _ (show n / 10 < n by omega)
      rw [hl, Nat.pow_succ]
      omega
theorem txt0_ge {n : Nat} (h : n ≠ 0) : 10 ^ ((txt0 n).length - 1) ≤ n := by
  induction n using Nat.strongRecOn with
  | ind n ih =>
    have hl : (txt0 n).length = (txt0 (n / 10)).length + 1 := by rw [txt0_step h]; simp
    rw [hl, Nat.add_sub_cancel]
    by_cases h1 : n / 10 = 0
    · rw [h1, txt0_zero]; simp; omega
    · have h2 := ih _ (by omega) h1
      have h3 : 0 < (txt0 (n / 10)).length := List.length_pos_iff.2 (txt0_ne h1)
      have h4 : 10 ^ (txt0 (n / 10)).length = 10 ^ ((txt0 (n / 10)).length - 1) * 10 := by rw [← Nat.pow_succ]; congr 1; omega
      omega
theorem txt0_len {n L : Nat} (h : n < 10 ^ L) : (txt0 n).length ≤ L := by
  by_cases h0 : n = 0
  · subst h0; simp [txt0_zero]
  · have h1 := txt0_ge h0
    have h2 := Nat.lt_of_le_of_lt h1 h
    have := (Nat.pow_lt_pow_iff_right (by omega : 1 < 10)).1 h2
    omega
theorem txt_len {n L : Nat} (h : n < 10 ^ L) (hL : 0 < L) : (txt n).length ≤ L := by
  unfold txt
  split
  · simp; omega
  · exact txt0_len h
theorem txt_digs (n : Nat) : txt n = digs (txt n).length n ∧ n < 10 ^ (txt n).length ∧ 0 < (txt n).length ∧ (1 < (txt n).length → 10 ^ ((txt n).length - 1) ≤ n) := by
  unfold txt
  split
  · next h => subst h; exact ⟨rfl, by decide, by decide, fun h => by simp at h⟩
  · next h => exact ⟨txt0_digs n, txt0_lt n, List.length_pos_iff.2 (txt0_ne h), fun _ => txt0_ge h⟩
theorem bytesLess_snoc (p q : List UInt8) (a b : UInt8) (h : p.length = q.length) : Op.bytesLess (p ++ [a]) (q ++ [b]) = (Op.bytesLess p q || (p == q && decide (a < b))) := by
  induction p generalizing q with
  | nil =>
    cases q with
    | nil => simp [Op.bytesLess]
    | cons y q => simp at h
  | cons x p ih =>
    cases q with
    | nil => simp at h
    | cons y q =>
      have := ih q (by simpa using h)
      simp only [List.cons_append, Op.bytesLess, this]
      by_cases hxy : x = y
      · subst hxy; simp
      · have e1 : (x == y) = false := by simp [hxy]
        simp [e1, hxy]
theorem digs_inj (L m n : Nat) (hm : m < 10 ^ L) (hn : n < 10 ^ L) (h : digs L m = digs L n) : m = n := by
  induction L generalizing m n with
  | zero => simp at hm hn; omega
  | succ L ih =>
    rw [digs, digs] at h
    rw [Nat.pow_succ] at hm hn
    have h1 := List.append_inj h (by rw [digs_length, digs_length])
    have h2 := ih (m / 10) (n / 10) (by omega) (by omega) h1.1
    have h3 : dig8 (m % 10) = dig8 (n % 10) := by simpa using h1.2
    have h4 := congrArg UInt8.toNat h3
    rw [dig8_toNat (Nat.mod_lt _ (by omega)), dig8_toNat (Nat.mod_lt _ (by omega))] at h4
    omega
theorem digs_less (L m n : Nat) (hm : m < 10 ^ L) (hn : n < 10 ^ L) : Op.bytesLess (digs L m) (digs L n) = decide (m < n) := by
  induction L generalizing m n with
  | zero =>
    simp at hm hn
    subst hm hn
    rfl
  | succ L ih =>
    rw [Nat.pow_succ] at hm hn
    rw [digs, digs, bytesLess_snoc _ _ _ _ (by rw [digs_length, digs_length]), ih _ _ (by omega) (by omega)]
    have e : decide (dig8 (m % 10) < dig8 (n % 10)) = decide (m % 10 < n % 10) := by
      rw [decide_eq_decide, UInt8.lt_iff_toNat_lt, dig8_toNat (Nat.mod_lt _ (by omega)), dig8_toNat (Nat.mod_lt _ (by omega))]
      omega
    rw [e]
    by_cases h1 : m / 10 = n / 10
    · rw [h1]
      rw [Bool.eq_iff_iff]
      simp
      omega
    · have h2 : (digs L (m / 10) == digs L (n / 10)) = false := by
        rw [beq_eq_false_iff_ne]
        exact fun h => h1 (digs_inj L _ _ (by omega) (by omega) h)
      rw [h2, Bool.eq_iff_iff]
      simp
      omega
theorem txt_less (m n : Nat) : (decide ((txt m).length < (txt n).length) || (decide ((txt m).length = (txt n).length) && Op.bytesLess (txt m) (txt n))) = decide (m < n) := by
  obtain ⟨m1, m2, m3, m4⟩ := txt_digs m
  obtain ⟨n1, n2, n3, n4⟩ := txt_digs n
  rcases Nat.lt_trichotomy (txt m).length (txt n).length with h | h | h
  · have h5 := n4 (by omega)
    have h6 : 10 ^ (txt m).length ≤ 10 ^ ((txt n).length - 1) := Nat.pow_le_pow_right (by omega) (by omega)
    rw [decide_eq_true h, decide_eq_true (by omega : m < n)]
    rfl
  · rw [decide_eq_false (by omega), decide_eq_true h, Bool.false_or, Bool.true_and]
    rw [m1, n1, h]
    rw [h] at m2
    exact digs_less _ _ _ m2 n2
  · have h5 := m4 (by omega)
    have h6 : 10 ^ (txt n).length ≤ 10 ^ ((txt m).length - 1) := Nat.pow_le_pow_right (by omega) (by omega)
    rw [decide_eq_false (by omega), decide_eq_false (by omega), decide_eq_false (by omega : ¬ m < n)]
    rfl
theorem W_le_ten : W ≤ 10 ^ 20 := by unfold W; decide
theorem words20 {n : Nat} (h : n < W ^ 20) : n < 10 ^ (20 * 20) := by
  have := Nat.pow_le_pow_left W_le_ten 20
  rw [← Nat.pow_mul] at this
  omega

/-! ### groups of nineteen digits -/
def B : Nat := 10000000000000000000
theorem B_eq : B = 10 ^ 19 := by decide
theorem B_pos : 0 < B := by unfold B; omega
theorem B_le_W : B ≤ W := by unfold B W; omega
theorem W_le_BB : W ≤ B ^ 2 := by unfold B W; decide
/-- the groups so far, and what is left -/
def SpInv (n : Nat) (R : Nat) (gs : List Int) : Prop := Dg B gs ∧ valB B gs + B ^ gs.length * R = n
theorem spInv_0 (n : Nat) : SpInv n (n / B) [((n % B : Nat) : Int)] := by
  refine ⟨Dg.cons (by omega) (by have := Nat.mod_lt n B_pos; omega) (Dg.nil _), ?_⟩
  simp only [valB, List.length_cons, List.length_nil, Nat.pow_succ, Nat.pow_zero, Nat.one_mul, Int.toNat_natCast, Nat.mul_zero, Nat.add_zero, Nat.zero_add]
  exact Nat.mod_add_div n B
theorem spInv_step {n R : Nat} {gs : List Int} (h : SpInv n R gs) : SpInv n (R / B) (gs ++ [((R % B : Nat) : Int)]) := by
  obtain ⟨hd, he⟩ := h
  refine ⟨hd.snoc (by omega) (by have := Nat.mod_lt R B_pos; omega), ?_⟩
  rw [valB_snoc, List.length_append, Int.toNat_natCast]
  simp only [List.length_cons, List.length_nil, Nat.zero_add, Nat.pow_succ]
  rw [Nat.mul_assoc, Nat.add_assoc, ← Nat.mul_add, Nat.mod_add_div]
  exact he
theorem spInv_small {n R N : Nat} {gs : List Int} (h : SpInv n R gs) (hn : n < W ^ N) (hR : 0 < R) : gs.length < 2 * N := by
  have h1 : B ^ gs.length ≤ n := by
    rw [← h.2]
    have := Nat.le_mul_of_pos_right (B ^ gs.length) hR
    omega
  have h2 : W ^ N ≤ B ^ (2 * N) := by
    have := Nat.pow_le_pow_left W_le_BB N
    rwa [← Nat.pow_mul] at this
  exact (Nat.pow_lt_pow_iff_right (by unfold B; omega)).1 (Nat.lt_of_le_of_lt h1 (Nat.lt_of_lt_of_le hn h2))
theorem spInv_end {n : Nat} {gs : List Int} (h : SpInv n 0 gs) : Dg B gs ∧ valB B gs = n := ⟨h.1, by have := h.2; rw [Nat.mul_zero, Nat.add_zero] at this; exact this⟩

theorem digit_lemma (g R r c : Nat) (hr : r < c) : (g + 10 ^ c * R) / 10 ^ r % 10 = g / 10 ^ r % 10 := by
  have e : 10 ^ c * R = 10 ^ r * (10 * (10 ^ (c - r - 1) * R)) := by
    rw [← Nat.mul_assoc, ← Nat.mul_assoc, ← Nat.pow_succ, ← Nat.pow_add]
    congr 2
    omega
  rw [e, Nat.add_mul_div_left _ _ (Nat.pow_pos (by omega)), Nat.add_mul_mod_self_left]
theorem group_digit {gs : List Int} (hd : Dg B gs) (k : Nat) : valB B gs / 10 ^ k % 10 = (gs.getD (k / 19) 0).toNat / 10 ^ (k % 19) % 10 := by
  have e : 10 ^ k = B ^ (k / 19) * 10 ^ (k % 19) := by
    rw [B_eq, ← Nat.pow_mul, ← Nat.pow_add]
    congr 1
    omega
  rw [e, ← Nat.div_div_eq_div_mul, valB_div B_pos hd, valB_drop, B_eq]
  exact digit_lemma _ _ _ _ (Nat.mod_lt _ (by omega))
/-- the groups and the text when k digits are written -/
def ShInv (gs : List Int) (L k : Nat) (hs zs : List Int) : Prop :=
  (hs.length = gs.length ∧ Dg B hs ∧ (∀ j, k / 19 < j → hs.getD j 0 = gs.getD j 0) ∧ hs.getD (k / 19) 0 = (((gs.getD (k / 19) 0).toNat / 10 ^ (k % 19) : Nat) : Int)) ∧
  (zs.length = L ∧ ∀ i, i < k → zs.getD (L - 1 - i) 0 = ((48 + valB B gs / 10 ^ i % 10 : Nat) : Int))
theorem shInv_0 {gs : List Int} (hd : Dg B gs) (L : Nat) : ShInv gs L 0 gs (List.replicate L 0) :=
  ⟨⟨rfl, hd, fun _ _ => rfl, by rw [Nat.zero_div, Nat.zero_mod, Nat.pow_zero, Nat.div_one]; exact (Dg_toNat (hd.at_ B_pos 0)).symm⟩, by simp, fun i h => by omega⟩
theorem shInv_digit {gs hs zs : List Int} {L k : Nat} (hd : Dg B gs) (h : ShInv gs L k hs zs) : (hs.getD (k / 19) 0).tmod 10 = ((valB B gs / 10 ^ k % 10 : Nat) : Int) := by
  rw [h.1.2.2.2, group_digit hd]
  rfl
theorem getD_set_eq (zs : List Int) (k j : Nat) (x : Int) : (zs.set k x).getD j 0 = if k = j ∧ k < zs.length then x else zs.getD j 0 := by
  by_cases h : k = j
  · subst h
    by_cases hk : k < zs.length
    · rw [if_pos ⟨rfl, hk⟩, getD_set_self _ hk]
    · rw [if_neg (by omega), List.set_eq_of_length_le (by omega)]
  · rw [if_neg (by omega), getD_set_ne _ h]
theorem shInv_step {gs hs zs : List Int} {L k : Nat} {v d : Int} (hd : Dg B gs) (h : ShInv gs L k hs zs) (hk : k < L) (hL : L ≤ 19 * gs.length) (hv : v = (hs.getD (k / 19) 0).tdiv 10) (hdg : d = ((48 + valB B gs / 10 ^ k % 10 : Nat) : Int)) :
    ShInv gs L (k + 1) (hs.set (k / 19) v) (zs.set (L - 1 - k) d) := by
  obtain ⟨⟨h1, h2, h3, h4⟩, h5, h6⟩ := h
  have hq : k / 19 < gs.length := by omega
  have hv2 : v = (((gs.getD (k / 19) 0).toNat / 10 ^ (k % 19) / 10 : Nat) : Int) := by rw [hv, h4]; rfl
  have hb := h2.at_ B_pos (k / 19)
  have hv3 : 0 ≤ v ∧ v < (B : Int) := by
    rw [hv2]
    rw [h4] at hb
    have := Nat.div_le_self ((gs.getD (k / 19) 0).toNat / 10 ^ (k % 19)) 10
    omega
  refine ⟨⟨by rw [List.length_set]; exact h1, h2.set _ hv3.1 hv3.2, fun j hj => ?_, ?_⟩, by rw [List.length_set]; exact h5, fun i hi => ?_⟩
  · rw [getD_set_ne _ (by omega)]
    exact h3 j (by omega)
  · by_cases hr : k % 19 = 18
    · rw [show (k + 1) / 19 = k / 19 + 1 by omega, show (k + 1) % 19 = 0 by omega, getD_set_ne _ (by omega), h3 _ (by omega), Nat.pow_zero, Nat.div_one]
      exact (Dg_toNat (hd.at_ B_pos _)).symm
    · rw [show (k + 1) / 19 = k / 19 by omega, show (k + 1) % 19 = k % 19 + 1 by omega, getD_set_self _ (by omega), hv2, Nat.div_div_eq_div_mul, Nat.pow_succ]
  · by_cases hik : i = k
    · subst hik
      rw [getD_set_self _ (by omega), hdg]
    · rw [getD_set_ne _ (by omega)]
      exact h6 i (by omega)
theorem shInv_end {gs hs zs : List Int} {L : Nat} (h : ShInv gs L L hs zs) : (zs.map fun z => UInt8.ofNat z.toNat) = digs L (valB B gs) := by
  obtain ⟨_, h5, h6⟩ := h
  apply List.ext_getElem?
  intro j
  by_cases hj : j < L
  · have e : j = L - 1 - (L - 1 - j) := by omega
    have h7 := h6 (L - 1 - j) (by omega)
    have h8 := digs_at L (valB B gs) (L - 1 - j) (by omega)
    rw [← e] at h7 h8
    rw [h8, List.getElem?_map, List.getElem?_eq_getElem (by omega)]
    rw [List.getD_eq_getElem?_getD, List.getElem?_eq_getElem (by omega)] at h7
    simp only [Option.getD_some] at h7
    rw [Option.map_some, h7, Int.toNat_natCast]
    rfl
  · rw [List.getElem?_eq_none (by rw [List.length_map]; omega), List.getElem?_eq_none (by rw [digs_length]; omega)]

/-! ### by ten, half word by half word -/
theorem toNat_join {r x c : Int} (hr : 0 ≤ r) (hx : 0 ≤ x) (hc : c = r * 4294967296 + x) : c.toNat = r.toNat * 4294967296 + x.toNat := by
  rw [hc, Int.toNat_add (Int.mul_nonneg hr (by decide)) hx, Int.toNat_mul hr (by decide)]
  rfl
theorem H_eq : H = 4294967296 := rfl
def TenInv (hs : List Int) (k : Nat) (r : Int) (qs : List Int) : Prop :=
  qs.length = hs.length ∧ Dg H qs ∧ 0 ≤ r ∧ r < 10 ∧ (∀ j, j < k → qs.getD j 0 = hs.getD j 0) ∧ valB H (hs.drop k) = 10 * valB H (qs.drop k) + r.toNat
theorem tenInv_0 {hs : List Int} (hd : Dg H hs) : TenInv hs hs.length 0 hs := by
  refine ⟨rfl, hd, by omega, by omega, fun _ _ => rfl, ?_⟩
  rw [List.drop_length]
  rfl
theorem ten_step (b h Q r c : Nat) (hc : c = r * b + h) : h + b * (10 * Q + r) = 10 * (c / 10 + b * Q) + c % 10 := by
  have e1 : b * (10 * Q + r) = 10 * (b * Q) + r * b := by rw [Nat.mul_add, Nat.mul_left_comm, Nat.mul_comm r b]
  have e2 : 10 * (c / 10 + b * Q) = 10 * (c / 10) + 10 * (b * Q) := Nat.mul_add _ _ _
  rw [e1, e2]
  omega
theorem tenInv_step {hs qs : List Int} {k : Nat} {r c : Int} (hd : Dg H hs) (h : TenInv hs (k + 1) r qs) (hk : k < hs.length) (hc : c = r * 4294967296 + qs.getD k 0) :
    TenInv hs k (c.tmod 10) (qs.set k (c.tdiv 10)) ∧ 0 ≤ c ∧ c < 42949672960 := by
  obtain ⟨h1, h2, h3, h4, h5, h6⟩ := h
  have e := h5 k (by omega)
  have hb := hd.at_ H_pos k
  rw [e] at hc
  have hH : (H : Int) = 4294967296 := rfl
  have hc0 : 0 ≤ c ∧ c < 42949672960 := by omega
  have et : c.tmod 10 = c % 10 := Int.tmod_eq_emod_of_nonneg hc0.1
  have ed : c.tdiv 10 = c / 10 := Int.tdiv_eq_ediv_of_nonneg hc0.1
  rw [et, ed]
  refine ⟨⟨by rw [List.length_set]; exact h1, h2.set _ (by omega) (by omega), by omega, by omega, fun j hj => ?_, ?_⟩, hc0⟩
  · rw [getD_set_ne _ (by omega)]
    exact h5 j (by omega)
  · have hset : (qs.set k (c / 10)).drop (k + 1) = qs.drop (k + 1) := by
      rw [List.drop_set]
      simp
    rw [valB_drop, valB_drop H (qs.set k (c / 10)), hset, getD_set_self _ (by omega), h6]
    have e7 : (c / 10).toNat = c.toNat / 10 := by omega
    have e8 : (c % 10).toNat = c.toNat % 10 := by omega
    rw [e7, e8]
    have e9 : c.toNat = r.toNat * 4294967296 + (hs.getD k 0).toNat := toNat_join h3 hb.1 hc
    exact ten_step H _ _ _ _ (by rw [H_eq]; exact e9)
theorem tenInv_end {hs qs : List Int} {r : Int} (h : TenInv hs 0 r qs) : valB H qs = valB H hs / 10 ∧ r = ((valB H hs % 10 : Nat) : Int) := by
  have h6 := h.2.2.2.2.2
  rw [List.drop_zero, List.drop_zero] at h6
  have := h.2.2.1
  have := h.2.2.2.1
  omega
end Go.Proofs.YtnheefhbchkbdaaGreatDoor
