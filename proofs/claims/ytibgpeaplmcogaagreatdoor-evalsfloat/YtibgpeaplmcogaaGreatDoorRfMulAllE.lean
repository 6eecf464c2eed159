/-
  What the document's Sqrt of layer 12 (gradineref12) returns for any word. Condition: the word is below 2^64.
-/
import Derived.Test.YtibgpeaplmcogaaGreatDoorRfOfAllE
import Derived.Test.YtibgpeaplmcogaaGreatDoorRefProdAllE
import Derived.Test.YtibgpeaplmcogaaGreatDoorRefGcdAllE
import Derived.Test.YtibgpeaplmcogaaGreatDoorRefDivAllE
namespace Go.Proofs.YtibgpeaplmcogaaGreatDoor
set_option maxRecDepth 100000
open Go.RowKit
set_option linter.unusedVariables false
set_option linter.unusedSimpArgs false

theorem one_W {x : Nat} (h : x < 9007199254740992) : x < W ^ 1 := by rw [Nat.pow_one]; unfold W; omega

set_option maxRecDepth 100000 in
set_option maxHeartbeats 8000000 in
theorem rf_mul {a b : Nat} (ha : a < 18446744073709551616) (hb : b < 18446744073709551616) (w : World) :
    Calls Tryz.prog 114 #[.int .u64 a, .int .u64 b] w (RetW (fmul a b) w) := by
  have K1 := Lib.hid (rf_kind ha w)
  have K2 := Lib.hid (rf_kind hb w)
  have N1 := Lib.hid (rf_neg ha w)
  have N2 := Lib.hid (rf_neg hb w)
  have NN := Lib.hid (rf_nan w)
  have II := Lib.hid (rf_inf (ng a != ng b) w)
  have c1 := kd_cases a
  have c2 := kd_cases b
  have hF : fmul a b = if kd a = 4 ∨ kd b = 4 ∨ (kd a = 3 ∧ kd b = 0) ∨ (kd a = 0 ∧ kd b = 3) then NAN else if kd a = 3 ∨ kd b = 3 then sg (ng a != ng b) INF else sg (ng a != ng b) (magR (sig a * sig b) 1 (xpo a + xpo b)) := rfl
  have FIN : ∀ (h1 : kd a ≤ 2) (h2 : kd b ≤ 2), ∃ (x y z : Nat) (ax bx e : Int), (x < 9007199254740992 ∧ y < 9007199254740992 ∧ -3000 ≤ ax ∧ ax ≤ 3000 ∧ -3000 ≤ bx ∧ bx ≤ 3000 ∧ ax + bx = e) ∧
      Calls Tryz.prog 181 #[.int .u64 a] w (fun e w' => e = .returned (.tuple #[.int .u64 x, .int .i64 ax]) ∧ w = w') ∧
      Calls Tryz.prog 181 #[.int .u64 b] w (fun e w' => e = .returned (.tuple #[.int .u64 y, .int .i64 bx]) ∧ w = w') ∧
      (∀ w A A' n n' c c', Sl w A n c [(x : Int)] → Sl w A' n' c' [(y : Int)] → Calls Tryz.prog 144 #[.slice A n c, .slice A' n' c'] w (RetSl (words z) w)) ∧
      (∀ w A n c, Sl w A n c (words z) → Calls Tryz.prog 177 #[.bool (ng a != ng b), .slice A n c, .int .i64 e] w (RetW (sg (ng a != ng b) (magR (sig a * sig b) 1 (xpo a + xpo b))) w)) := by
    intro h1 h2
    have f1 := c1.2.1 h1
    have f2 := c2.2.1 h2
    have r1 := xpo_range f1
    have r2 := xpo_range f2
    have l1 := sig_lt a
    have l2 := sig_lt b
    have hz := mul_lt_powW (one_W l1) (one_W l2)
    refine ⟨sig a, sig b, sig a * sig b, xpo a, xpo b, _, ⟨l1, l2, by omega, by omega, by omega, by omega, rfl⟩, rf_parts ha w, rf_parts hb w, ?_, ?_⟩
    · intro w A A' n n' c c' t1 t2
      have e1 := t1.len
      have e2 := t2.len
      have M := ref_nmul t1 t2 (by simp at e1; omega) (by simp at e2; omega)
      rw [val_one, val_one, Int.toNat_natCast, Int.toNat_natCast] at M
      exact M
    · intro w A n c t
      have W1 := rf_of (ng a != ng b) t (Nat.le_trans (t.small hz) (by decide)) (e := xpo a + xpo b) (by omega) (by omega)
      rw [val_words] at W1
      exact W1
  generalize magR (sig a * sig b) 1 (xpo a + xpo b) = V at *
  replace c1 := c1.1
  replace c2 := c2.1
  generalize fmul a b = F at *
  generalize kd a = k at *
  generalize kd b = l at *
  obtain ⟨sn, hs⟩ : ∃ sn, (ng a != ng b) = sn := ⟨_, rfl⟩
  rw [hs] at hF II FIN
  generalize ng a = n1 at *
  generalize ng b = n2 at *
  have hs2 : (!(n1 == n2)) = sn := hs
  have hcl : (k = 4) ∨ (k ≠ 4 ∧ l = 4) ∨ (k = 3 ∧ l = 0) ∨ (k = 0 ∧ l = 3) ∨ (k = 3 ∧ (l ≠ 0 ∧ l ≠ 4)) ∨ ((k ≠ 0 ∧ k ≠ 3 ∧ k ≠ 4) ∧ l = 3) ∨ (k = 0 ∧ (l ≠ 3 ∧ l ≠ 4)) ∨ ((k ≠ 0 ∧ k ≠ 3 ∧ k ≠ 4) ∧ (l ≠ 3 ∧ l ≠ 4)) := by omega
  rcases hcl with h | h | h | h | h | h | h | h
  · have h0 := h
    subst h0
    rw [if_pos (.inl rfl)] at hF
    have HF := Lib.hid hF
    clear hF
    clear FIN
    go_enter Tryz.func114, Tryz.ntmps114
    go_wp2_with fail
    refine (K1.out).mono ?_
    rintro _ w' ⟨rfl, rfl⟩
    go_wp2_with fail
    refine (K2.out).mono ?_
    rintro _ w' ⟨rfl, rfl⟩
    go_wp2_with fail
    refine (N1.out).mono ?_
    rintro _ w' ⟨rfl, rfl⟩
    go_wp2_with fail
    refine (N2.out).mono ?_
    rintro _ w' ⟨rfl, rfl⟩
    go_wp2_with fail
    refine NN.out.mono ?_
    rintro _ w' ⟨rfl, rfl⟩
    go_wp2_with fail
    go_ret
    exact ⟨ret1 (by rw [HF.out]), Below.refl _ _⟩
  · obtain ⟨h0, h1⟩ := h
    have gk4 : ((k : Int) == 4) = false := by simp; omega
    subst h1
    rw [if_pos (.inr (.inl rfl))] at hF
    have HF := Lib.hid hF
    clear hF
    clear FIN
    go_enter Tryz.func114, Tryz.ntmps114
    go_wp2_with fail
    refine (K1.out).mono ?_
    rintro _ w' ⟨rfl, rfl⟩
    go_wp2_with fail
    refine (K2.out).mono ?_
    rintro _ w' ⟨rfl, rfl⟩
    go_wp2_with fail
    refine (N1.out).mono ?_
    rintro _ w' ⟨rfl, rfl⟩
    go_wp2_with fail
    refine (N2.out).mono ?_
    rintro _ w' ⟨rfl, rfl⟩
    go_wp2_with fail
    refine NN.out.mono ?_
    rintro _ w' ⟨rfl, rfl⟩
    go_wp2_with fail
    go_ret
    exact ⟨ret1 (by rw [HF.out]), Below.refl _ _⟩
  · obtain ⟨h0, h1⟩ := h
    subst h0
    subst h1
    rw [if_pos (.inr (.inr (.inl ⟨rfl, rfl⟩)))] at hF
    have HF := Lib.hid hF
    clear hF
    clear FIN
    go_enter Tryz.func114, Tryz.ntmps114
    go_wp2_with fail
    refine (K1.out).mono ?_
    rintro _ w' ⟨rfl, rfl⟩
    go_wp2_with fail
    refine (K2.out).mono ?_
    rintro _ w' ⟨rfl, rfl⟩
    go_wp2_with fail
    refine (N1.out).mono ?_
    rintro _ w' ⟨rfl, rfl⟩
    go_wp2_with fail
    refine (N2.out).mono ?_
    rintro _ w' ⟨rfl, rfl⟩
    go_wp2_with fail
    refine NN.out.mono ?_
    rintro _ w' ⟨rfl, rfl⟩
    go_wp2_with fail
    go_ret
    exact ⟨ret1 (by rw [HF.out]), Below.refl _ _⟩
  · obtain ⟨h0, h1⟩ := h
    subst h0
    subst h1
    rw [if_pos (.inr (.inr (.inr ⟨rfl, rfl⟩)))] at hF
    have HF := Lib.hid hF
    clear hF
    clear FIN
    go_enter Tryz.func114, Tryz.ntmps114
    go_wp2_with fail
    refine (K1.out).mono ?_
    rintro _ w' ⟨rfl, rfl⟩
    go_wp2_with fail
    refine (K2.out).mono ?_
    rintro _ w' ⟨rfl, rfl⟩
    go_wp2_with fail
    refine (N1.out).mono ?_
    rintro _ w' ⟨rfl, rfl⟩
    go_wp2_with fail
    refine (N2.out).mono ?_
    rintro _ w' ⟨rfl, rfl⟩
    go_wp2_with fail
    refine NN.out.mono ?_
    rintro _ w' ⟨rfl, rfl⟩
    go_wp2_with fail
    go_ret
    exact ⟨ret1 (by rw [HF.out]), Below.refl _ _⟩
  · obtain ⟨h0, h1⟩ := h
    have hc0 : ¬ (k = 4 ∨ l = 4 ∨ (k = 3 ∧ l = 0) ∨ (k = 0 ∧ l = 3)) := by omega
    subst h0
    have gl0 : ((l : Int) == 0) = false := by simp; omega
    have gl4 : ((l : Int) == 4) = false := by simp; omega
    rw [if_neg hc0, if_pos (.inl rfl)] at hF
    have HF := Lib.hid hF
    clear hF
    clear FIN
    go_enter Tryz.func114, Tryz.ntmps114
    go_wp2_with fail
    refine (K1.out).mono ?_
    rintro _ w' ⟨rfl, rfl⟩
    go_wp2_with fail
    refine (K2.out).mono ?_
    rintro _ w' ⟨rfl, rfl⟩
    go_wp2_with fail
    refine (N1.out).mono ?_
    rintro _ w' ⟨rfl, rfl⟩
    go_wp2_with fail
    refine (N2.out).mono ?_
    rintro _ w' ⟨rfl, rfl⟩
    go_wp2_with fail
    refine II.out.mono ?_
    rintro _ w' ⟨rfl, rfl⟩
    go_wp2_with fail
    go_ret
    exact ⟨ret1 (by rw [HF.out]), Below.refl _ _⟩
  · obtain ⟨h0, h1⟩ := h
    have hc0 : ¬ (k = 4 ∨ l = 4 ∨ (k = 3 ∧ l = 0) ∨ (k = 0 ∧ l = 3)) := by omega
    have gk0 : ((k : Int) == 0) = false := by simp; omega
    have gk3 : ((k : Int) == 3) = false := by simp; omega
    have gk4 : ((k : Int) == 4) = false := by simp; omega
    subst h1
    rw [if_neg hc0, if_pos (.inr rfl)] at hF
    have HF := Lib.hid hF
    clear hF
    clear FIN
    go_enter Tryz.func114, Tryz.ntmps114
    go_wp2_with fail
    refine (K1.out).mono ?_
    rintro _ w' ⟨rfl, rfl⟩
    go_wp2_with fail
    refine (K2.out).mono ?_
    rintro _ w' ⟨rfl, rfl⟩
    go_wp2_with fail
    refine (N1.out).mono ?_
    rintro _ w' ⟨rfl, rfl⟩
    go_wp2_with fail
    refine (N2.out).mono ?_
    rintro _ w' ⟨rfl, rfl⟩
    go_wp2_with fail
    refine II.out.mono ?_
    rintro _ w' ⟨rfl, rfl⟩
    go_wp2_with fail
    go_ret
    exact ⟨ret1 (by rw [HF.out]), Below.refl _ _⟩
  · obtain ⟨h0, h1⟩ := h
    have hc0 : ¬ (k = 4 ∨ l = 4 ∨ (k = 3 ∧ l = 0) ∨ (k = 0 ∧ l = 3)) := by omega
    have hc1 : ¬ (k = 3 ∨ l = 3) := by omega
    subst h0
    have gl3 : ((l : Int) == 3) = false := by simp; omega
    have gl4 : ((l : Int) == 4) = false := by simp; omega
    rw [if_neg hc0, if_neg hc1] at hF
    have HF := Lib.hid hF
    clear hF
    obtain ⟨x, y, z, ax, bx, e, ⟨p1, p2, q2, q3, q4, q5, q6⟩, C1, C2, C3, C4⟩ := FIN (by omega) (by omega)
    have L1 := Lib.hid ((sl_lit w (x : Int) (by unfold U; omega)).below (below_alloc _ (.cells #[.int .u64 (y : Int)] 76)))
    have L2 := sl_lit (w.alloc (.cells #[.int .u64 (x : Int)] 76)) (y : Int) (by unfold U; omega)
    simp at L2
    have hbel := Lib.hid ((below_alloc w (.cells #[.int .u64 (x : Int)] 76)).alloc (by simp) (.cells #[.int .u64 (y : Int)] 76))
    have HL2 := Lib.hid L2
    have D1 := Lib.hid C1
    have D2 := Lib.hid C2
    have D3 := Lib.hid C3
    have D4 := Lib.hid C4
    clear C1 C2 C3 C4 FIN L2
    go_enter Tryz.func114, Tryz.ntmps114
    go_wp2_with fail
    refine (K1.out).mono ?_
    rintro _ w' ⟨rfl, rfl⟩
    go_wp2_with fail
    refine (K2.out).mono ?_
    rintro _ w' ⟨rfl, rfl⟩
    go_wp2_with fail
    refine (N1.out).mono ?_
    rintro _ w' ⟨rfl, rfl⟩
    go_wp2_with fail
    refine (N2.out).mono ?_
    rintro _ w' ⟨rfl, rfl⟩
    go_wp2_with fail
    refine (D1.out).mono ?_
    rintro _ w' ⟨rfl, rfl⟩
    go_wp2_with fail
    refine (D2.out).mono ?_
    rintro _ w' ⟨rfl, rfl⟩
    go_wp2_with fail
    with_reducible refine (D3.out _ _ _ _ _ _ _ L1.out HL2.out).mono ?_
    rintro _ w1 ⟨A1, n1, c1, rfl, t1, b1⟩
    go_wp2_with fail
    with_reducible refine (D4.out _ _ _ _ t1).mono ?_
    rintro _ w2 ⟨rfl, b2⟩
    go_wp2_with fail
    go_ret
    exact ⟨ret1 (by rw [HF.out]), bbw hbel.out (bbw b1 b2)⟩
  · obtain ⟨h0, h1⟩ := h
    have hc0 : ¬ (k = 4 ∨ l = 4 ∨ (k = 3 ∧ l = 0) ∨ (k = 0 ∧ l = 3)) := by omega
    have hc1 : ¬ (k = 3 ∨ l = 3) := by omega
    have gk0 : ((k : Int) == 0) = false := by simp; omega
    have gk3 : ((k : Int) == 3) = false := by simp; omega
    have gk4 : ((k : Int) == 4) = false := by simp; omega
    have gl3 : ((l : Int) == 3) = false := by simp; omega
    have gl4 : ((l : Int) == 4) = false := by simp; omega
    rw [if_neg hc0, if_neg hc1] at hF
    have HF := Lib.hid hF
    clear hF
    obtain ⟨x, y, z, ax, bx, e, ⟨p1, p2, q2, q3, q4, q5, q6⟩, C1, C2, C3, C4⟩ := FIN (by omega) (by omega)
    have L1 := Lib.hid ((sl_lit w (x : Int) (by unfold U; omega)).below (below_alloc _ (.cells #[.int .u64 (y : Int)] 76)))
    have L2 := sl_lit (w.alloc (.cells #[.int .u64 (x : Int)] 76)) (y : Int) (by unfold U; omega)
    simp at L2
    have hbel := Lib.hid ((below_alloc w (.cells #[.int .u64 (x : Int)] 76)).alloc (by simp) (.cells #[.int .u64 (y : Int)] 76))
    have HL2 := Lib.hid L2
    have D1 := Lib.hid C1
    have D2 := Lib.hid C2
    have D3 := Lib.hid C3
    have D4 := Lib.hid C4
    clear C1 C2 C3 C4 FIN L2
    go_enter Tryz.func114, Tryz.ntmps114
    go_wp2_with fail
    refine (K1.out).mono ?_
    rintro _ w' ⟨rfl, rfl⟩
    go_wp2_with fail
    refine (K2.out).mono ?_
    rintro _ w' ⟨rfl, rfl⟩
    go_wp2_with fail
    refine (N1.out).mono ?_
    rintro _ w' ⟨rfl, rfl⟩
    go_wp2_with fail
    refine (N2.out).mono ?_
    rintro _ w' ⟨rfl, rfl⟩
    go_wp2_with fail
    refine (D1.out).mono ?_
    rintro _ w' ⟨rfl, rfl⟩
    go_wp2_with fail
    refine (D2.out).mono ?_
    rintro _ w' ⟨rfl, rfl⟩
    go_wp2_with fail
    with_reducible refine (D3.out _ _ _ _ _ _ _ L1.out HL2.out).mono ?_
    rintro _ w1 ⟨A1, n1, c1, rfl, t1, b1⟩
    go_wp2_with fail
    with_reducible refine (D4.out _ _ _ _ t1).mono ?_
    rintro _ w2 ⟨rfl, b2⟩
    go_wp2_with fail
    go_ret
    exact ⟨ret1 (by rw [HF.out]), bbw hbel.out (bbw b1 b2)⟩

/-- doubled until it has 53 bits -/
def NormAt (s : Nat) (x : Int) (m : Nat) (e : Int) : Prop := ∃ i : Nat, m = s * 2 ^ i ∧ e = x - i ∧ m < 9007199254740992
theorem normAt_0 {s : Nat} {x : Int} (h : s < 9007199254740992) : NormAt s x s x := ⟨0, by rw [Nat.pow_zero, Nat.mul_one], by omega, h⟩
theorem normAt_next {s m : Nat} {x e : Int} (h : NormAt s x m e) (hm : m < 4503599627370496) : NormAt s x (m * 2) (e - 1) := by
  obtain ⟨i, rfl, rfl, _⟩ := h
  exact ⟨i + 1, by rw [Nat.pow_succ, Nat.mul_assoc], by omega, by omega⟩
theorem normAt_bounds {s m : Nat} {x e : Int} (h : NormAt s x m e) (hs : 0 < s) : 0 < m ∧ m < 9007199254740992 ∧ x - 53 ≤ e ∧ e ≤ x := by
  obtain ⟨i, rfl, rfl, h3⟩ := h
  have hp := Nat.two_pow_pos i
  refine ⟨Nat.mul_pos hs hp, h3, ?_, by omega⟩
  rcases Nat.lt_or_ge 53 i with hl | hl
  · exfalso
    have h4 : 2 ^ 53 ≤ 2 ^ i := Nat.pow_le_pow_right (by omega) (by omega)
    have h5 : 1 * 2 ^ i ≤ s * 2 ^ i := Nat.mul_le_mul_right _ hs
    omega
  · omega
theorem norm_blen {m : Nat} (h : 0 < m) (h2 : m < 4503599627370496) : blen (m * 2) = blen m + 1 ∧ blen m ≤ 52 := by
  have := blen_half (n := m * 2) (by omega)
  rw [show m * 2 / 2 = m by omega] at this
  exact ⟨this, blen_le (by omega)⟩
theorem normAt_end {a b m n : Nat} {e f : Int} (h1 : NormAt (sig a) (xpo a) m e) (h2 : NormAt (sig b) (xpo b) n f) (pa : 0 < sig a) (pb : 0 < sig b) (hm : 4503599627370496 ≤ m) :
    magM (m * 1024 * 18446744073709551616 / (n * 2048)) (e - f - 63) (decide (0 < m * 1024 * 18446744073709551616 % (n * 2048))) = magR (sig a) (sig b) (xpo a - xpo b) := by
  obtain ⟨i, rfl, rfl, h3⟩ := h1
  obtain ⟨j, rfl, rfl, h4⟩ := h2
  exact refdiv_round pa pb (by rw [B52_eq]; exact hm) (by rw [B52_eq]; exact h4)

set_option maxRecDepth 100000 in
set_option maxHeartbeats 8000000 in
theorem rf_div {a b : Nat} (ha : a < 18446744073709551616) (hb : b < 18446744073709551616) (w : World) :
    Calls Tryz.prog 115 #[.int .u64 a, .int .u64 b] w (RetW (fdiv a b) w) := by
  have K1 := Lib.hid (rf_kind ha w)
  have K2 := Lib.hid (rf_kind hb w)
  have N1 := Lib.hid (rf_neg ha w)
  have N2 := Lib.hid (rf_neg hb w)
  have NN := Lib.hid (rf_nan w)
  have II := Lib.hid (rf_inf (ng a != ng b) w)
  have c1 := kd_cases a
  have c2 := kd_cases b
  have hF : fdiv a b = if kd a = 4 ∨ kd b = 4 ∨ (kd a = 3 ∧ kd b = 3) ∨ (kd a = 0 ∧ kd b = 0) then NAN else if kd a = 3 ∨ kd b = 0 then sg (ng a != ng b) INF else if kd a = 0 ∨ kd b = 3 then sg (ng a != ng b) 0 else sg (ng a != ng b) (magR (sig a) (sig b) (xpo a - xpo b)) := rfl
  have ZZ : Calls Tryz.prog 107 #[.bool (ng a != ng b), .int .u64 0] w (RetW (sg (ng a != ng b) 0) w) := by
    have W0 := rf_signed (ng a != ng b) (b := 0) (by omega) w
    exact W0.mono (by rintro _ w' ⟨rfl, rfl⟩; exact ⟨rfl, Below.refl _ _⟩)
  have FIN : ∀ (h1 : kd a = 1 ∨ kd a = 2) (h2 : kd b = 1 ∨ kd b = 2), ∃ (x y : Nat) (ax bx : Int), (0 < x ∧ x < 9007199254740992 ∧ 0 < y ∧ y < 9007199254740992 ∧ -3000 ≤ ax ∧ ax ≤ 3000 ∧ -3000 ≤ bx ∧ bx ≤ 3000) ∧
      Calls Tryz.prog 181 #[.int .u64 a] w (fun e w' => e = .returned (.tuple #[.int .u64 x, .int .i64 ax]) ∧ w = w') ∧
      Calls Tryz.prog 181 #[.int .u64 b] w (fun e w' => e = .returned (.tuple #[.int .u64 y, .int .i64 bx]) ∧ w = w') ∧
      ∀ (m n : Nat) (e f : Int), NormAt x ax m e → NormAt y bx n f → 4503599627370496 ≤ m → 4503599627370496 ≤ n → ∃ q r : Nat, q < 18446744073709551616 ∧
        Calls Tryz.prog 182 #[.int .u64 ((m : Int) * 1024), .int .u64 0, .int .u64 ((n : Int) * 2048)] w (fun e w' => e = .returned (.tuple #[.int .u64 q, .int .u64 r, .bool true]) ∧ w = w') ∧
        Calls Tryz.prog 110 #[.bool (ng a != ng b), .slice (some ⟨w.heap.size, 0, none⟩) 1 1, .int .i64 (e - f - 63), .bool (decide (0 < r))] (w.alloc (.cells #[.int .u64 (q : Int)] 76)) (RetW (sg (ng a != ng b) (magR (sig a) (sig b) (xpo a - xpo b))) (w.alloc (.cells #[.int .u64 (q : Int)] 76))) := by
    intro h1 h2
    have f1 := c1.2.1 (by omega)
    have f2 := c2.2.1 (by omega)
    have p1 := sig_pos h1
    have p2 := sig_pos h2
    have r1 := xpo_range f1
    have r2 := xpo_range f2
    have l1 := sig_lt a
    have l2 := sig_lt b
    refine ⟨sig a, sig b, xpo a, xpo b, ⟨p1, l1, p2, l2, by omega, by omega, by omega, by omega⟩, rf_parts ha w, rf_parts hb w, ?_⟩
    intro m n e f nm nn hm hn
    obtain ⟨d1, d2, d3, d4⟩ := normAt_bounds nm p1
    obtain ⟨g1, g2, g3, g4⟩ := normAt_bounds nn p2
    have hq : m * 1024 * 18446744073709551616 / (n * 2048) < 18446744073709551616 := by
      rw [Nat.div_lt_iff_lt_mul (by omega)]
      omega
    refine ⟨m * 1024 * 18446744073709551616 / (n * 2048), m * 1024 * 18446744073709551616 % (n * 2048), hq, ?_, ?_⟩
    rotate_left
    · have W1 := rf_more (ng a != ng b) (sl_lit w ((m * 1024 * 18446744073709551616 / (n * 2048) : Nat) : Int) (by generalize m * 1024 * 18446744073709551616 / (n * 2048) = z at *; unfold U; omega)) (by omega) (e := e - f - 63) (by omega) (by omega) (decide (0 < m * 1024 * 18446744073709551616 % (n * 2048)))
      rw [val_one, Int.toNat_natCast, normAt_end nm nn p1 p2 hm] at W1
      exact W1
    · have M := ref_div_yes ((m : Int) * 1024) 0 ((n : Int) * 2048) (by unfold U; omega) (by unfold U; omega) (by unfold U; omega) (by omega) w
      have e1 : (m : Int) * 1024 * 18446744073709551616 + 0 = ((m * 1024 * 18446744073709551616 : Nat) : Int) := by omega
      have e2 : (n : Int) * 2048 = ((n * 2048 : Nat) : Int) := by omega
      rw [e1, e2] at M
      rw [e2, Int.natCast_ediv, Int.natCast_emod]
      exact M
  generalize magR (sig a) (sig b) (xpo a - xpo b) = V at *
  replace c1 := c1.1
  replace c2 := c2.1
  generalize fdiv a b = F at *
  generalize kd a = k at *
  generalize kd b = l at *
  obtain ⟨sn, hs⟩ : ∃ sn, (ng a != ng b) = sn := ⟨_, rfl⟩
  rw [hs] at hF II FIN ZZ
  generalize ng a = n1 at *
  generalize ng b = n2 at *
  have hs2 : (!(n1 == n2)) = sn := hs
  have HZ := Lib.hid ZZ
  clear ZZ
  have hcl : (k = 4) ∨ (k ≠ 4 ∧ l = 4) ∨ (k = 3 ∧ l = 3) ∨ (k = 0 ∧ l = 0) ∨ (k = 3 ∧ (l ≠ 3 ∧ l ≠ 4)) ∨ ((k ≠ 0 ∧ k ≠ 3 ∧ k ≠ 4) ∧ l = 0) ∨ (k = 0 ∧ (l ≠ 0 ∧ l ≠ 4)) ∨ ((k ≠ 0 ∧ k ≠ 3 ∧ k ≠ 4) ∧ l = 3) ∨ ((k ≠ 0 ∧ k ≠ 3 ∧ k ≠ 4) ∧ (l ≠ 0 ∧ l ≠ 3 ∧ l ≠ 4)) := by omega
  rcases hcl with h | h | h | h | h | h | h | h | h
  · have h0 := h
    subst h0
    rw [if_pos (.inl rfl)] at hF
    have HF := Lib.hid hF
    clear hF
    clear FIN
    go_enter Tryz.func115, Tryz.ntmps115
    go_wp2_with fail
    refine (K1.out).mono ?_
    rintro _ w' ⟨rfl, rfl⟩
    go_wp2_with fail
    refine (K2.out).mono ?_
    rintro _ w' ⟨rfl, rfl⟩
    go_wp2_with fail
    refine (N1.out).mono ?_
    rintro _ w' ⟨rfl, rfl⟩
    go_wp2_with fail
    refine (N2.out).mono ?_
    rintro _ w' ⟨rfl, rfl⟩
    go_wp2_with fail
    refine NN.out.mono ?_
    rintro _ w' ⟨rfl, rfl⟩
    go_wp2_with fail
    go_ret
    exact ⟨ret1 (by rw [HF.out]), Below.refl _ _⟩
  · obtain ⟨h0, h1⟩ := h
    have gk4 : ((k : Int) == 4) = false := by simp; omega
    subst h1
    rw [if_pos (.inr (.inl rfl))] at hF
    have HF := Lib.hid hF
    clear hF
    clear FIN
    go_enter Tryz.func115, Tryz.ntmps115
    go_wp2_with fail
    refine (K1.out).mono ?_
    rintro _ w' ⟨rfl, rfl⟩
    go_wp2_with fail
    refine (K2.out).mono ?_
    rintro _ w' ⟨rfl, rfl⟩
    go_wp2_with fail
    refine (N1.out).mono ?_
    rintro _ w' ⟨rfl, rfl⟩
    go_wp2_with fail
    refine (N2.out).mono ?_
    rintro _ w' ⟨rfl, rfl⟩
    go_wp2_with fail
    refine NN.out.mono ?_
    rintro _ w' ⟨rfl, rfl⟩
    go_wp2_with fail
    go_ret
    exact ⟨ret1 (by rw [HF.out]), Below.refl _ _⟩
  · obtain ⟨h0, h1⟩ := h
    subst h0
    subst h1
    rw [if_pos (.inr (.inr (.inl ⟨rfl, rfl⟩)))] at hF
    have HF := Lib.hid hF
    clear hF
    clear FIN
    go_enter Tryz.func115, Tryz.ntmps115
    go_wp2_with fail
    refine (K1.out).mono ?_
    rintro _ w' ⟨rfl, rfl⟩
    go_wp2_with fail
    refine (K2.out).mono ?_
    rintro _ w' ⟨rfl, rfl⟩
    go_wp2_with fail
    refine (N1.out).mono ?_
    rintro _ w' ⟨rfl, rfl⟩
    go_wp2_with fail
    refine (N2.out).mono ?_
    rintro _ w' ⟨rfl, rfl⟩
    go_wp2_with fail
    refine NN.out.mono ?_
    rintro _ w' ⟨rfl, rfl⟩
    go_wp2_with fail
    go_ret
    exact ⟨ret1 (by rw [HF.out]), Below.refl _ _⟩
  · obtain ⟨h0, h1⟩ := h
    subst h0
    subst h1
    rw [if_pos (.inr (.inr (.inr ⟨rfl, rfl⟩)))] at hF
    have HF := Lib.hid hF
    clear hF
    clear FIN
    go_enter Tryz.func115, Tryz.ntmps115
    go_wp2_with fail
    refine (K1.out).mono ?_
    rintro _ w' ⟨rfl, rfl⟩
    go_wp2_with fail
    refine (K2.out).mono ?_
    rintro _ w' ⟨rfl, rfl⟩
    go_wp2_with fail
    refine (N1.out).mono ?_
    rintro _ w' ⟨rfl, rfl⟩
    go_wp2_with fail
    refine (N2.out).mono ?_
    rintro _ w' ⟨rfl, rfl⟩
    go_wp2_with fail
    refine NN.out.mono ?_
    rintro _ w' ⟨rfl, rfl⟩
    go_wp2_with fail
    go_ret
    exact ⟨ret1 (by rw [HF.out]), Below.refl _ _⟩
  · obtain ⟨h0, h1⟩ := h
    have hc0 : ¬ (k = 4 ∨ l = 4 ∨ (k = 3 ∧ l = 3) ∨ (k = 0 ∧ l = 0)) := by omega
    subst h0
    have gl3 : ((l : Int) == 3) = false := by simp; omega
    have gl4 : ((l : Int) == 4) = false := by simp; omega
    rw [if_neg hc0, if_pos (.inl rfl)] at hF
    have HF := Lib.hid hF
    clear hF
    clear FIN
    go_enter Tryz.func115, Tryz.ntmps115
    go_wp2_with fail
    refine (K1.out).mono ?_
    rintro _ w' ⟨rfl, rfl⟩
    go_wp2_with fail
    refine (K2.out).mono ?_
    rintro _ w' ⟨rfl, rfl⟩
    go_wp2_with fail
    refine (N1.out).mono ?_
    rintro _ w' ⟨rfl, rfl⟩
    go_wp2_with fail
    refine (N2.out).mono ?_
    rintro _ w' ⟨rfl, rfl⟩
    go_wp2_with fail
    refine II.out.mono ?_
    rintro _ w' ⟨rfl, rfl⟩
    go_wp2_with fail
    go_ret
    exact ⟨ret1 (by rw [HF.out]), Below.refl _ _⟩
  · obtain ⟨h0, h1⟩ := h
    have hc0 : ¬ (k = 4 ∨ l = 4 ∨ (k = 3 ∧ l = 3) ∨ (k = 0 ∧ l = 0)) := by omega
    have gk0 : ((k : Int) == 0) = false := by simp; omega
    have gk3 : ((k : Int) == 3) = false := by simp; omega
    have gk4 : ((k : Int) == 4) = false := by simp; omega
    subst h1
    rw [if_neg hc0, if_pos (.inr rfl)] at hF
    have HF := Lib.hid hF
    clear hF
    clear FIN
    go_enter Tryz.func115, Tryz.ntmps115
    go_wp2_with fail
    refine (K1.out).mono ?_
    rintro _ w' ⟨rfl, rfl⟩
    go_wp2_with fail
    refine (K2.out).mono ?_
    rintro _ w' ⟨rfl, rfl⟩
    go_wp2_with fail
    refine (N1.out).mono ?_
    rintro _ w' ⟨rfl, rfl⟩
    go_wp2_with fail
    refine (N2.out).mono ?_
    rintro _ w' ⟨rfl, rfl⟩
    go_wp2_with fail
    refine II.out.mono ?_
    rintro _ w' ⟨rfl, rfl⟩
    go_wp2_with fail
    go_ret
    exact ⟨ret1 (by rw [HF.out]), Below.refl _ _⟩
  · obtain ⟨h0, h1⟩ := h
    have hc0 : ¬ (k = 4 ∨ l = 4 ∨ (k = 3 ∧ l = 3) ∨ (k = 0 ∧ l = 0)) := by omega
    have hc1 : ¬ (k = 3 ∨ l = 0) := by omega
    subst h0
    have gl0 : ((l : Int) == 0) = false := by simp; omega
    have gl4 : ((l : Int) == 4) = false := by simp; omega
    rw [if_neg hc0, if_neg hc1, if_pos (.inl rfl)] at hF
    have HF := Lib.hid hF
    clear hF
    clear FIN
    go_enter Tryz.func115, Tryz.ntmps115
    go_wp2_with fail
    refine (K1.out).mono ?_
    rintro _ w' ⟨rfl, rfl⟩
    go_wp2_with fail
    refine (K2.out).mono ?_
    rintro _ w' ⟨rfl, rfl⟩
    go_wp2_with fail
    refine (N1.out).mono ?_
    rintro _ w' ⟨rfl, rfl⟩
    go_wp2_with fail
    refine (N2.out).mono ?_
    rintro _ w' ⟨rfl, rfl⟩
    go_wp2_with fail
    with_reducible refine (HZ.out).mono ?_
    rintro _ w' ⟨rfl, bb⟩
    go_wp2_with fail
    go_ret
    exact ⟨ret1 (by rw [HF.out]), bb⟩
  · obtain ⟨h0, h1⟩ := h
    have hc0 : ¬ (k = 4 ∨ l = 4 ∨ (k = 3 ∧ l = 3) ∨ (k = 0 ∧ l = 0)) := by omega
    have hc1 : ¬ (k = 3 ∨ l = 0) := by omega
    have gk0 : ((k : Int) == 0) = false := by simp; omega
    have gk3 : ((k : Int) == 3) = false := by simp; omega
    have gk4 : ((k : Int) == 4) = false := by simp; omega
    subst h1
    rw [if_neg hc0, if_neg hc1, if_pos (.inr rfl)] at hF
    have HF := Lib.hid hF
    clear hF
    clear FIN
    go_enter Tryz.func115, Tryz.ntmps115
    go_wp2_with fail
    refine (K1.out).mono ?_
    rintro _ w' ⟨rfl, rfl⟩
    go_wp2_with fail
    refine (K2.out).mono ?_
    rintro _ w' ⟨rfl, rfl⟩
    go_wp2_with fail
    refine (N1.out).mono ?_
    rintro _ w' ⟨rfl, rfl⟩
    go_wp2_with fail
    refine (N2.out).mono ?_
    rintro _ w' ⟨rfl, rfl⟩
    go_wp2_with fail
    with_reducible refine (HZ.out).mono ?_
    rintro _ w' ⟨rfl, bb⟩
    go_wp2_with fail
    go_ret
    exact ⟨ret1 (by rw [HF.out]), bb⟩
  · obtain ⟨h0, h1⟩ := h
    have hc0 : ¬ (k = 4 ∨ l = 4 ∨ (k = 3 ∧ l = 3) ∨ (k = 0 ∧ l = 0)) := by omega
    have hc1 : ¬ (k = 3 ∨ l = 0) := by omega
    have hc2 : ¬ (k = 0 ∨ l = 3) := by omega
    have gk0 : ((k : Int) == 0) = false := by simp; omega
    have gk3 : ((k : Int) == 3) = false := by simp; omega
    have gk4 : ((k : Int) == 4) = false := by simp; omega
    have gl0 : ((l : Int) == 0) = false := by simp; omega
    have gl3 : ((l : Int) == 3) = false := by simp; omega
    have gl4 : ((l : Int) == 4) = false := by simp; omega
    rw [if_neg hc0, if_neg hc1, if_neg hc2] at hF
    have HF := Lib.hid hF
    clear hF
    obtain ⟨x, y, ax, bx, ⟨p0, p1, p2, p3, q2, q3, q4, q5⟩, C1, C2, C3⟩ := FIN (by omega) (by omega)
    have D1 := Lib.hid C1
    have D2 := Lib.hid C2
    have D3 := Lib.hid C3
    have P0 := Lib.hid p0
    have P1 := Lib.hid p1
    have P2 := Lib.hid p2
    have P3 := Lib.hid p3
    clear C1 C2 C3 FIN p0 p1 p2 p3
    go_enter Tryz.func115, Tryz.ntmps115
    go_wp2_with fail
    refine (K1.out).mono ?_
    rintro _ w' ⟨rfl, rfl⟩
    go_wp2_with fail
    refine (K2.out).mono ?_
    rintro _ w' ⟨rfl, rfl⟩
    go_wp2_with fail
    refine (N1.out).mono ?_
    rintro _ w' ⟨rfl, rfl⟩
    go_wp2_with fail
    refine (N2.out).mono ?_
    rintro _ w' ⟨rfl, rfl⟩
    go_wp2_with fail
    refine (D1.out).mono ?_
    rintro _ w' ⟨rfl, rfl⟩
    go_wp2_with fail
    refine (D2.out).mono ?_
    rintro _ w' ⟨rfl, rfl⟩
    go_wp2_with fail
    go_loop [8, 9] (fun v8 v9 => ∃ (m : Nat) (e : Int), v8 = .int .u64 m ∧ v9 = .int .i64 e ∧ NormAt x ax m e) (fun v8 _ => 60 - blen (intOf v8).toNat)
    case atStart => exact ⟨_, _, rfl, rfl, normAt_0 P1.out⟩
    case round =>
      obtain ⟨m, e, rfl, rfl, nm⟩ := hrel
      obtain ⟨d1, d2, d3, d4⟩ := normAt_bounds nm P0.out
      have HM := Lib.hid nm
      have i1 : 0 < (m : Int) := by omega
      have i2 : (m : Int) < 9007199254740992 := by omega
      clear nm
      by_cases hm : m < 4503599627370496
      · have HB := Lib.hid (norm_blen d1 hm)
        have HX := Lib.hid hm
        have i3 : (m : Int) < 4503599627370496 := by omega
        clear hm d1 d2
        go_wp2_with fail
        go_round
        case rel => exact ⟨m * 2, e - 1, by go_num, rfl, normAt_next HM.out HX.out⟩
        case measure => have h9 := HB.out; simp only [intOf, show ((m : Int) * 2).toNat = m * 2 by omega, Int.toNat_natCast]; omega
      · have HX := Lib.hid hm
        have i3 : ¬ (m : Int) < 4503599627370496 := by omega
        clear hm d1 d2
        go_wp2_with fail
        go_loop [10, 11] (fun v10 v11 => ∃ (n : Nat) (f : Int), v10 = .int .u64 n ∧ v11 = .int .i64 f ∧ NormAt y bx n f) (fun v10 _ => 60 - blen (intOf v10).toNat)
        case atStart => exact ⟨_, _, rfl, rfl, normAt_0 P3.out⟩
        case round =>
          obtain ⟨n, f, rfl, rfl, nn⟩ := hrel
          obtain ⟨e1, e2, e3, e4⟩ := normAt_bounds nn P2.out
          have HN := Lib.hid nn
          have j1 : 0 < (n : Int) := by omega
          have j2 : (n : Int) < 9007199254740992 := by omega
          clear nn
          by_cases hn : n < 4503599627370496
          · have HB := Lib.hid (norm_blen e1 hn)
            have HY := Lib.hid hn
            have j3 : (n : Int) < 4503599627370496 := by omega
            clear hn e1 e2
            go_wp2_with fail
            go_round
            case rel => exact ⟨n * 2, f - 1, by go_num, rfl, normAt_next HN.out HY.out⟩
            case measure => have h9 := HB.out; simp only [intOf, show ((n : Int) * 2).toNat = n * 2 by omega, Int.toNat_natCast]; omega
          · obtain ⟨q, r, hq, C4, C5⟩ := D3.out m n e f HM.out HN.out (by omega) (by omega)
            have j3 : ¬ (n : Int) < 4503599627370496 := by omega
            clear hn e1 e2
            have D4 := Lib.hid C4
            have D5 := Lib.hid C5
            clear C4 C5 D3
            go_wp2_with fail
            refine (D4.out).mono ?_
            rintro _ w' ⟨rfl, rfl⟩
            go_wp2_with fail
            with_reducible refine (D5.out).mono ?_
            rintro _ w2 ⟨rfl, b2⟩
            go_wp2_with fail
            go_ret
            exact ⟨ret1 (by rw [HF.out]), bbw (below_alloc w _) b2⟩

end Go.Proofs.YtibgpeaplmcogaaGreatDoor

namespace Go.Proofs.YtibgpeaplmcogaaGreatDoor
set_option maxRecDepth 100000
open Go.RowKit
set_option linter.unusedVariables false
set_option linter.unusedSimpArgs false

/-- where a root bit by bit stands -/
def RootInv (a k r : Nat) : Prop := r % 2 ^ k = 0 ∧ r * r ≤ a ∧ a < (r + 2 ^ k) * (r + 2 ^ k)
theorem rootInv_0 {a k : Nat} (h : a < 2 ^ (2 * k)) : RootInv a k 0 := by
  refine ⟨by simp, by omega, ?_⟩
  rw [Nat.zero_add, ← Nat.pow_add, show k + k = 2 * k by omega]
  exact h
theorem rootInv_free {a k r : Nat} (h : RootInv a (k + 1) r) : r / 2 ^ k % 2 = 0 := by
  have h1 := h.1
  obtain ⟨q, rfl⟩ : ∃ q, r = q * 2 ^ (k + 1) := ⟨r / 2 ^ (k + 1), by have := Nat.div_add_mod r (2 ^ (k + 1)); rw [h1, Nat.mul_comm] at this; omega⟩
  exact qbit_free q k
theorem rootInv_yes {a k r : Nat} (h : RootInv a (k + 1) r) (hle : (r + 2 ^ k) * (r + 2 ^ k) ≤ a) : RootInv a k (r + 2 ^ k) := by
  obtain ⟨h1, h2, h3⟩ := h
  refine ⟨?_, hle, ?_⟩
  · obtain ⟨q, rfl⟩ : ∃ q, r = q * 2 ^ (k + 1) := ⟨r / 2 ^ (k + 1), by have := Nat.div_add_mod r (2 ^ (k + 1)); rw [h1, Nat.mul_comm] at this; omega⟩
    rw [Nat.pow_succ, Nat.mul_comm (2 ^ k) 2, ← Nat.mul_assoc, ← Nat.succ_mul]
    exact Nat.mul_mod_left _ _
  · rw [Nat.add_assoc, show 2 ^ k + 2 ^ k = 2 ^ (k + 1) by rw [Nat.pow_succ]; omega]
    exact h3
theorem rootInv_no {a k r : Nat} (h : RootInv a (k + 1) r) (hlt : a < (r + 2 ^ k) * (r + 2 ^ k)) : RootInv a k r := by
  obtain ⟨h1, h2, h3⟩ := h
  refine ⟨?_, h2, hlt⟩
  obtain ⟨q, rfl⟩ : ∃ q, r = q * 2 ^ (k + 1) := ⟨r / 2 ^ (k + 1), by have := Nat.div_add_mod r (2 ^ (k + 1)); rw [h1, Nat.mul_comm] at this; omega⟩
  rw [Nat.pow_succ, Nat.mul_comm (2 ^ k) 2, ← Nat.mul_assoc]
  exact Nat.mul_mod_left _ _
theorem rootInv_end {a r : Nat} (h : RootInv a 0 r) : rt a = r := rt_unique h.2.1 (by simpa using h.2.2)
set_option maxHeartbeats 2000000 in
theorem ref_root {w : World} {A : Option Addr} {n c : Nat} {xs : List Int} (h : Sl w A n c xs) (hn : n ≤ 1000) :
    Calls Tryz.prog 183 #[.slice A n c] w (RetSl (words (rt (val xs))) w) := by
  have hbl := blen_val_le h
  have B := ref_bits h (by omega)
  have hlt := blen_lt (val xs)
  have CMP := fun w1 (hb : Below w.heap.size w w1) (B : Option Addr) (nb cb : Nat) (zs : List Int) (s : Sl w1 B nb cb zs) (hnb : nb ≤ 10000) => ref_cmp s (h.below hb) (by omega) (by omega)
  obtain ⟨L, hL⟩ : ∃ L, blen (val xs) = L := ⟨_, rfl⟩
  rw [hL] at hbl B hlt
  generalize val xs = a at *
  obtain ⟨k0, hk0⟩ : ∃ k, (L + 1) / 2 = k := ⟨_, rfl⟩
  have ek : ((L : Int) + 1) / 2 = (k0 : Int) := by omega
  have hini : RootInv a (k0 + 1) 0 := rootInv_0 (Nat.lt_of_lt_of_le hlt (Nat.pow_le_pow_right (by omega) (by omega)))
  have hkb : k0 ≤ 40000 := by omega
  obtain ⟨K, hK1, hK2⟩ : ∃ K : Nat, K ≤ 2000 ∧ 1900 ≤ K := ⟨2000, by omega, by omega⟩
  have HB := Lib.hid B
  have HI := Lib.hid hini
  have HCMP := Lib.hid CMP
  clear B hini CMP hL hk0 hlt
  go_enter Tryz.func183, Tryz.ntmps183
  go_wp2_with fail
  refine HB.out.mono ?_
  rintro e w' ⟨rfl, rfl⟩
  go_wp2_with fail
  rw [ek]
  clear ek
  go_loopw [3, 4] (fun rv iv wr => ∃ (k : Nat) (j : Int) (Br : Option Addr) (nr cr : Nat) (rs : List Int), k ≤ k0 + 1 ∧ j + 1 ≤ k ∧ (k : Int) ≤ j + 1 ∧ iv = .int .i64 j ∧ rv = .slice Br nr cr ∧ nr ≤ K ∧ Sl wr Br nr cr rs ∧ Hid (RootInv a k (val rs)) ∧ Below w.heap.size w wr) (fun _ iv _ => (intOf iv + 1).toNat)
  case atStart => exact ⟨k0 + 1, _, none, 0, 0, [], by omega, by omega, by omega, rfl, rfl, by omega, Sl.nil _ _ _, HI, Below.refl _ _⟩
  case round =>
    clear HI HB
    obtain ⟨k, j, Br, nr, cr, rs, hk, hj1, hj2, rfl, rfl, hnr, sr, HR, hb⟩ := hrel
    by_cases hk0 : k = 0
    · subst hk0
      obtain rfl : j = -1 := by omega
      have T := ref_trim sr (by omega)
      rw [← rootInv_end HR.out] at T
      have HT := Lib.hid T
      clear T
      go_wp2_with fail
      refine HT.out.mono ?_
      rintro e w1 ⟨A1, n1, c1, rfl, s1, b1⟩
      go_wp2_with fail
      go_ret
      exact ⟨_, _, _, rfl, s1, hb.trans (b1.mono hb.size)⟩
    · obtain ⟨i, rfl⟩ : ∃ i, k = i + 1 := ⟨k - 1, by omega⟩
      obtain rfl : j = (i : Int) := by omega
      have ST := ref_set sr (by omega) i (by omega) (rootInv_free HR.out) K (by omega) (by omega)
      have HST := Lib.hid ST
      clear ST
      go_wp2_with fail
      refine HST.out.mono ?_
      rintro e w1 ⟨A1, n1, c1, zs, rfl, hn1, s1, v1, b1⟩
      have hb1 := hb.trans (b1.mono hb.size)
      have sr1 := sr.below b1
      have M := ref_nmul s1 s1 (by omega) (by omega)
      rw [v1] at M
      have HM := Lib.hid M
      have HV1 := Lib.hid v1
      have hzl : val zs < W ^ K := val_lt_pow s1.us (by have := s1.len; omega)
      have HZL := Lib.hid hzl
      clear M v1 b1 sr HST hzl
      go_wp2_with fail
      refine HM.out.mono ?_
      rintro e w2 ⟨A2, n2, c2, rfl, s2, b2⟩
      have hb2 := hb1.trans (b2.mono hb1.size)
      have sr2 := sr1.below b2
      have s12 := s1.below b2
      have hn2 : n2 ≤ K + K := s2.small (k := K + K) (mul_lt_powW (by rw [← HV1.out]; exact HZL.out) (by rw [← HV1.out]; exact HZL.out))
      have C := HCMP.out _ hb2 _ _ _ _ s2 (by omega)
      rw [val_words] at C
      clear HM b2 sr1 s1 s2
      by_cases hle : (val rs + 2 ^ i) * (val rs + 2 ^ i) ≤ a
      · have hcm : cmpN ((val rs + 2 ^ i) * (val rs + 2 ^ i)) a ≤ 0 := by unfold cmpN; split <;> (try split) <;> omega
        have hri := rootInv_yes HR.out hle
        rw [← HV1.out] at hri
        generalize cmpN ((val rs + 2 ^ i) * (val rs + 2 ^ i)) a = cm at *
        have HC := Lib.hid C
        have HRI := Lib.hid hri
        clear C hri hle
        go_wp2_with fail
        refine HC.out.mono ?_
        rintro e w' ⟨rfl, rfl⟩
        go_wp2_with fail
        go_roundw
        case rel => exact ⟨i, _, _, _, _, zs, by omega, by omega, by omega, rfl, rfl, hn1, s12, HRI, hb2⟩
        case measure => simp [intOf]
      · have hcm : 0 < cmpN ((val rs + 2 ^ i) * (val rs + 2 ^ i)) a := by rw [cmpN_gt (by omega)]; omega
        have hri := rootInv_no HR.out (by omega)
        generalize cmpN ((val rs + 2 ^ i) * (val rs + 2 ^ i)) a = cm at *
        have HC := Lib.hid C
        have HRI := Lib.hid hri
        clear C hri hle
        go_wp2_with fail
        refine HC.out.mono ?_
        rintro e w' ⟨rfl, rfl⟩
        go_wp2_with fail
        go_roundw
        case rel => exact ⟨i, _, _, _, _, rs, by omega, by omega, by omega, rfl, rfl, hnr, sr2, HRI, hb2⟩
        case measure => simp [intOf]

end Go.Proofs.YtibgpeaplmcogaaGreatDoor

namespace Go.Proofs.YtibgpeaplmcogaaGreatDoor
set_option maxRecDepth 100000
open Go.RowKit
set_option linter.unusedVariables false
set_option linter.unusedSimpArgs false

theorem sg_false' (v : Nat) : sg false v = v := rfl
theorem tmod_even' {X : Int} (h : X % 2 = 0) : (Int.tmod X 2 != 0) = false := by
  have : Int.tmod X 2 = 0 := Int.tmod_eq_zero_of_dvd (Int.dvd_of_emod_eq_zero h)
  rw [this]; rfl
theorem tmod_odd' {X : Int} (h : ¬ X % 2 = 0) : (Int.tmod X 2 != 0) = true := by
  have : ¬ Int.tmod X 2 = 0 := fun h2 => h (Int.emod_eq_zero_of_dvd (Int.dvd_of_tmod_eq_zero h2))
  simpa using this
/-- the calls of the root's way, over names -/
theorem rsqrt_calls {b : Nat} (hb : b < 18446744073709551616) (hf : fld b < 2047) (w : World) : ∃ (g N R u : Nat) (x h9 : Int) (cm : Int) (mo : Bool), (g < 9007199254740992 ∧ -1074 ≤ x ∧ x ≤ 971 ∧ Int.tdiv (x - u) 2 = h9 ∧ -700 ≤ h9 ∧ h9 ≤ 700 ∧ (cm != 0) = mo ∧ u = (if x % 2 = 0 then 160 else 161)) ∧
    Calls Tryz.prog 181 #[.int .u64 b] w (fun e w' => e = .returned (.tuple #[.int .u64 g, .int .i64 x]) ∧ w = w') ∧
    (∀ w : World, Calls Tryz.prog 109 #[.slice (some ⟨w.heap.size, 0, none⟩) 1 1, .int .i64 u] (w.alloc (.cells #[.int .u64 (g : Int)] 76)) (RetSl (words N) (w.alloc (.cells #[.int .u64 (g : Int)] 76)))) ∧
    (∀ w A n c, Sl w A n c (words N) → Calls Tryz.prog 183 #[.slice A n c] w (RetSl (words R) w)) ∧
    (∀ w A n c, Sl w A n c (words R) → Calls Tryz.prog 144 #[.slice A n c, .slice A n c] w (RetSl (words (R * R)) w)) ∧
    (∀ w A n c A' n' c', Sl w A n c (words (R * R)) → Sl w A' n' c' (words N) → Calls Tryz.prog 76 #[.slice A n c, .slice A' n' c'] w (fun e w' => e = .returned (.int .i64 cm) ∧ w = w')) ∧
    (∀ w A n c, Sl w A n c (words R) → Calls Tryz.prog 110 #[.bool false, .slice A n c, .int .i64 h9, .bool mo] w (RetW (fsqM b) w)) := by
  have hx := xpo_range hf
  have hs := sig_lt b
  have hu : upz b = 160 ∨ upz b = 161 := by unfold upz; split <;> omega
  have hu2 : (xpo b - (upz b : Int)) % 2 = 0 := by unfold upz; split <;> omega
  have hN : sig b * 2 ^ upz b < W ^ 4 := mul_lt_pow (a := sig b) (k := 1) (l := 3) (one_W hs) (by omega)
  obtain ⟨N, eN⟩ : ∃ N, sig b * 2 ^ upz b = N := ⟨_, rfl⟩
  obtain ⟨R, eR⟩ : ∃ R, rt N = R := ⟨_, rfl⟩
  obtain ⟨g1, g2⟩ := rt_spec N
  rw [eR] at g1 g2
  rw [eN] at hN
  have hR : R < W ^ 4 := by
    refine Nat.lt_of_le_of_lt ?_ hN
    rcases Nat.eq_zero_or_pos R with h | h
    · omega
    · have : R * 1 ≤ R * R := Nat.mul_le_mul_left _ h
      omega
  have hRR : R * R < W ^ 4 := Nat.lt_of_le_of_lt g1 hN
  have hV : ∀ mo : Bool, mo = decide (R * R ≠ N) → magM R ((xpo b - upz b) / 2) mo = fsqM b := by
    rintro mo rfl
    unfold fsqM
    rw [eN, rtM_of _ g1 g2]
  have hcm : (cmpN (R * R) N != 0) = decide (R * R ≠ N) := by
    by_cases h : R * R = N
    · rw [h, cmpN_eq, decide_eq_false (by omega)]; rfl
    · rw [cmpN_lt (by omega), decide_eq_true h]; rfl
  refine ⟨sig b, N, R, upz b, xpo b, (xpo b - upz b) / 2, cmpN (R * R) N, decide (R * R ≠ N), ⟨hs, hx.1, hx.2, ?_, by omega, by omega, hcm, rfl⟩, rf_parts hb w, ?_, ?_, ?_, ?_, ?_⟩
  · obtain ⟨q, hq⟩ : ∃ q : Int, xpo b - (upz b : Int) = q * 2 := ⟨(xpo b - (upz b : Int)) / 2, by omega⟩
    rw [hq, Int.mul_tdiv_cancel _ (by decide)]; omega
  · intro w
    have S := ref_shl (sl_lit w (sig b : Int) (by unfold U; omega)) (by omega) (upz b : Int)
    rw [val_one, Int.toNat_natCast, clampS_nat (by omega), eN] at S
    exact S
  · intro w A n c t
    have := ref_root t (Nat.le_trans (t.small hN) (by decide))
    rw [val_words, eR] at this
    exact this
  · intro w A n c t
    have := ref_nmul t t (Nat.le_trans (t.small hR) (by decide)) (Nat.le_trans (t.small hR) (by decide))
    rw [val_words] at this
    exact this
  · intro w A n c A' n' c' t1 t2
    have := ref_cmp t1 t2 (Nat.le_trans (t1.small hRR) (by decide)) (Nat.le_trans (t2.small hN) (by decide))
    rw [val_words, val_words] at this
    exact this
  · intro w A n c t
    have := rf_more false t (Nat.le_trans (t.small hR) (by decide)) (e := (xpo b - upz b) / 2) (by omega) (by omega) (decide (R * R ≠ N))
    rw [val_words, hV _ rfl, sg_false'] at this
    exact this

set_option maxRecDepth 100000 in
set_option maxHeartbeats 8000000 in
theorem rf_sqrt {b : Nat} (hb : b < 18446744073709551616) (w : World) :
    Calls Tryz.prog 116 #[.int .u64 b] w (RetW (fsqrt b) w) := by
  have K1 := Lib.hid (rf_kind hb w)
  have N1 := rf_neg hb w
  have NN := Lib.hid (rf_nan w)
  have c1 := kd_cases b
  have hF : fsqrt b = if kd b = 0 then b else if kd b = 4 ∨ ng b = true then NAN else if kd b = 3 then b else fsqM b := rfl
  by_cases h0 : kd b = 0
  · rw [if_pos h0] at hF
    rw [h0] at K1
    rw [hF]
    clear hF N1
    go_enter Tryz.func116, Tryz.ntmps116
    go_wp2_with fail
    refine K1.out.mono ?_
    rintro _ w' ⟨rfl, rfl⟩
    go_wp2_with fail
    go_ret
    exact ⟨rfl, Below.refl _ _⟩
  · have g0 : ((kd b : Int) == 0) = false := by simp; omega
    by_cases h4 : kd b = 4
    · rw [if_neg h0, if_pos (.inl h4)] at hF
      rw [hF]
      rw [h4] at K1
      clear hF N1 g0
      go_enter Tryz.func116, Tryz.ntmps116
      go_wp2_with fail
      refine K1.out.mono ?_
      rintro _ w' ⟨rfl, rfl⟩
      go_wp2_with fail
      refine NN.out.mono ?_
      rintro _ w' ⟨rfl, rfl⟩
      go_wp2_with fail
      go_ret
      exact ⟨rfl, Below.refl _ _⟩
    · have g4 : ((kd b : Int) == 4) = false := by simp; omega
      by_cases hn : ng b = true
      · rw [if_neg h0, if_pos (.inr hn)] at hF
        rw [hF]
        rw [hn] at N1
        have HN := Lib.hid N1
        clear hF N1 c1
        generalize kd b = k at *
        go_enter Tryz.func116, Tryz.ntmps116
        go_wp2_with fail
        refine K1.out.mono ?_
        rintro _ w' ⟨rfl, rfl⟩
        go_wp2_with fail
        refine HN.out.mono ?_
        rintro _ w' ⟨rfl, rfl⟩
        go_wp2_with fail
        refine NN.out.mono ?_
        rintro _ w' ⟨rfl, rfl⟩
        go_wp2_with fail
        go_ret
        exact ⟨rfl, Below.refl _ _⟩
      · rw [show ng b = false by simpa using hn] at N1
        have HN := Lib.hid N1
        rw [if_neg h0, if_neg (by simp [h4]; simpa using hn)] at hF
        by_cases h3 : kd b = 3
        · rw [if_pos h3] at hF
          rw [hF]
          rw [h3] at K1
          clear hF N1 c1 g0 g4
          go_enter Tryz.func116, Tryz.ntmps116
          go_wp2_with fail
          refine K1.out.mono ?_
          rintro _ w' ⟨rfl, rfl⟩
          go_wp2_with fail
          refine HN.out.mono ?_
          rintro _ w' ⟨rfl, rfl⟩
          go_wp2_with fail
          go_ret
          exact ⟨rfl, Below.refl _ _⟩
        · rw [if_neg h3] at hF
          rw [hF]
          have g3 : ((kd b : Int) == 3) = false := by simp; omega
          have hf := c1.2.1 (by omega)
          obtain ⟨g, N, R, u, x, h9, cm, mo, ⟨l1, l2, l3, ed, l4, l5, emo, eu⟩, C1, C2, C3, C4, C5, C6⟩ := rsqrt_calls hb hf w
          have D1 := Lib.hid C1
          have D2 := Lib.hid C2
          have D3 := Lib.hid C3
          have D4 := Lib.hid C4
          have D5 := Lib.hid C5
          have D6 := Lib.hid C6
          generalize fsqM b = V at *
          generalize kd b = k at *
          have HU := Lib.hid eu
          have hu : u ≤ 161 := by rw [eu]; split <;> omega
          clear hF N1 c1 C1 C2 C3 C4 C5 C6 hn eu hf
          go_enter Tryz.func116, Tryz.ntmps116
          go_wp2_with fail
          refine K1.out.mono ?_
          rintro _ w' ⟨rfl, rfl⟩
          go_wp2_with fail
          refine HN.out.mono ?_
          rintro _ w' ⟨rfl, rfl⟩
          go_wp2_with fail
          refine D1.out.mono ?_
          rintro _ w' ⟨rfl, rfl⟩
          go_upto_if 33 with (fail)
          go_cut [6] (fun s6 wx => s6 = .int .i64 u ∧ w = wx)
          case first =>
            by_cases hx : x % 2 = 0
            · have t1 := tmod_even' (X := x - 160) (by omega)
              have h1 := HU.out
              rw [if_pos hx] at h1
              clear HU
              have HH := Lib.hid h1
              clear h1
              go_wp2_with fail
              go_meet
              exact ⟨vint (by rw [HH.out]; rfl), rfl⟩
            · have t1 := tmod_odd' (X := x - 160) (by omega)
              have h1 := HU.out
              rw [if_neg hx] at h1
              clear HU
              have HH := Lib.hid h1
              clear h1
              go_wp2_with fail
              go_meet
              exact ⟨vint (by rw [HH.out]; rfl), rfl⟩
          case rest =>
          obtain ⟨rfl, rfl⟩ := hcut
          clear HU
          go_wp2_with fail
          with_reducible refine (D2.out _).mono ?_
          rintro _ w1 ⟨A1, n1, c1, rfl, t1, b1⟩
          have y1 := bbw (below_alloc w _) b1
          go_wp2_with fail
          with_reducible refine (D3.out _ _ _ _ t1).mono ?_
          rintro _ w2 ⟨A2, n2, c2, rfl, t2, b2⟩
          go_wp2_with fail
          with_reducible refine (D4.out _ _ _ _ t2).mono ?_
          rintro _ w3 ⟨A3, n3, c3, rfl, t3, b3⟩
          go_wp2_with fail
          with_reducible refine (D5.out _ _ _ _ _ _ _ t3 ((t1.below b2).below b3)).mono ?_
          rintro _ _ ⟨rfl, rfl⟩
          go_wp2_with fail
          with_reducible refine (D6.out _ _ _ _ (t2.below b3)).mono ?_
          rintro _ w5 ⟨rfl, b5⟩
          go_wp2_with fail
          go_ret
          exact ⟨rfl, bbw y1 (bbw b2 (bbw b3 b5))⟩

end Go.Proofs.YtibgpeaplmcogaaGreatDoor
