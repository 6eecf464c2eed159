/-
  What the document's Sqrt of layer 12 (gradineref12) returns for any word. Condition: the word is below 2^64.
-/
import Derived.Test.YtidjacgifdpcmaaRfMulOne
import Derived.Test.YtidjacgifdpcmaaRefRoot
import Derived.Test.YtidjacgifdpcmaaRefShift
namespace Go.Proofs.Ytidjacgifdpcmaa
set_option maxRecDepth 100000
open Go.RowKit
set_option linter.unusedVariables false
set_option linter.unusedSimpArgs false

theorem sg_false' (v : Nat) : sg false v = v := rfl
theorem tmod_even' {X : Int} (h : X % 2 = 0) : (Int.tmod X 2 != 0) = false := by
  have : Int.tmod X 2 = 0 := Int.tmod_eq_zero_of_dvd (Int.dvd_of_emod_eq_zero h)
  rw [this]; rfl
theorem tmod_odd' {X : Int} (h : ¬ X % 2 = 0) : (Int.tmod X 2 != 0) = true := by
  have : ¬ Int.tmod X 2 = 0 := fun h2 => h (Int.emod_eq_zero_of_dvd (Int.dvd_of_tmod_eq_zero h2))
  simpa using this
/-- the calls of the root's way, over names -/
theorem rsqrt_calls {b : Nat} (hb : b < 18446744073709551616) (hf : fld b < 2047) (w : World) : ∃ (g N R u : Nat) (x h9 : Int) (cm : Int) (mo : Bool), (g < 9007199254740992 ∧ -1074 ≤ x ∧ x ≤ 971 ∧ Int.tdiv (x - u) 2 = h9 ∧ -700 ≤ h9 ∧ h9 ≤ 700 ∧ (cm != 0) = mo ∧ u = (if x % 2 = 0 then 160 else 161)) ∧
    Calls Try.prog 40 #[.int .u64 b] w (fun e w' => e = .returned (.tuple #[.int .u64 g, .int .i64 x]) ∧ w = w') ∧
    (∀ w : World, Calls Try.prog 42 #[.slice (some ⟨w.heap.size, 0, none⟩) 1 1, .int .i64 u] (w.alloc (.cells #[.int .u64 (g : Int)] 22)) (RetSl (words N) (w.alloc (.cells #[.int .u64 (g : Int)] 22)))) ∧
    (∀ w A n c, Sl w A n c (words N) → Calls Try.prog 64 #[.slice A n c] w (RetSl (words R) w)) ∧
    (∀ w A n c, Sl w A n c (words R) → Calls Try.prog 44 #[.slice A n c, .slice A n c] w (RetSl (words (R * R)) w)) ∧
    (∀ w A n c A' n' c', Sl w A n c (words (R * R)) → Sl w A' n' c' (words N) → Calls Try.prog 46 #[.slice A n c, .slice A' n' c'] w (fun e w' => e = .returned (.int .i64 cm) ∧ w = w')) ∧
    (∀ w A n c, Sl w A n c (words R) → Calls Try.prog 62 #[.bool false, .slice A n c, .int .i64 h9, .bool mo] w (RetW (fsqM b) w)) := by
  have hx := xpo_range hf
  have hs := sig_lt b
  have hu : upz b = 160 ∨ upz b = 161 := by unfold upz; split <;> omega
  have hu2 : (xpo b - (upz b : Int)) % 2 = 0 := by unfold upz; split <;> omega
  have hN : sig b * 2 ^ upz b < W ^ 4 := mul_lt_pow (a := sig b) (k := 1) (l := 3) (one_W hs) (by omega)
  obtain ⟨N, eN⟩ : ∃ N, sig b * 2 ^ upz b = N := ⟨_, rfl⟩
  obtain ⟨R, eR⟩ : ∃ R, rt N = R := ⟨_, rfl⟩
  obtain ⟨g1, g2⟩ := rt_spec N
  rw [eR] at g1 g2
  rw [eN] at hN
  have hR : R < W ^ 4 := by
    refine Nat.lt_of_le_of_lt ?_ hN
    rcases Nat.eq_zero_or_pos R with h | h
    · omega
    · have : R * 1 ≤ R * R := Nat.mul_le_mul_left _ h
      omega
  have hRR : R * R < W ^ 4 := Nat.lt_of_le_of_lt g1 hN
  have hV : ∀ mo : Bool, mo = decide (R * R ≠ N) → magM R ((xpo b - upz b) / 2) mo = fsqM b := by
    rintro mo rfl
    unfold fsqM
    rw [eN, rtM_of _ g1 g2]
  have hcm : (cmpN (R * R) N != 0) = decide (R * R ≠ N) := by
    by_cases h : R * R = N
    · rw [h, cmpN_eq, decide_eq_false (by omega)]; rfl
    · rw [cmpN_lt (by omega), decide_eq_true h]; rfl
  refine ⟨sig b, N, R, upz b, xpo b, (xpo b - upz b) / 2, cmpN (R * R) N, decide (R * R ≠ N), ⟨hs, hx.1, hx.2, ?_, by omega, by omega, hcm, rfl⟩, rf_parts hb w, ?_, ?_, ?_, ?_, ?_⟩
  · obtain ⟨q, hq⟩ : ∃ q : Int, xpo b - (upz b : Int) = q * 2 := ⟨(xpo b - (upz b : Int)) / 2, by omega⟩
    rw [hq, Int.mul_tdiv_cancel _ (by decide)]; omega
  · intro w
    have S := ref_shl (sl_lit w (sig b : Int) (by unfold U; omega)) (by omega) (upz b : Int)
    rw [val_one, Int.toNat_natCast, clampS_nat (by omega), eN] at S
    exact S
  · intro w A n c t
    have := ref_root t (Nat.le_trans (t.small hN) (by decide))
    rw [val_words, eR] at this
    exact this
  · intro w A n c t
    have := ref_nmul t t (Nat.le_trans (t.small hR) (by decide)) (Nat.le_trans (t.small hR) (by decide))
    rw [val_words] at this
    exact this
  · intro w A n c A' n' c' t1 t2
    have := ref_cmp t1 t2 (Nat.le_trans (t1.small hRR) (by decide)) (Nat.le_trans (t2.small hN) (by decide))
    rw [val_words, val_words] at this
    exact this
  · intro w A n c t
    have := rf_more false t (Nat.le_trans (t.small hR) (by decide)) (e := (xpo b - upz b) / 2) (by omega) (by omega) (decide (R * R ≠ N))
    rw [val_words, hV _ rfl, sg_false'] at this
    exact this

set_option maxRecDepth 100000 in
set_option maxHeartbeats 8000000 in
theorem rf_sqrt {b : Nat} (hb : b < 18446744073709551616) (w : World) :
    Calls Try.prog 30 #[.int .u64 b] w (RetW (fsqrt b) w) := by
  have K1 := Lib.hid (rf_kind hb w)
  have N1 := rf_neg hb w
  have NN := Lib.hid (rf_nan w)
  have c1 := kd_cases b
  have hF : fsqrt b = if kd b = 0 then b else if kd b = 4 ∨ ng b = true then NAN else if kd b = 3 then b else fsqM b := rfl
  by_cases h0 : kd b = 0
  · rw [if_pos h0] at hF
    rw [h0] at K1
    rw [hF]
    clear hF N1
    go_enter Try.func30, Try.ntmps30
    go_wp2_with fail
    refine K1.out.mono ?_
    rintro _ w' ⟨rfl, rfl⟩
    go_wp2_with fail
    go_ret
    exact ⟨rfl, Below.refl _ _⟩
  · have g0 : ((kd b : Int) == 0) = false := by simp; omega
    by_cases h4 : kd b = 4
    · rw [if_neg h0, if_pos (.inl h4)] at hF
      rw [hF]
      rw [h4] at K1
      clear hF N1 g0
      go_enter Try.func30, Try.ntmps30
      go_wp2_with fail
      refine K1.out.mono ?_
      rintro _ w' ⟨rfl, rfl⟩
      go_wp2_with fail
      refine NN.out.mono ?_
      rintro _ w' ⟨rfl, rfl⟩
      go_wp2_with fail
      go_ret
      exact ⟨rfl, Below.refl _ _⟩
    · have g4 : ((kd b : Int) == 4) = false := by simp; omega
      by_cases hn : ng b = true
      · rw [if_neg h0, if_pos (.inr hn)] at hF
        rw [hF]
        rw [hn] at N1
        have HN := Lib.hid N1
        clear hF N1 c1
        generalize kd b = k at *
        go_enter Try.func30, Try.ntmps30
        go_wp2_with fail
        refine K1.out.mono ?_
        rintro _ w' ⟨rfl, rfl⟩
        go_wp2_with fail
        refine HN.out.mono ?_
        rintro _ w' ⟨rfl, rfl⟩
        go_wp2_with fail
        refine NN.out.mono ?_
        rintro _ w' ⟨rfl, rfl⟩
        go_wp2_with fail
        go_ret
        exact ⟨rfl, Below.refl _ _⟩
      · rw [show ng b = false by simpa using hn] at N1
        have HN := Lib.hid N1
        rw [if_neg h0, if_neg (by simp [h4]; simpa using hn)] at hF
        by_cases h3 : kd b = 3
        · rw [if_pos h3] at hF
          rw [hF]
          rw [h3] at K1
          clear hF N1 c1 g0 g4
          go_enter Try.func30, Try.ntmps30
          go_wp2_with fail
          refine K1.out.mono ?_
          rintro _ w' ⟨rfl, rfl⟩
          go_wp2_with fail
          refine HN.out.mono ?_
          rintro _ w' ⟨rfl, rfl⟩
          go_wp2_with fail
          go_ret
          exact ⟨rfl, Below.refl _ _⟩
        · rw [if_neg h3] at hF
          rw [hF]
          have g3 : ((kd b : Int) == 3) = false := by simp; omega
          have hf := c1.2.1 (by omega)
          obtain ⟨g, N, R, u, x, h9, cm, mo, ⟨l1, l2, l3, ed, l4, l5, emo, eu⟩, C1, C2, C3, C4, C5, C6⟩ := rsqrt_calls hb hf w
          have D1 := Lib.hid C1
          have D2 := Lib.hid C2
          have D3 := Lib.hid C3
          have D4 := Lib.hid C4
          have D5 := Lib.hid C5
          have D6 := Lib.hid C6
          generalize fsqM b = V at *
          generalize kd b = k at *
          have HU := Lib.hid eu
          have hu : u ≤ 161 := by rw [eu]; split <;> omega
          clear hF N1 c1 C1 C2 C3 C4 C5 C6 hn eu hf
          go_enter Try.func30, Try.ntmps30
          go_wp2_with fail
          refine K1.out.mono ?_
          rintro _ w' ⟨rfl, rfl⟩
          go_wp2_with fail
          refine HN.out.mono ?_
          rintro _ w' ⟨rfl, rfl⟩
          go_wp2_with fail
          refine D1.out.mono ?_
          rintro _ w' ⟨rfl, rfl⟩
          go_upto_if 33 with (fail)
          go_cut [6] (fun s6 wx => s6 = .int .i64 u ∧ w = wx)
          case first =>
            by_cases hx : x % 2 = 0
            · have t1 := tmod_even' (X := x - 160) (by omega)
              have h1 := HU.out
              rw [if_pos hx] at h1
              clear HU
              have HH := Lib.hid h1
              clear h1
              go_wp2_with fail
              go_meet
              exact ⟨vint (by rw [HH.out]; rfl), rfl⟩
            · have t1 := tmod_odd' (X := x - 160) (by omega)
              have h1 := HU.out
              rw [if_neg hx] at h1
              clear HU
              have HH := Lib.hid h1
              clear h1
              go_wp2_with fail
              go_meet
              exact ⟨vint (by rw [HH.out]; rfl), rfl⟩
          case rest =>
          obtain ⟨rfl, rfl⟩ := hcut
          clear HU
          go_wp2_with fail
          with_reducible refine (D2.out _).mono ?_
          rintro _ w1 ⟨A1, n1, c1, rfl, t1, b1⟩
          have y1 := bbw (below_alloc w _) b1
          go_wp2_with fail
          with_reducible refine (D3.out _ _ _ _ t1).mono ?_
          rintro _ w2 ⟨A2, n2, c2, rfl, t2, b2⟩
          go_wp2_with fail
          with_reducible refine (D4.out _ _ _ _ t2).mono ?_
          rintro _ w3 ⟨A3, n3, c3, rfl, t3, b3⟩
          go_wp2_with fail
          with_reducible refine (D5.out _ _ _ _ _ _ _ t3 ((t1.below b2).below b3)).mono ?_
          rintro _ _ ⟨rfl, rfl⟩
          go_wp2_with fail
          with_reducible refine (D6.out _ _ _ _ (t2.below b3)).mono ?_
          rintro _ w5 ⟨rfl, b5⟩
          go_wp2_with fail
          go_ret
          exact ⟨rfl, bbw y1 (bbw b2 (bbw b3 b5))⟩

end Go.Proofs.Ytidjacgifdpcmaa
