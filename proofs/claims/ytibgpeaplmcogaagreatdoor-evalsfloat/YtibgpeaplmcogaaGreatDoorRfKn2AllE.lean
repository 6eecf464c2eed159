/-
  What evals.floatValue and the document's Double return. Conditions: the slices read as words; where the instruction is an exponential, the variable factorials holds the factorials of 0 to 13.
-/
import Derived.Test.YtibgpeaplmcogaaGreatDoorFrFromAllE
import Derived.Test.YtibgpeaplmcogaaGreatDoorEvBAllE
import Derived.Test.YtibgpeaplmcogaaGreatDoorFpMulAllE
import Derived.Test.YtibgpeaplmcogaaGreatDoorRfMulAllE
import Derived.Test.YtibgpeaplmcogaaGreatDoorRfSumAllE
namespace Go.Proofs.YtibgpeaplmcogaaGreatDoor
set_option maxRecDepth 100000
open Go.RowKit
set_option linter.unusedVariables false
set_option linter.unusedSimpArgs false

def mesU (v : Value) : Nat := (intOf v + 2000).toNat
def mesD (v : Value) : Nat := (2000 - intOf v).toNat
theorem mesU_lt {a b : Int} (h : a < b) (hb : -2000 < b) : mesU (.int .i64 a) < mesU (.int .i64 b) := by
  show (a + 2000).toNat < (b + 2000).toNat
  omega
theorem mesD_lt {a b : Int} (h : b < a) (hb : b < 2000) : mesD (.int .i64 a) < mesD (.int .i64 b) := by
  show (2000 - a).toNat < (2000 - b).toNat
  omega
/-- a step of the first loop, and of the second -/
theorem log_up {x : Nat} (hp : 0 < sig x) (hf : fld x < 2047) {j : Nat} (h : j = 0 ∨ (blen (sig x) : Int) + xpo x + j ≤ 1) :
    ∃ F : Nat, F = magR (sig x) 1 (xpo x + j) ∧ F < 18446744073709551616 ∧ fless F ONE = decide ((blen (sig x) : Int) + xpo x + j ≤ 0) ∧ fscale F 1 = magR (sig x) 1 (xpo x + ((j + 1 : Nat) : Int)) := by
  obtain ⟨x1, x2⟩ := xpo_range hf
  have hs := sig_lt x
  have hb0 := blen_pos hp
  have hI := INF_lit
  obtain ⟨a1, _, _, _, a5⟩ := scale_twice (m := sig x) (e := xpo x + j) hs (by omega) (by omega) 1
  obtain ⟨c1, _⟩ := log_where (m := sig x) (e := xpo x + j) hp hs (by omega) (by omega)
  refine ⟨_, rfl, by omega, ?_, ?_⟩
  · rw [c1, Int.add_assoc]
  · rw [a5]; congr 1; omega
theorem log_down {x : Nat} (hp : 0 < sig x) (hf : fld x < 2047) {k : Int} (h : (0 ≤ k ∧ k ≤ lk0 x) ∨ k = lk0 x) :
    ∃ F : Nat, F = magR (sig x) 1 (xpo x - k) ∧ F < 18446744073709551616 ∧ fless F TWO = decide (lk0 x ≤ k) ∧ (k < lk0 x → fscale F (-1) = magR (sig x) 1 (xpo x - (k + 1))) ∧ (k = lk0 x → F = lf0 x) := by
  obtain ⟨x1, x2⟩ := xpo_range hf
  have hs := sig_lt x
  have hb0 := blen_pos hp
  have hsb := sig_blen x
  have hI := INF_lit
  have hl : lk0 x = xpo x + blen (sig x) - 1 := rfl
  obtain ⟨a1, _, _, _, a5⟩ := scale_twice (m := sig x) (e := xpo x - k) hs (by omega) (by omega) (-1)
  obtain ⟨_, c2⟩ := log_where (m := sig x) (e := xpo x - k) hp hs (by omega) (by omega)
  refine ⟨_, rfl, by omega, ?_, ?_, ?_⟩
  · rw [c2, Bool.eq_iff_iff, decide_eq_true_eq, decide_eq_true_eq]; omega
  · intro _; rw [a5]; congr 1; omega
  · intro hk
    rw [← (lf0_word hp).1, hk, hl]
    congr 1
    omega

set_option maxRecDepth 100000 in
set_option maxHeartbeats 8000000 in
theorem rk_log {x : Nat} (hx : x < 18446744073709551616) (w : World) :
    Calls Tryz.prog 118 #[.int .u64 x] w (RetW (flog x) w) := by
  have K := Lib.hid (rf_kind hx w)
  have N := Lib.hid (rf_neg hx w)
  have hkc := (kd_cases x).1
  by_cases h0 : kd x = 0
  · have e : flog x = sg true INF := by unfold flog; rw [if_pos h0]
    rw [e]
    rw [h0] at K
    have IN := Lib.hid (rf_inf true w)
    generalize sg true INF = v at *
    go_enter Tryz.func118, Tryz.ntmps118
    go_wp2_with fail
    refine K.out.mono ?_
    rintro _ w' ⟨rfl, rfl⟩
    go_wp2_with fail
    refine IN.out.mono ?_
    rintro _ w' ⟨rfl, rfl⟩
    go_wp2_with fail
    go_ret
    exact ⟨rfl, Below.refl _ _⟩
  have g0 : ((kd x : Int) == 0) = false := by simp; omega
  by_cases h4 : kd x = 4
  · have e : flog x = NAN := by unfold flog; rw [if_neg h0, if_pos (.inl h4)]
    rw [e]
    rw [h4] at K
    have NA := Lib.hid (rf_nan w)
    generalize NAN = v at *
    go_enter Tryz.func118, Tryz.ntmps118
    go_wp2_with fail
    refine K.out.mono ?_
    rintro _ w' ⟨rfl, rfl⟩
    go_wp2_with fail
    refine K.out.mono ?_
    rintro _ w' ⟨rfl, rfl⟩
    go_wp2_with fail
    refine NA.out.mono ?_
    rintro _ w' ⟨rfl, rfl⟩
    go_wp2_with fail
    go_ret
    exact ⟨rfl, Below.refl _ _⟩
  have g4 : ((kd x : Int) == 4) = false := by simp; omega
  cases hn : ng x
  case true =>
    have e : flog x = NAN := by unfold flog; rw [if_neg h0, if_pos (.inr hn)]
    rw [e]
    rw [hn] at N
    have NA := Lib.hid (rf_nan w)
    generalize NAN = v at *
    generalize kd x = k at *
    go_enter Tryz.func118, Tryz.ntmps118
    go_wp2_with fail
    refine K.out.mono ?_
    rintro _ w' ⟨rfl, rfl⟩
    go_wp2_with fail
    refine K.out.mono ?_
    rintro _ w' ⟨rfl, rfl⟩
    go_wp2_with fail
    refine N.out.mono ?_
    rintro _ w' ⟨rfl, rfl⟩
    go_wp2_with fail
    refine NA.out.mono ?_
    rintro _ w' ⟨rfl, rfl⟩
    go_wp2_with fail
    go_ret
    exact ⟨rfl, Below.refl _ _⟩
  case false =>
  rw [hn] at N
  by_cases h3 : kd x = 3
  · have e : flog x = x := by unfold flog; rw [if_neg h0, if_neg (by rw [hn]; simp; omega), if_pos h3]
    rw [e]
    rw [h3] at K
    go_enter Tryz.func118, Tryz.ntmps118
    go_wp2_with fail
    refine K.out.mono ?_
    rintro _ w' ⟨rfl, rfl⟩
    go_wp2_with fail
    refine K.out.mono ?_
    rintro _ w' ⟨rfl, rfl⟩
    go_wp2_with fail
    refine N.out.mono ?_
    rintro _ w' ⟨rfl, rfl⟩
    go_wp2_with fail
    refine K.out.mono ?_
    rintro _ w' ⟨rfl, rfl⟩
    go_wp2_with fail
    go_ret
    exact ⟨rfl, Below.refl _ _⟩
  have g3 : ((kd x : Int) == 3) = false := by simp; omega
  have hk : kd x = 1 ∨ kd x = 2 := by omega
  have hp := sig_pos hk
  have hf : fld x < 2047 := (kd_cases x).2.1 (by omega)
  obtain ⟨_, c2, c3, _, _⟩ := lk_cases hx hk hn
  obtain ⟨_, z2, z3, z4⟩ := lf0_word hp
  have hlk : -1074 ≤ lk x ∧ lk x ≤ 1024 := by unfold lk; split <;> omega
  have e : flog x = logZ (lf x) (lk x) := by unfold flog; rw [if_neg h0, if_neg (by rw [hn]; simp; omega), if_neg h3]
  rw [e]
  clear e
  -- the two loops
  have hxw : x = magR (sig x) 1 (xpo x + ((0 : Nat) : Int)) := by
    rw [show xpo x + ((0 : Nat) : Int) = xpo x by omega, sig_word hf, pos_word hx hn]
  obtain ⟨x1, x2⟩ := xpo_range hf
  have hb0 := blen_pos hp
  have hl0 : lk0 x = xpo x + blen (sig x) - 1 := rfl
  have UP := Lib.hid (fun (j : Nat) h => log_up hp hf (j := j) h)
  have DN := Lib.hid (fun (k : Int) h => log_down hp hf (k := k) h)
  have LE : ∀ w1, Calls Tryz.prog 184 #[.int .u64 4609047870845172685, .int .u64 (lf0 x)] w1 fun e w' => e = .returned (.bool (decide (RR < lf0 x))) ∧ w1 = w' := by
    intro w1
    rw [← z3, RR_lit]
    exact rf_less (a := 4609047870845172685) (by omega) z4 w1
  have S2 := fun w1 => rf_scale z4 (-1) w1
  rw [z2] at S2
  have hF : lf x = if RR < lf0 x then lf0 x - 4503599627370496 else lf0 x := rfl
  have hK : lk x = if RR < lf0 x then lk0 x + 1 else lk0 x := rfl
  have hR : (decide (RR < lf0 x) = true ∧ lf x = lf0 x - 4503599627370496 ∧ lk x = lk0 x + 1) ∨ (decide (RR < lf0 x) = false ∧ lf x = lf0 x ∧ lk x = lk0 x) := by
    by_cases hr : RR < lf0 x
    · rw [if_pos hr] at hF hK
      exact .inl ⟨decide_eq_true hr, hF, hK⟩
    · rw [if_neg hr] at hF hK
      exact .inr ⟨decide_eq_false hr, hF, hK⟩
  clear hF hK z2 z3
  obtain ⟨rr, hrr⟩ : ∃ rr : Bool, decide (RR < lf0 x) = rr := ⟨_, rfl⟩
  rw [hrr] at LE hR
  clear hrr
  -- the sum
  have hfl := lf_lt hk
  obtain ⟨t, a, s, z, u, q, y, et, ea, es, ez, eu, eq_, ey, eY, ht, ha, hs, hz, hu, hq, hy⟩ := logY_names hfl
  have hZ : logZ (lf x) (lk x) = if lk x = 0 then logY (lf x) else fadd (fmul (fint (lk x)) LL) (fadd (logY (lf x)) (fmul (fint (lk x)) ll)) := rfl
  have hYl := logY_lt hfl
  have A1 : ∀ w1, Calls Tryz.prog 113 #[.int .u64 (lf x), .int .u64 4607182418800017408] w1 (RetW t w1) := by
    intro w1
    rw [et, ONE_lit]
    exact rf_sub hfl (b := 4607182418800017408) (by omega) w1
  have A2 : ∀ w1, Calls Tryz.prog 112 #[.int .u64 4611686018427387904, .int .u64 t] w1 (RetW a w1) := by
    intro w1
    rw [ea, TWO_lit]
    exact rf_add (a := 4611686018427387904) (by omega) ht w1
  have A3 := fun w1 => rf_div ht ha w1
  rw [← es] at A3
  have A4 := fun w1 => rf_mul hs hs w1
  rw [← ez] at A4
  have A5 := fun w1 => rk_by 21 (by omega) (by omega) w1
  rw [log_tab0, ← logS_0 z] at A5
  have A6 := fun w1 => rf_add hs hs w1
  rw [← eu] at A6
  have A7 := fun w1 => rf_mul (a := logP z) (by rw [← logS_end]; exact logS_lt z (by omega)) hz w1
  rw [← eq_, ← logS_end] at A7
  have A8 := fun w1 => rf_mul hu hq w1
  rw [← ey] at A8
  have A9 := fun w1 => rf_add hu hy w1
  rw [← eY] at A9
  have T1 := fun w1 => rk_int (lk x) (by omega) (by omega) w1
  have T2 : ∀ w1, Calls Tryz.prog 114 #[.int .u64 (fint (lk x)), .int .u64 4604418534311723008] w1 (RetW (fmul (fint (lk x)) LL) w1) := by
    intro w1
    rw [LL_lit]
    exact rf_mul (fint_lt _) (b := 4604418534311723008) (by omega) w1
  have T3 : ∀ w1, Calls Tryz.prog 114 #[.int .u64 (fint (lk x)), .int .u64 4461442080421002358] w1 (RetW (fmul (fint (lk x)) ll) w1) := by
    intro w1
    rw [ll_lit]
    exact rf_mul (fint_lt _) (b := 4461442080421002358) (by omega) w1
  have T4 := fun w1 => rf_add hYl (fmul_lt (fint (lk x)) ll) w1
  have T5 := fun w1 => rf_add (fmul_lt (fint (lk x)) LL) (fadd_lt hYl (fmul_lt (fint (lk x)) ll)) w1
  have hZ2 : (lk x = 0 ∧ logZ (lf x) (lk x) = logY (lf x)) ∨ (lk x ≠ 0 ∧ logZ (lf x) (lk x) = fadd (fmul (fint (lk x)) LL) (fadd (logY (lf x)) (fmul (fint (lk x)) ll))) := by
    by_cases h : lk x = 0
    · rw [if_pos h] at hZ; exact .inl ⟨h, hZ⟩
    · rw [if_neg h] at hZ; exact .inr ⟨h, hZ⟩
  clear hZ et ea es ez eu eq_ ey eY
  generalize logZ (lf x) (lk x) = Z at *
  generalize fadd (fmul (fint (lk x)) LL) (fadd (logY (lf x)) (fmul (fint (lk x)) ll)) = Z2 at *
  generalize fadd (logY (lf x)) (fmul (fint (lk x)) ll) = D at *
  generalize fmul (fint (lk x)) LL = UU at *
  generalize fmul (fint (lk x)) ll = VV at *
  generalize logY (lf x) = Y at *
  generalize fint (lk x) = fk at *
  have HO := Lib.hid ONE_lit
  have HTW := Lib.hid TWO_lit
  have HR := Lib.hid hR
  have HZ2 := Lib.hid hZ2
  have HXW := Lib.hid hxw
  have HLE := Lib.hid LE
  have HS2 := Lib.hid S2
  have H1 := Lib.hid A1
  have H2 := Lib.hid A2
  have H3 := Lib.hid A3
  have H4 := Lib.hid A4
  have H5 := Lib.hid A5
  have H6 := Lib.hid A6
  have H7 := Lib.hid A7
  have H8 := Lib.hid A8
  have H9 := Lib.hid A9
  have HT1 := Lib.hid T1
  have HT2 := Lib.hid T2
  have HT3 := Lib.hid T3
  have HT4 := Lib.hid T4
  have HT5 := Lib.hid T5
  clear hR hZ2 hxw LE S2 A1 A2 A3 A4 A5 A6 A7 A8 A9 T1 T2 T3 T4 T5 h0 h3 h4 hk hn
  generalize lf x = f at *
  generalize lk x = kk at *
  generalize kd x = kx at *
  go_enter Tryz.func118, Tryz.ntmps118
  go_wp2_with fail
  refine K.out.mono ?_
  rintro _ w' ⟨rfl, rfl⟩
  go_wp2_with fail
  refine K.out.mono ?_
  rintro _ w' ⟨rfl, rfl⟩
  go_wp2_with fail
  refine N.out.mono ?_
  rintro _ w' ⟨rfl, rfl⟩
  go_wp2_with fail
  refine K.out.mono ?_
  rintro _ w' ⟨rfl, rfl⟩
  go_wp2_with fail
  go_loopw [3, 4] (fun fv kv wr => ∃ (j F : Nat), Hid (j = 0 ∨ (blen (sig x) : Int) + xpo x + j ≤ 1) ∧ j ≤ 3000 ∧ fv = .int .u64 F ∧ kv = .int .i64 (-(j : Int)) ∧ Hid (F = magR (sig x) 1 (xpo x + j)) ∧ Below w.heap.size w wr) (fun _ kv _ => mesU kv)
  case atStart => exact ⟨0, x, Lib.hid (.inl rfl), by omega, rfl, rfl, Lib.hid HXW.out, Below.refl _ _⟩
  case round =>
    obtain ⟨j, F, HJ, hj3, rfl, rfl, HF, hb⟩ := hrel
    obtain ⟨F', eF, hFl, hless, hsc⟩ := UP.out j HJ.out
    rw [← HF.out] at eF
    subst eF
    have LS := fun w1 => rf_less hFl (b := 4607182418800017408) (by omega) w1
    by_cases hlt : (blen (sig x) : Int) + xpo x + j ≤ 0
    · have hl1 : fless F' 4607182418800017408 = true := by rw [← HO.out, hless]; exact decide_eq_true hlt
      rw [hl1] at LS
      have SC := fun w1 => rf_scale hFl 1 w1
      have HLS := Lib.hid LS
      have HSC := Lib.hid SC
      have hj4 : j ≤ 1074 := by omega
      have hm := mesU_lt (a := -((j + 1 : Nat) : Int)) (b := -(j : Int)) (by omega) (by omega)
      have HM := Lib.hid hm
      have HSX := Lib.hid hsc
      have HLT := Lib.hid hlt
      clear LS SC hm hsc hlt hless hl1
      generalize fscale F' 1 = F2 at *
      go_wp2_with fail
      refine (HLS.out _).mono ?_
      rintro _ w' ⟨rfl, rfl⟩
      go_wp2_with fail
      with_reducible refine (HSC.out _).mono ?_
      rintro _ w2 ⟨rfl, b2⟩
      go_wp2_with fail
      go_roundw
      case rel => exact ⟨j + 1, F2, Lib.hid (.inr (by have := HLT.out; omega)), by omega, rfl, vint (by omega), Lib.hid HSX.out, bbw hb b2⟩
      case measure =>
        have h9 := HM.out
        rw [show -((j + 1 : Nat) : Int) = -(j : Int) - 1 by omega] at h9
        exact h9
    · have hl1 : fless F' 4607182418800017408 = false := by rw [← HO.out, hless]; exact decide_eq_false hlt
      rw [hl1] at LS
      have HLS := Lib.hid LS
      have hkj : (0 ≤ -(j : Int) ∧ -(j : Int) ≤ lk0 x) ∨ -(j : Int) = lk0 x := by
        rcases HJ.out with h | h
        · left; omega
        · right; omega
      have HKJ := Lib.hid hkj
      clear LS hless hl1 hsc hkj hlt
      go_wp2_with fail
      refine (HLS.out _).mono ?_
      rintro _ w' ⟨rfl, rfl⟩
      go_wp2_with fail
      go_loopw [3, 4] (fun fv kv wr => ∃ (F : Nat) (k : Int), Hid ((0 ≤ k ∧ k ≤ lk0 x) ∨ k = lk0 x) ∧ -3000 ≤ k ∧ k ≤ 3000 ∧ fv = .int .u64 F ∧ kv = .int .i64 k ∧ Hid (F = magR (sig x) 1 (xpo x - k)) ∧ Below w.heap.size w wr) (fun _ kv _ => mesD kv)
      case atStart => exact ⟨F', -(j : Int), HKJ, by omega, by omega, rfl, rfl, Lib.hid (by have h8 := HF.out; rw [h8]; congr 1; omega), hb⟩
      case round =>
        clear HF hb HJ HKJ HLS hj3 hFl
        obtain ⟨F, k, HK, hk1, hk2, rfl, rfl, HF, hb⟩ := hrel
        obtain ⟨G, eF, hFl, hless, hsc, hend⟩ := DN.out k HK.out
        rw [← HF.out] at eF
        subst eF
        have LS := fun w1 => rf_less hFl (b := 4611686018427387904) (by omega) w1
        by_cases hlt : k < lk0 x
        · have hl1 : fless G 4611686018427387904 = false := by rw [← HTW.out, hless]; exact decide_eq_false (by omega)
          rw [hl1] at LS
          have SC := fun w1 => rf_scale hFl (-1) w1
          have hsc2 := hsc hlt
          have hk3 : 0 ≤ k ∧ k < 1100 := by rcases HK.out with h | h <;> omega
          have hm := mesD_lt (a := k + 1) (b := k) (by omega) (by omega)
          have HLS := Lib.hid LS
          have HSC := Lib.hid SC
          have HM := Lib.hid hm
          have HSX := Lib.hid hsc2
          have HLT := Lib.hid hlt
          clear LS SC hm hsc hlt hless hl1 hend hsc2
          generalize fscale G (-1) = F2 at *
          go_wp2_with fail
          refine (HLS.out _).mono ?_
          rintro _ w' ⟨rfl, rfl⟩
          go_wp2_with fail
          with_reducible refine (HSC.out _).mono ?_
          rintro _ w2 ⟨rfl, b2⟩
          go_wp2_with fail
          go_roundw
          case rel => exact ⟨F2, k + 1, Lib.hid (.inl (by have := HLT.out; omega)), by omega, by omega, rfl, rfl, Lib.hid HSX.out, bbw hb b2⟩
          case measure => exact HM.out
        · have hkK : k = lk0 x := by rcases HK.out with h | h <;> omega
          have hl1 : fless G 4611686018427387904 = true := by rw [← HTW.out, hless]; exact decide_eq_true (by omega)
          rw [hl1] at LS
          have hG := hend hkK
          subst hG
          subst hkK
          have HLS := Lib.hid LS
          clear LS hless hl1 hsc hend hlt HF HK UP DN hl0
          generalize lf0 x - 4503599627370496 = F3 at *
          generalize lf0 x = F0 at *
          generalize lk0 x = K0 at *
          go_wp2_with fail
          refine (HLS.out _).mono ?_
          rintro _ w' ⟨rfl, rfl⟩
          go_wp2_with fail
          with_reducible refine (HLE.out _).mono ?_
          rintro _ w' ⟨rfl, rfl⟩
          go_upto_if 44 with (fail)
          go_cut [3, 4] (fun s3 s4 wx => s3 = .int .u64 f ∧ s4 = .int .i64 kk ∧ Below w.heap.size w wx)
          case first =>
            rcases HR.out with ⟨rfl, rfl, rfl⟩ | ⟨rfl, rfl, rfl⟩
            · go_wp2_with fail
              with_reducible refine (HS2.out _).mono ?_
              rintro _ w2 ⟨rfl, b2⟩
              go_wp2_with fail
              go_meet
              exact ⟨rfl, rfl, bbw hb b2⟩
            · go_wp2_with fail
              go_meet
              exact ⟨rfl, rfl, hb⟩
          case rest =>
          obtain ⟨rfl, rfl, hb2⟩ := hcut
          clear hb HLS HLE HS2 HR
          go_wp2_with fail
          with_reducible refine (H1.out _).mono ?_
          rintro _ w1 ⟨rfl, b1⟩
          go_wp2_with fail
          with_reducible refine (H2.out _).mono ?_
          rintro _ w2 ⟨rfl, b2⟩
          go_wp2_with fail
          with_reducible refine (H3.out _).mono ?_
          rintro _ w3 ⟨rfl, b3⟩
          go_wp2_with fail
          with_reducible refine (H4.out _).mono ?_
          rintro _ w4 ⟨rfl, b4⟩
          go_wp2_with fail
          with_reducible refine (H5.out _).mono ?_
          rintro _ w5 ⟨rfl, b5⟩
          have y5 := bbw hb2 (bbw b1 (bbw b2 (bbw b3 (bbw b4 b5))))
          clear b1 b2 b3 b4 b5 hb2 H1 H2 H3 H4 H5
          go_wp2_with fail
          go_loopw [8, 59] (fun p iv wr => ∃ (i q : Nat), i ≤ 9 ∧ iv = .int .i64 i ∧ p = .int .u64 q ∧ Hid (q = logS z i) ∧ Below w.heap.size w wr) (fun _ iv _ => 9 - mes iv)
          case atStart => exact ⟨0, _, by omega, rfl, rfl, Lib.hid rfl, y5⟩
          case round =>
            clear y5
            obtain ⟨i, p, hi, rfl, rfl, HQ, hb⟩ := hrel
            by_cases h9 : i = 9
            · subst h9
              obtain rfl := HQ.out
              go_wp2_with fail
              with_reducible refine (H6.out _).mono ?_
              rintro _ w2 ⟨rfl, b2⟩
              go_wp2_with fail
              with_reducible refine (H7.out _).mono ?_
              rintro _ w3 ⟨rfl, b3⟩
              go_wp2_with fail
              with_reducible refine (H8.out _).mono ?_
              rintro _ w4 ⟨rfl, b4⟩
              go_wp2_with fail
              with_reducible refine (H9.out _).mono ?_
              rintro _ w5 ⟨rfl, b5⟩
              have y6 := bbw hb (bbw b2 (bbw b3 (bbw b4 b5)))
              clear hb b2 b3 b4 b5 H6 H7 H8 H9
              rcases HZ2.out with ⟨rfl, rfl⟩ | ⟨hk0, rfl⟩
              · go_wp2_with fail
                go_ret
                exact ⟨rfl, y6⟩
              · have g5 : (kk == 0) = false := by simp; omega
                go_wp2_with fail
                with_reducible refine (HT1.out _).mono ?_
                rintro _ w6 ⟨rfl, b6⟩
                go_wp2_with fail
                with_reducible refine (HT2.out _).mono ?_
                rintro _ w7 ⟨rfl, b7⟩
                go_wp2_with fail
                with_reducible refine (HT3.out _).mono ?_
                rintro _ w8 ⟨rfl, b8⟩
                go_wp2_with fail
                with_reducible refine (HT4.out _).mono ?_
                rintro _ w9 ⟨rfl, b9⟩
                go_wp2_with fail
                with_reducible refine (HT5.out _).mono ?_
                rintro _ w10 ⟨rfl, b10⟩
                go_wp2_with fail
                go_ret
                exact ⟨rfl, bbw y6 (bbw b6 (bbw b7 (bbw b8 (bbw b9 b10))))⟩
            · have hi2 : i < 9 := by omega
              have ht3 := log_tab i hi2
              obtain ⟨v, hv⟩ : ∃ v : Int, 19 - 2 * (i : Int) = v := ⟨_, rfl⟩
              rw [hv] at ht3
              have hp2 : p < 18446744073709551616 := by rw [HQ.out]; exact logS_lt z (by omega)
              have B1 := fun w1 => rf_mul hp2 hz w1
              have B2 := fun w1 => rk_by v (by omega) (by omega) w1
              have B3 := fun w1 => rf_add (fmul_lt p z) (inv1_lt v) w1
              have hst : fadd (fmul p z) (inv1 v) = logS z (i + 1) := by rw [logS_next z hi2, ht3, HQ.out]
              rw [hst] at B3
              generalize fmul p z = y1 at *
              generalize inv1 v = z1 at *
              have HB1 := Lib.hid B1
              have HB2 := Lib.hid B2
              have HB3 := Lib.hid B3
              clear B1 B2 B3 ht3 hst
              go_wp2_with fail
              with_reducible refine (HB1.out _).mono ?_
              rintro _ w2 ⟨rfl, b2⟩
              go_wp2_with fail
              with_reducible refine (HB2.out _).mono ?_
              rintro _ w3 ⟨rfl, b3⟩
              go_wp2_with fail
              with_reducible refine (HB3.out _).mono ?_
              rintro _ w4 ⟨rfl, b4⟩
              go_wp2_with fail
              go_roundw
              case rel => exact ⟨i + 1, _, by omega, vint (by omega), rfl, Lib.hid rfl, bbw hb (bbw b2 (bbw b3 b4))⟩
              case measure => simp [mes, intOf]; omega

end Go.Proofs.YtibgpeaplmcogaaGreatDoor

namespace Go.Proofs.YtibgpeaplmcogaaGreatDoor
set_option maxRecDepth 100000
open Go.RowKit
set_option linter.unusedVariables false
set_option linter.unusedSimpArgs false

theorem fexp_lt {x : Nat} (hx : x < 18446744073709551616) : fexp x < 18446744073709551616 := by
  have hI := INF_lit
  unfold fexp
  split
  · unfold NAN; omega
  · split
    · omega
    · split
      · omega
      · exact fscale_lt (expP_lt _) _
theorem flog_lt {x : Nat} (hx : x < 18446744073709551616) : flog x < 18446744073709551616 := by
  have hkc := (kd_cases x).1
  unfold flog
  by_cases h0 : kd x = 0
  · rw [if_pos h0]; exact sg_lt (Nat.le_refl _)
  · rw [if_neg h0]
    by_cases h4 : kd x = 4 ∨ ng x = true
    · rw [if_pos h4]; unfold NAN; omega
    · rw [if_neg h4]
      by_cases h3 : kd x = 3
      · rw [if_pos h3]; exact hx
      · rw [if_neg h3]
        have hy := logY_lt (lf_lt (x := x) (by omega))
        unfold logZ
        split
        · exact hy
        · exact fadd_lt (fmul_lt _ _) (fadd_lt hy (fmul_lt _ _))
end Go.Proofs.YtibgpeaplmcogaaGreatDoor

namespace Go.Proofs.YtibgpeaplmcogaaGreatDoor
set_option maxRecDepth 100000
open Go.RowKit
set_option linter.unusedVariables false
set_option linter.unusedSimpArgs false

/-- naturals as words -/
def nts (v : List Nat) : List Int := v.map fun (n : Nat) => (n : Int)
theorem nts_at (v : List Nat) (j : Nat) : (nts v).getD j 0 = ((v.getD j 0 : Nat) : Int) := by
  unfold nts
  rw [List.getD_eq_getElem?_getD, List.getElem?_map, List.getD_eq_getElem?_getD]
  cases v[j]? <;> rfl
theorem nts_len (v : List Nat) : (nts v).length = v.length := by unfold nts; simp
theorem nts_toNat {zs : List Int} (h : ∀ z ∈ zs, U z) : nts (zs.map Int.toNat) = zs := by
  unfold nts
  rw [List.map_map]
  conv => rhs; rw [← List.map_id zs]
  refine List.map_congr_left fun z hz => ?_
  have := (h z hz).1
  show ((z.toNat : Nat) : Int) = z
  omega
/-- all are words -/
def AllW (v : List Nat) : Prop := ∀ x ∈ v, x < 18446744073709551616
theorem AllW.at_ {v : List Nat} (h : AllW v) (j : Nat) : v.getD j 0 < 18446744073709551616 := by
  rw [List.getD_eq_getElem?_getD]
  cases e : v[j]? with
  | none => show 0 < _; omega
  | some x => exact h x (List.mem_of_getElem? e)
theorem AllW.snoc {v : List Nat} {x : Nat} (h : AllW v) (hx : x < 18446744073709551616) : AllW (v ++ [x]) := by
  intro y hy
  rcases List.mem_append.1 hy with hy | hy
  · exact h y hy
  · rw [List.mem_singleton.1 hy]; exact hx
theorem AllW.us {v : List Nat} (h : AllW v) : ∀ x ∈ nts v, U x := by
  intro x hx
  unfold nts at hx
  obtain ⟨y, hy, rfl⟩ := List.mem_map.1 hx
  have := h y hy
  exact ⟨by omega, by omega⟩
/-- an instruction's double, by those of the ones ahead -/
def flv (ins : List Nat) (x : PI) (v : List Nat) : Nat :=
  if x.op = 1 then cln (ins.getD x.a.toNat 0)
  else if x.op = 2 then fromQ (qval x.q)
  else if x.op = 3 then flc (v.getD x.a.toNat 0)
  else if x.op = 4 then fadd (v.getD x.a.toNat 0) (v.getD x.b.toNat 0)
  else if x.op = 5 then fsub (v.getD x.a.toNat 0) (v.getD x.b.toNat 0)
  else if x.op = 6 then fmul (v.getD x.a.toNat 0) (v.getD x.b.toNat 0)
  else if x.op = 7 then fdiv (v.getD x.a.toNat 0) (v.getD x.b.toNat 0)
  else if x.op = 8 then fsqrt (v.getD x.a.toNat 0)
  else if x.op = 9 then fexp (v.getD x.a.toNat 0)
  else flog (v.getD x.a.toNat 0)
theorem flv_1 {ins v : List Nat} {a b : Int} {q : Bool × List Int × List Int} : flv ins ⟨1, a, b, q⟩ v = cln (ins.getD a.toNat 0) := by
  unfold flv
  simp only
  rw [if_pos trivial]
theorem flv_2 {ins v : List Nat} {a b : Int} {q : Bool × List Int × List Int} : flv ins ⟨2, a, b, q⟩ v = fromQ (qval q) := by
  unfold flv
  simp only
  rw [if_neg (by decide), if_pos trivial]
theorem flv_3 {ins v : List Nat} {a b : Int} {q : Bool × List Int × List Int} : flv ins ⟨3, a, b, q⟩ v = flc (v.getD a.toNat 0) := by
  unfold flv
  simp only
  rw [if_neg (by decide), if_neg (by decide), if_pos trivial]
theorem flv_4 {ins v : List Nat} {a b : Int} {q : Bool × List Int × List Int} : flv ins ⟨4, a, b, q⟩ v = fadd (v.getD a.toNat 0) (v.getD b.toNat 0) := by
  unfold flv
  simp only
  rw [if_neg (by decide), if_neg (by decide), if_neg (by decide), if_pos trivial]
theorem flv_5 {ins v : List Nat} {a b : Int} {q : Bool × List Int × List Int} : flv ins ⟨5, a, b, q⟩ v = fsub (v.getD a.toNat 0) (v.getD b.toNat 0) := by
  unfold flv
  simp only
  rw [if_neg (by decide), if_neg (by decide), if_neg (by decide), if_neg (by decide), if_pos trivial]
theorem flv_6 {ins v : List Nat} {a b : Int} {q : Bool × List Int × List Int} : flv ins ⟨6, a, b, q⟩ v = fmul (v.getD a.toNat 0) (v.getD b.toNat 0) := by
  unfold flv
  simp only
  rw [if_neg (by decide), if_neg (by decide), if_neg (by decide), if_neg (by decide), if_neg (by decide), if_pos trivial]
theorem flv_7 {ins v : List Nat} {a b : Int} {q : Bool × List Int × List Int} : flv ins ⟨7, a, b, q⟩ v = fdiv (v.getD a.toNat 0) (v.getD b.toNat 0) := by
  unfold flv
  simp only
  rw [if_neg (by decide), if_neg (by decide), if_neg (by decide), if_neg (by decide), if_neg (by decide), if_neg (by decide), if_pos trivial]
theorem flv_8 {ins v : List Nat} {a b : Int} {q : Bool × List Int × List Int} : flv ins ⟨8, a, b, q⟩ v = fsqrt (v.getD a.toNat 0) := by
  unfold flv
  simp only
  rw [if_neg (by decide), if_neg (by decide), if_neg (by decide), if_neg (by decide), if_neg (by decide), if_neg (by decide), if_neg (by decide), if_pos trivial]
theorem flv_9 {ins v : List Nat} {a b : Int} {q : Bool × List Int × List Int} : flv ins ⟨9, a, b, q⟩ v = fexp (v.getD a.toNat 0) := by
  unfold flv
  simp only
  rw [if_neg (by decide), if_neg (by decide), if_neg (by decide), if_neg (by decide), if_neg (by decide), if_neg (by decide), if_neg (by decide), if_neg (by decide), if_pos trivial]
theorem flv_10 {ins v : List Nat} {a b : Int} {q : Bool × List Int × List Int} : flv ins ⟨10, a, b, q⟩ v = flog (v.getD a.toNat 0) := by
  unfold flv
  simp only
  rw [if_neg (by decide), if_neg (by decide), if_neg (by decide), if_neg (by decide), if_neg (by decide), if_neg (by decide), if_neg (by decide), if_neg (by decide), if_neg (by decide)]
def flSt (ins : List Nat) (i : Nat) (x : PI) (v : List Nat) : Except Int Nat := if x.op = 1 ∧ ¬ x.a.toNat < ins.length then .error 11 else .ok (flv ins x v)
theorem fromQ_lt2 (X : Rat) : fromQ X < 18446744073709551616 := by
  unfold fromQ; exact sg_lt (by have := magR_le' X.num.natAbs X.den 0; rw [INF_lit]; exact this)
theorem magM_lt (r : Nat) (e : Int) (more : Bool) : magM r e more < 18446744073709551616 := by
  cases more
  · rw [magM_no]; have := magR_le' r 1 e; omega
  · rw [magM_yes]; have := magR_le' (2 * r + 1) 1 (e - 1); omega
theorem fsqrt_lt {b : Nat} (hb : b < 18446744073709551616) : fsqrt b < 18446744073709551616 := by
  unfold fsqrt
  split
  · exact hb
  · split
    · unfold NAN; omega
    · split
      · exact hb
      · unfold fsqM rtM
        exact magM_lt _ _ _
theorem flv_lt {ins v : List Nat} (hi : AllW ins) (hv : AllW v) (x : PI) : flv ins x v < 18446744073709551616 := by
  have ha := hv.at_ x.a.toNat
  have hb := hv.at_ x.b.toNat
  unfold flv
  split
  · exact cln_lt (hi.at_ _)
  · split
    · exact fromQ_lt2 _
    · split
      · exact flc_lt _
      · split
        · exact fadd_lt ha hb
        · split
          · exact fsub_lt ha
          · split
            · exact fmul_lt _ _
            · split
              · exact fdiv_lt _ _
              · split
                · exact fsqrt_lt ha
                · split
                  · exact fexp_lt ha
                  · exact flog_lt ha

set_option maxRecDepth 100000 in
set_option maxHeartbeats 4000000 in
theorem fl_in {w : World} {A B : Option Addr} {n c m d : Nat} {v ins : List Nat} {q : RQ} {i : Nat} {b : Int} (hv : Sl w A n c (nts v)) (hi : Sl w B m d (nts ins)) (zv : AllW v) (zi : AllW ins) (hlt : i < m) :
    Calls Tryz.prog 62 #[.agg #[.int .i64 1, .int .i64 (i : Int), .int .i64 b, .bool q.s, .slice q.A q.n q.c, .slice q.A' q.n' q.c'], .slice A n c, .slice B m d] w (RetW (cln (ins.getD i 0)) w) := by
  obtain ⟨V, hW, Ba, hb0⟩ := box0 27 w #[.int .i64 1, .int .i64 (i : Int), .int .i64 b, .bool q.s, .slice q.A q.n q.c, .slice q.A' q.n' q.c']
  obtain ⟨b1, o1, rfl, hlt1, hc1⟩ := hi.2 (show 0 < m by omega)
  have k1 := hc1 i (by omega)
  rw [nts_at] at k1
  clear hc1
  have hz := zi.at_ i
  generalize ins.getD i 0 = X at *
  have K := fb_clean hz V
  have HK := Lib.hid K
  have HW := Lib.hid hW
  clear K Ba hW hv hi zv zi
  go_enter Tryz.func62, Tryz.ntmps62
  go_wp2_with fail
  rw [HW.out]
  with_reducible refine HK.out.mono ?_
  rintro _ w1 ⟨rfl, rfl⟩
  go_wp2_with fail
  go_ret
  exact ⟨rfl, hb0⟩

set_option maxRecDepth 100000 in
set_option maxHeartbeats 4000000 in
theorem fl_const {w : World} {A B : Option Addr} {n c m d : Nat} {v ins : List Nat} {q : RQ} {a b : Int} (hv : Sl w A n c (nts v)) (hi : Sl w B m d (nts ins)) (zv : AllW v) (zi : AllW ins) {X : Rat} (hX : q.is w X) (zX : Sz X 20) :
    Calls Tryz.prog 62 #[.agg #[.int .i64 2, .int .i64 a, .int .i64 b, .bool q.s, .slice q.A q.n q.c, .slice q.A' q.n' q.c'], .slice A n c, .slice B m d] w (RetW (fromQ X) w) := by
  obtain ⟨V, hW, Ba, hb0⟩ := box0 27 w #[.int .i64 2, .int .i64 a, .int .i64 b, .bool q.s, .slice q.A q.n q.c, .slice q.A' q.n' q.c']
  have K := fr_from (Q.below hX hb0) zX
  have HK := Lib.hid K
  have HW := Lib.hid hW
  clear K Ba hW hv hi zv zi
  go_enter Tryz.func62, Tryz.ntmps62
  go_wp2_with fail
  rw [HW.out]
  with_reducible refine HK.out.mono ?_
  rintro _ w1 ⟨rfl, b1⟩
  go_wp2_with fail
  go_ret
  exact ⟨rfl, bb hb0 b1⟩

set_option maxRecDepth 100000 in
set_option maxHeartbeats 4000000 in
theorem fl_neg {w : World} {A B : Option Addr} {n c m d : Nat} {v ins : List Nat} {q : RQ} {i : Nat} {b : Int} (hv : Sl w A n c (nts v)) (hi : Sl w B m d (nts ins)) (zv : AllW v) (zi : AllW ins) (hlt : i < n) :
    Calls Tryz.prog 62 #[.agg #[.int .i64 3, .int .i64 (i : Int), .int .i64 b, .bool q.s, .slice q.A q.n q.c, .slice q.A' q.n' q.c'], .slice A n c, .slice B m d] w (RetW (flc (v.getD i 0)) w) := by
  obtain ⟨V, hW, Ba, hb0⟩ := box0 27 w #[.int .i64 3, .int .i64 (i : Int), .int .i64 b, .bool q.s, .slice q.A q.n q.c, .slice q.A' q.n' q.c']
  obtain ⟨b1, o1, rfl, hlt1, hc1⟩ := hv.2 (show 0 < n by omega)
  have k1 := hc1 i (by omega)
  rw [nts_at] at k1
  clear hc1
  have hz := zv.at_ i
  generalize v.getD i 0 = X at *
  have K := fb_flip hz V
  have HK := Lib.hid K
  have HW := Lib.hid hW
  clear K Ba hW hv hi zv zi
  go_enter Tryz.func62, Tryz.ntmps62
  go_wp2_with fail
  rw [HW.out]
  with_reducible refine HK.out.mono ?_
  rintro _ w1 ⟨rfl, rfl⟩
  go_wp2_with fail
  go_ret
  exact ⟨rfl, hb0⟩

set_option maxRecDepth 100000 in
set_option maxHeartbeats 4000000 in
theorem fl_sqrt {w : World} {A B : Option Addr} {n c m d : Nat} {v ins : List Nat} {q : RQ} {i : Nat} {b : Int} (hv : Sl w A n c (nts v)) (hi : Sl w B m d (nts ins)) (zv : AllW v) (zi : AllW ins) (hlt : i < n) :
    Calls Tryz.prog 62 #[.agg #[.int .i64 8, .int .i64 (i : Int), .int .i64 b, .bool q.s, .slice q.A q.n q.c, .slice q.A' q.n' q.c'], .slice A n c, .slice B m d] w (RetW (fsqrt (v.getD i 0)) w) := by
  obtain ⟨V, hW, Ba, hb0⟩ := box0 27 w #[.int .i64 8, .int .i64 (i : Int), .int .i64 b, .bool q.s, .slice q.A q.n q.c, .slice q.A' q.n' q.c']
  obtain ⟨b1, o1, rfl, hlt1, hc1⟩ := hv.2 (show 0 < n by omega)
  have k1 := hc1 i (by omega)
  rw [nts_at] at k1
  clear hc1
  have hz := zv.at_ i
  generalize v.getD i 0 = X at *
  have K := fp_sqrt hz V
  have HK := Lib.hid K
  have HW := Lib.hid hW
  clear K Ba hW hv hi zv zi
  go_enter Tryz.func62, Tryz.ntmps62
  go_wp2_with fail
  rw [HW.out]
  with_reducible refine HK.out.mono ?_
  rintro _ w1 ⟨rfl, b1⟩
  go_wp2_with fail
  go_ret
  exact ⟨rfl, bb hb0 b1⟩

set_option maxRecDepth 100000 in
set_option maxHeartbeats 4000000 in
theorem fl_exp {w : World} {A B : Option Addr} {n c m d : Nat} {v ins : List Nat} {q : RQ} {i : Nat} {b : Int} (hv : Sl w A n c (nts v)) (hi : Sl w B m d (nts ins)) (zv : AllW v) (zi : AllW ins) (hlt : i < n) (hF : Fac w) :
    Calls Tryz.prog 62 #[.agg #[.int .i64 9, .int .i64 (i : Int), .int .i64 b, .bool q.s, .slice q.A q.n q.c, .slice q.A' q.n' q.c'], .slice A n c, .slice B m d] w (RetW (fexp (v.getD i 0)) w) := by
  obtain ⟨V, hW, Ba, hb0⟩ := box0 27 w #[.int .i64 9, .int .i64 (i : Int), .int .i64 b, .bool q.s, .slice q.A q.n q.c, .slice q.A' q.n' q.c']
  obtain ⟨b1, o1, rfl, hlt1, hc1⟩ := hv.2 (show 0 < n by omega)
  have k1 := hc1 i (by omega)
  rw [nts_at] at k1
  clear hc1
  have hz := zv.at_ i
  generalize v.getD i 0 = X at *
  have K := kn_exp hz V (hF.below hb0)
  have HK := Lib.hid K
  have HW := Lib.hid hW
  clear K Ba hW hv hi zv zi
  go_enter Tryz.func62, Tryz.ntmps62
  go_wp2_with fail
  rw [HW.out]
  with_reducible refine HK.out.mono ?_
  rintro _ w1 ⟨rfl, b1⟩
  go_wp2_with fail
  go_ret
  exact ⟨rfl, bb hb0 b1⟩

set_option maxRecDepth 100000 in
set_option maxHeartbeats 4000000 in
theorem fl_log {w : World} {A B : Option Addr} {n c m d : Nat} {v ins : List Nat} {q : RQ} {i : Nat} {b : Int} (hv : Sl w A n c (nts v)) (hi : Sl w B m d (nts ins)) (zv : AllW v) (zi : AllW ins) (hlt : i < n) :
    Calls Tryz.prog 62 #[.agg #[.int .i64 10, .int .i64 (i : Int), .int .i64 b, .bool q.s, .slice q.A q.n q.c, .slice q.A' q.n' q.c'], .slice A n c, .slice B m d] w (RetW (flog (v.getD i 0)) w) := by
  obtain ⟨V, hW, Ba, hb0⟩ := box0 27 w #[.int .i64 10, .int .i64 (i : Int), .int .i64 b, .bool q.s, .slice q.A q.n q.c, .slice q.A' q.n' q.c']
  obtain ⟨b1, o1, rfl, hlt1, hc1⟩ := hv.2 (show 0 < n by omega)
  have k1 := hc1 i (by omega)
  rw [nts_at] at k1
  clear hc1
  have hz := zv.at_ i
  generalize v.getD i 0 = X at *
  have K := kn_log hz V
  have HK := Lib.hid K
  have HW := Lib.hid hW
  clear K Ba hW hv hi zv zi
  go_enter Tryz.func62, Tryz.ntmps62
  go_wp2_with fail
  rw [HW.out]
  with_reducible refine HK.out.mono ?_
  rintro _ w1 ⟨rfl, b1⟩
  go_wp2_with fail
  go_ret
  exact ⟨rfl, bb hb0 b1⟩

set_option maxRecDepth 100000 in
set_option maxHeartbeats 4000000 in
theorem fl_add {w : World} {A B : Option Addr} {n c m d : Nat} {v ins : List Nat} {q : RQ} {i j : Nat} (hv : Sl w A n c (nts v)) (hi : Sl w B m d (nts ins)) (zv : AllW v) (zi : AllW ins) (hi1 : i < n) (hj1 : j < n) :
    Calls Tryz.prog 62 #[.agg #[.int .i64 4, .int .i64 (i : Int), .int .i64 (j : Int), .bool q.s, .slice q.A q.n q.c, .slice q.A' q.n' q.c'], .slice A n c, .slice B m d] w (RetW (fadd (v.getD i 0) (v.getD j 0)) w) := by
  obtain ⟨V, hW, Ba, hb0⟩ := box0 27 w #[.int .i64 4, .int .i64 (i : Int), .int .i64 (j : Int), .bool q.s, .slice q.A q.n q.c, .slice q.A' q.n' q.c']
  obtain ⟨b1, o1, rfl, hlt1, hc1⟩ := hv.2 (show 0 < n by omega)
  have k1 := hc1 i (by omega)
  have k2 := hc1 j (by omega)
  rw [nts_at] at k1 k2
  clear hc1
  have hz := zv.at_ i
  have hy := zv.at_ j
  generalize v.getD i 0 = X at *
  generalize v.getD j 0 = Y at *
  have K := fun (w1 : World) => fs_add hz hy w1
  have hS : ∀ w', Below V.heap.size V w' → (w'.cell? ⟨w.heap.size, 1, none⟩ = some (.int .i64 (i : Int)) ∧ w'.cell? ⟨w.heap.size, 2, none⟩ = some (.int .i64 (j : Int))) ∧ w'.cell? ⟨b1, o1 + i, none⟩ = some (.int .u64 (X : Int)) ∧ w'.cell? ⟨b1, o1 + j, none⟩ = some (.int .u64 (Y : Int)) := fun w' hb =>
    ⟨⟨(Ba.below' hb).six.1.2.1, (Ba.below' hb).six.1.2.2.1⟩, ((bb hb0 hb).cell (p := ⟨b1, o1 + i, none⟩) hlt1).trans k1, ((bb hb0 hb).cell (p := ⟨b1, o1 + j, none⟩) hlt1).trans k2⟩
  have HK := Lib.hid K
  have HS := Lib.hid hS
  have HW := Lib.hid hW
  clear K hS Ba hW hv hi zv zi k1 k2
  go_enter Tryz.func62, Tryz.ntmps62
  go_wp2_with fail
  rw [HW.out]
  obtain ⟨⟨p1, p2⟩, p3, p4⟩ := HS.out _ (Below.refl _ V)
  go_region_held3 (fun w' => (w'.cell? ⟨w.heap.size, 1, none⟩ = some (.int .i64 (i : Int)) ∧ w'.cell? ⟨w.heap.size, 2, none⟩ = some (.int .i64 (j : Int))) ∧ w'.cell? ⟨b1, o1 + i, none⟩ = some (.int .u64 (X : Int)) ∧ w'.cell? ⟨b1, o1 + j, none⟩ = some (.int .u64 (Y : Int))) (first | exact HS.out _ (Below.refl _ V).drew | exact HS.out _ x2 | fail)
    (first
      | (go_at_call 97; (with_reducible refine (HK.out _).mono ?_); rintro _ w2 ⟨rfl, b2⟩; have x2 : Below V.heap.size V w2 := Below.undrew b2))
  all_goals
    go_wp2_with fail
    go_ret
    exact ⟨rfl, bb hb0 x2⟩

set_option maxRecDepth 100000 in
set_option maxHeartbeats 4000000 in
theorem fl_sub {w : World} {A B : Option Addr} {n c m d : Nat} {v ins : List Nat} {q : RQ} {i j : Nat} (hv : Sl w A n c (nts v)) (hi : Sl w B m d (nts ins)) (zv : AllW v) (zi : AllW ins) (hi1 : i < n) (hj1 : j < n) :
    Calls Tryz.prog 62 #[.agg #[.int .i64 5, .int .i64 (i : Int), .int .i64 (j : Int), .bool q.s, .slice q.A q.n q.c, .slice q.A' q.n' q.c'], .slice A n c, .slice B m d] w (RetW (fsub (v.getD i 0) (v.getD j 0)) w) := by
  obtain ⟨V, hW, Ba, hb0⟩ := box0 27 w #[.int .i64 5, .int .i64 (i : Int), .int .i64 (j : Int), .bool q.s, .slice q.A q.n q.c, .slice q.A' q.n' q.c']
  obtain ⟨b1, o1, rfl, hlt1, hc1⟩ := hv.2 (show 0 < n by omega)
  have k1 := hc1 i (by omega)
  have k2 := hc1 j (by omega)
  rw [nts_at] at k1 k2
  clear hc1
  have hz := zv.at_ i
  have hy := zv.at_ j
  generalize v.getD i 0 = X at *
  generalize v.getD j 0 = Y at *
  have K := fun (w1 : World) => fs_sub hz hy w1
  have hS : ∀ w', Below V.heap.size V w' → (w'.cell? ⟨w.heap.size, 1, none⟩ = some (.int .i64 (i : Int)) ∧ w'.cell? ⟨w.heap.size, 2, none⟩ = some (.int .i64 (j : Int))) ∧ w'.cell? ⟨b1, o1 + i, none⟩ = some (.int .u64 (X : Int)) ∧ w'.cell? ⟨b1, o1 + j, none⟩ = some (.int .u64 (Y : Int)) := fun w' hb =>
    ⟨⟨(Ba.below' hb).six.1.2.1, (Ba.below' hb).six.1.2.2.1⟩, ((bb hb0 hb).cell (p := ⟨b1, o1 + i, none⟩) hlt1).trans k1, ((bb hb0 hb).cell (p := ⟨b1, o1 + j, none⟩) hlt1).trans k2⟩
  have HK := Lib.hid K
  have HS := Lib.hid hS
  have HW := Lib.hid hW
  clear K hS Ba hW hv hi zv zi k1 k2
  go_enter Tryz.func62, Tryz.ntmps62
  go_wp2_with fail
  rw [HW.out]
  obtain ⟨⟨p1, p2⟩, p3, p4⟩ := HS.out _ (Below.refl _ V)
  go_region_held3 (fun w' => (w'.cell? ⟨w.heap.size, 1, none⟩ = some (.int .i64 (i : Int)) ∧ w'.cell? ⟨w.heap.size, 2, none⟩ = some (.int .i64 (j : Int))) ∧ w'.cell? ⟨b1, o1 + i, none⟩ = some (.int .u64 (X : Int)) ∧ w'.cell? ⟨b1, o1 + j, none⟩ = some (.int .u64 (Y : Int))) (first | exact HS.out _ (Below.refl _ V).drew | exact HS.out _ x2 | fail)
    (first
      | (go_at_call 98; (with_reducible refine (HK.out _).mono ?_); rintro _ w2 ⟨rfl, b2⟩; have x2 : Below V.heap.size V w2 := Below.undrew b2))
  all_goals
    go_wp2_with fail
    go_ret
    exact ⟨rfl, bb hb0 x2⟩

set_option maxRecDepth 100000 in
set_option maxHeartbeats 4000000 in
theorem fl_mul {w : World} {A B : Option Addr} {n c m d : Nat} {v ins : List Nat} {q : RQ} {i j : Nat} (hv : Sl w A n c (nts v)) (hi : Sl w B m d (nts ins)) (zv : AllW v) (zi : AllW ins) (hi1 : i < n) (hj1 : j < n) :
    Calls Tryz.prog 62 #[.agg #[.int .i64 6, .int .i64 (i : Int), .int .i64 (j : Int), .bool q.s, .slice q.A q.n q.c, .slice q.A' q.n' q.c'], .slice A n c, .slice B m d] w (RetW (fmul (v.getD i 0) (v.getD j 0)) w) := by
  obtain ⟨V, hW, Ba, hb0⟩ := box0 27 w #[.int .i64 6, .int .i64 (i : Int), .int .i64 (j : Int), .bool q.s, .slice q.A q.n q.c, .slice q.A' q.n' q.c']
  obtain ⟨b1, o1, rfl, hlt1, hc1⟩ := hv.2 (show 0 < n by omega)
  have k1 := hc1 i (by omega)
  have k2 := hc1 j (by omega)
  rw [nts_at] at k1 k2
  clear hc1
  have hz := zv.at_ i
  have hy := zv.at_ j
  generalize v.getD i 0 = X at *
  generalize v.getD j 0 = Y at *
  have K := fun (w1 : World) => fp_mul hz hy w1
  have hS : ∀ w', Below V.heap.size V w' → (w'.cell? ⟨w.heap.size, 1, none⟩ = some (.int .i64 (i : Int)) ∧ w'.cell? ⟨w.heap.size, 2, none⟩ = some (.int .i64 (j : Int))) ∧ w'.cell? ⟨b1, o1 + i, none⟩ = some (.int .u64 (X : Int)) ∧ w'.cell? ⟨b1, o1 + j, none⟩ = some (.int .u64 (Y : Int)) := fun w' hb =>
    ⟨⟨(Ba.below' hb).six.1.2.1, (Ba.below' hb).six.1.2.2.1⟩, ((bb hb0 hb).cell (p := ⟨b1, o1 + i, none⟩) hlt1).trans k1, ((bb hb0 hb).cell (p := ⟨b1, o1 + j, none⟩) hlt1).trans k2⟩
  have HK := Lib.hid K
  have HS := Lib.hid hS
  have HW := Lib.hid hW
  clear K hS Ba hW hv hi zv zi k1 k2
  go_enter Tryz.func62, Tryz.ntmps62
  go_wp2_with fail
  rw [HW.out]
  obtain ⟨⟨p1, p2⟩, p3, p4⟩ := HS.out _ (Below.refl _ V)
  go_region_held3 (fun w' => (w'.cell? ⟨w.heap.size, 1, none⟩ = some (.int .i64 (i : Int)) ∧ w'.cell? ⟨w.heap.size, 2, none⟩ = some (.int .i64 (j : Int))) ∧ w'.cell? ⟨b1, o1 + i, none⟩ = some (.int .u64 (X : Int)) ∧ w'.cell? ⟨b1, o1 + j, none⟩ = some (.int .u64 (Y : Int))) (first | exact HS.out _ (Below.refl _ V).drew | exact HS.out _ x2 | fail)
    (first
      | (go_at_call 99; (with_reducible refine (HK.out _).mono ?_); rintro _ w2 ⟨rfl, b2⟩; have x2 : Below V.heap.size V w2 := Below.undrew b2))
  all_goals
    go_wp2_with fail
    go_ret
    exact ⟨rfl, bb hb0 x2⟩

set_option maxRecDepth 100000 in
set_option maxHeartbeats 4000000 in
theorem fl_div {w : World} {A B : Option Addr} {n c m d : Nat} {v ins : List Nat} {q : RQ} {i j : Nat} (hv : Sl w A n c (nts v)) (hi : Sl w B m d (nts ins)) (zv : AllW v) (zi : AllW ins) (hi1 : i < n) (hj1 : j < n) :
    Calls Tryz.prog 62 #[.agg #[.int .i64 7, .int .i64 (i : Int), .int .i64 (j : Int), .bool q.s, .slice q.A q.n q.c, .slice q.A' q.n' q.c'], .slice A n c, .slice B m d] w (RetW (fdiv (v.getD i 0) (v.getD j 0)) w) := by
  obtain ⟨V, hW, Ba, hb0⟩ := box0 27 w #[.int .i64 7, .int .i64 (i : Int), .int .i64 (j : Int), .bool q.s, .slice q.A q.n q.c, .slice q.A' q.n' q.c']
  obtain ⟨b1, o1, rfl, hlt1, hc1⟩ := hv.2 (show 0 < n by omega)
  have k1 := hc1 i (by omega)
  have k2 := hc1 j (by omega)
  rw [nts_at] at k1 k2
  clear hc1
  have hz := zv.at_ i
  have hy := zv.at_ j
  generalize v.getD i 0 = X at *
  generalize v.getD j 0 = Y at *
  have K := fun (w1 : World) => fp_div hz hy w1
  have hS : ∀ w', Below V.heap.size V w' → (w'.cell? ⟨w.heap.size, 1, none⟩ = some (.int .i64 (i : Int)) ∧ w'.cell? ⟨w.heap.size, 2, none⟩ = some (.int .i64 (j : Int))) ∧ w'.cell? ⟨b1, o1 + i, none⟩ = some (.int .u64 (X : Int)) ∧ w'.cell? ⟨b1, o1 + j, none⟩ = some (.int .u64 (Y : Int)) := fun w' hb =>
    ⟨⟨(Ba.below' hb).six.1.2.1, (Ba.below' hb).six.1.2.2.1⟩, ((bb hb0 hb).cell (p := ⟨b1, o1 + i, none⟩) hlt1).trans k1, ((bb hb0 hb).cell (p := ⟨b1, o1 + j, none⟩) hlt1).trans k2⟩
  have HK := Lib.hid K
  have HS := Lib.hid hS
  have HW := Lib.hid hW
  clear K hS Ba hW hv hi zv zi k1 k2
  go_enter Tryz.func62, Tryz.ntmps62
  go_wp2_with fail
  rw [HW.out]
  obtain ⟨⟨p1, p2⟩, p3, p4⟩ := HS.out _ (Below.refl _ V)
  go_region_held3 (fun w' => (w'.cell? ⟨w.heap.size, 1, none⟩ = some (.int .i64 (i : Int)) ∧ w'.cell? ⟨w.heap.size, 2, none⟩ = some (.int .i64 (j : Int))) ∧ w'.cell? ⟨b1, o1 + i, none⟩ = some (.int .u64 (X : Int)) ∧ w'.cell? ⟨b1, o1 + j, none⟩ = some (.int .u64 (Y : Int))) (first | exact HS.out _ (Below.refl _ V).drew | exact HS.out _ x2 | fail)
    (first
      | (go_at_call 100; (with_reducible refine (HK.out _).mono ?_); rintro _ w2 ⟨rfl, b2⟩; have x2 : Below V.heap.size V w2 := Below.undrew b2))
  all_goals
    go_wp2_with fail
    go_ret
    exact ⟨rfl, bb hb0 x2⟩

theorem fl_value {w : World} {A B : Option Addr} {n c m d : Nat} {v ins : List Nat} {x : RI} (hx : x.ok w) (hv : Sl w A n c (nts v)) (hi : Sl w B m d (nts ins)) (zv : AllW v) (zi : AllW ins) (hF : Fac w) (h1 : x.q.n ≤ 20) (h2 : x.q.n' ≤ 20) (hfit : fits vq nq x.pi n) (hin : x.op = 1 → x.a.toNat < ins.length) :
    Calls Tryz.prog 62 #[.agg #[.int .i64 x.op, .int .i64 x.a, .int .i64 x.b, .bool x.q.s, .slice x.q.A x.q.n x.q.c, .slice x.q.A' x.q.n' x.q.c'], .slice A n c, .slice B m d] w (RetW (flv ins x.pi v) w) := by
  obtain ⟨op, a, b, q⟩ := x
  obtain ⟨_, _, _, hq⟩ := hx
  have hlv : n = v.length := by rw [← nts_len]; exact hv.len
  have hli : m = ins.length := by rw [← nts_len]; exact hi.len
  simp only at h1 h2 hq hin ⊢
  have hfit : fits vq nq ⟨op, a, b, (q.s, q.z, q.z')⟩ n := hfit
  show Calls _ _ _ w (RetW (flv ins ⟨op, a, b, (q.s, q.z, q.z')⟩ v) w)
  rcases op_cases op with (rfl | rfl | rfl | rfl | rfl | rfl | rfl | rfl | rfl | rfl) | hno
  · obtain ⟨g1, g2⟩ := fit_in hfit
    obtain ⟨i, rfl⟩ : ∃ i : Nat, a = (i : Int) := ⟨a.toNat, by omega⟩
    have := hin rfl
    rw [flv_1, show ((i : Int)).toNat = i by omega]
    exact fl_in hv hi zv zi (by omega)
  · obtain ⟨X, g1, g2, g3⟩ := right_Q hq.1 hq.2.1 h1 h2 (fit_const hfit)
    have e : qval (q.s, q.z, q.z') = X := g3.symm
    rw [flv_2, e]
    exact fl_const hv hi zv zi g1 g2
  · obtain ⟨g1, g2⟩ := fit_one (by decide) (by decide) (by decide) hfit
    obtain ⟨i, rfl⟩ : ∃ i : Nat, a = (i : Int) := ⟨a.toNat, by omega⟩
    rw [flv_3, show ((i : Int)).toNat = i by omega]
    exact fl_neg hv hi zv zi (by omega)
  · obtain ⟨g1, g2, g3, g4⟩ := fit_two (by decide) (by decide) (by decide) hfit
    obtain ⟨i, rfl⟩ : ∃ i : Nat, a = (i : Int) := ⟨a.toNat, by omega⟩
    obtain ⟨j, rfl⟩ : ∃ j : Nat, b = (j : Int) := ⟨b.toNat, by omega⟩
    rw [flv_4, show ((i : Int)).toNat = i by omega, show ((j : Int)).toNat = j by omega]
    exact fl_add hv hi zv zi (by omega) (by omega)
  · obtain ⟨g1, g2, g3, g4⟩ := fit_two (by decide) (by decide) (by decide) hfit
    obtain ⟨i, rfl⟩ : ∃ i : Nat, a = (i : Int) := ⟨a.toNat, by omega⟩
    obtain ⟨j, rfl⟩ : ∃ j : Nat, b = (j : Int) := ⟨b.toNat, by omega⟩
    rw [flv_5, show ((i : Int)).toNat = i by omega, show ((j : Int)).toNat = j by omega]
    exact fl_sub hv hi zv zi (by omega) (by omega)
  · obtain ⟨g1, g2, g3, g4⟩ := fit_two (by decide) (by decide) (by decide) hfit
    obtain ⟨i, rfl⟩ : ∃ i : Nat, a = (i : Int) := ⟨a.toNat, by omega⟩
    obtain ⟨j, rfl⟩ : ∃ j : Nat, b = (j : Int) := ⟨b.toNat, by omega⟩
    rw [flv_6, show ((i : Int)).toNat = i by omega, show ((j : Int)).toNat = j by omega]
    exact fl_mul hv hi zv zi (by omega) (by omega)
  · obtain ⟨g1, g2, g3, g4⟩ := fit_two (by decide) (by decide) (by decide) hfit
    obtain ⟨i, rfl⟩ : ∃ i : Nat, a = (i : Int) := ⟨a.toNat, by omega⟩
    obtain ⟨j, rfl⟩ : ∃ j : Nat, b = (j : Int) := ⟨b.toNat, by omega⟩
    rw [flv_7, show ((i : Int)).toNat = i by omega, show ((j : Int)).toNat = j by omega]
    exact fl_div hv hi zv zi (by omega) (by omega)
  · obtain ⟨g1, g2⟩ := fit_one (by decide) (by decide) (by decide) hfit
    obtain ⟨i, rfl⟩ : ∃ i : Nat, a = (i : Int) := ⟨a.toNat, by omega⟩
    rw [flv_8, show ((i : Int)).toNat = i by omega]
    exact fl_sqrt hv hi zv zi (by omega)
  · obtain ⟨g1, g2⟩ := fit_one (by decide) (by decide) (by decide) hfit
    obtain ⟨i, rfl⟩ : ∃ i : Nat, a = (i : Int) := ⟨a.toNat, by omega⟩
    rw [flv_9, show ((i : Int)).toNat = i by omega]
    exact fl_exp hv hi zv zi (by omega) hF
  · obtain ⟨g1, g2⟩ := fit_one (by decide) (by decide) (by decide) hfit
    obtain ⟨i, rfl⟩ : ∃ i : Nat, a = (i : Int) := ⟨a.toNat, by omega⟩
    rw [flv_10, show ((i : Int)).toNat = i by omega]
    exact fl_log hv hi zv zi (by omega)
  · exact (fit_no hno.2.1 hno.1 (arity_no hno) hfit).elim


theorem db_3 {a b : Nat} (ha : a < 18446744073709551616) (hb : b < 18446744073709551616) (w : World) :
    Calls Tryz.prog 65 #[.int .i64 3, .int .u64 (a : Int), .int .u64 (b : Int)] w (RetW (flc a) w) := by
  have HK := Lib.hid (rf_flip ha w)
  go_enter Tryz.func65, Tryz.ntmps65
  go_wp2_with fail
  with_reducible refine HK.out.mono ?_
  rintro _ w1 ⟨rfl, rfl⟩
  go_wp2_with fail
  go_ret
  exact ⟨rfl, Below.refl _ _⟩

theorem db_4 {a b : Nat} (ha : a < 18446744073709551616) (hb : b < 18446744073709551616) (w : World) :
    Calls Tryz.prog 65 #[.int .i64 4, .int .u64 (a : Int), .int .u64 (b : Int)] w (RetW (fadd a b) w) := by
  have HK := Lib.hid (rf_add ha hb w)
  go_enter Tryz.func65, Tryz.ntmps65
  go_wp2_with fail
  with_reducible refine HK.out.mono ?_
  rintro _ w1 ⟨rfl, b1⟩
  go_wp2_with fail
  go_ret
  exact ⟨rfl, b1⟩

theorem db_5 {a b : Nat} (ha : a < 18446744073709551616) (hb : b < 18446744073709551616) (w : World) :
    Calls Tryz.prog 65 #[.int .i64 5, .int .u64 (a : Int), .int .u64 (b : Int)] w (RetW (fsub a b) w) := by
  have HK := Lib.hid (rf_sub ha hb w)
  go_enter Tryz.func65, Tryz.ntmps65
  go_wp2_with fail
  with_reducible refine HK.out.mono ?_
  rintro _ w1 ⟨rfl, b1⟩
  go_wp2_with fail
  go_ret
  exact ⟨rfl, b1⟩

theorem db_6 {a b : Nat} (ha : a < 18446744073709551616) (hb : b < 18446744073709551616) (w : World) :
    Calls Tryz.prog 65 #[.int .i64 6, .int .u64 (a : Int), .int .u64 (b : Int)] w (RetW (fmul a b) w) := by
  have HK := Lib.hid (rf_mul ha hb w)
  go_enter Tryz.func65, Tryz.ntmps65
  go_wp2_with fail
  with_reducible refine HK.out.mono ?_
  rintro _ w1 ⟨rfl, b1⟩
  go_wp2_with fail
  go_ret
  exact ⟨rfl, b1⟩

theorem db_7 {a b : Nat} (ha : a < 18446744073709551616) (hb : b < 18446744073709551616) (w : World) :
    Calls Tryz.prog 65 #[.int .i64 7, .int .u64 (a : Int), .int .u64 (b : Int)] w (RetW (fdiv a b) w) := by
  have HK := Lib.hid (rf_div ha hb w)
  go_enter Tryz.func65, Tryz.ntmps65
  go_wp2_with fail
  with_reducible refine HK.out.mono ?_
  rintro _ w1 ⟨rfl, b1⟩
  go_wp2_with fail
  go_ret
  exact ⟨rfl, b1⟩

theorem db_8 {a b : Nat} (ha : a < 18446744073709551616) (hb : b < 18446744073709551616) (w : World) :
    Calls Tryz.prog 65 #[.int .i64 8, .int .u64 (a : Int), .int .u64 (b : Int)] w (RetW (fsqrt a) w) := by
  have HK := Lib.hid (rf_sqrt ha w)
  go_enter Tryz.func65, Tryz.ntmps65
  go_wp2_with fail
  with_reducible refine HK.out.mono ?_
  rintro _ w1 ⟨rfl, b1⟩
  go_wp2_with fail
  go_ret
  exact ⟨rfl, b1⟩

theorem db_9 {a b : Nat} (ha : a < 18446744073709551616) (hb : b < 18446744073709551616) (w : World) :
    Calls Tryz.prog 65 #[.int .i64 9, .int .u64 (a : Int), .int .u64 (b : Int)] w (RetW (fexp a) w) := by
  have HK := Lib.hid (rk_exp ha w)
  go_enter Tryz.func65, Tryz.ntmps65
  go_wp2_with fail
  with_reducible refine HK.out.mono ?_
  rintro _ w1 ⟨rfl, b1⟩
  go_wp2_with fail
  go_ret
  exact ⟨rfl, b1⟩

theorem db_10 {a b : Nat} (ha : a < 18446744073709551616) (hb : b < 18446744073709551616) (w : World) :
    Calls Tryz.prog 65 #[.int .i64 10, .int .u64 (a : Int), .int .u64 (b : Int)] w (RetW (flog a) w) := by
  have HK := Lib.hid (rk_log ha w)
  go_enter Tryz.func65, Tryz.ntmps65
  go_wp2_with fail
  with_reducible refine HK.out.mono ?_
  rintro _ w1 ⟨rfl, b1⟩
  go_wp2_with fail
  go_ret
  exact ⟨rfl, b1⟩

theorem ref_double {x : PI} {ins v : List Nat} {n : Nat} (hfit : fits vq nq x n) (h1 : ¬ x.op = 1) (h2 : ¬ x.op = 2) (zv : AllW v) (w : World) :
    Calls Tryz.prog 65 #[.int .i64 x.op, .int .u64 ((v.getD x.a.toNat 0 : Nat) : Int), .int .u64 ((v.getD x.b.toNat 0 : Nat) : Int)] w (RetW (flv ins x v) w) := by
  have ha := zv.at_ x.a.toNat
  have hb := zv.at_ x.b.toNat
  obtain ⟨op, a, b, q⟩ := x
  simp only at h1 h2 ha hb ⊢
  rcases op_cases op with (rfl | rfl | rfl | rfl | rfl | rfl | rfl | rfl | rfl | rfl) | hno
  · exact absurd rfl h1
  · exact absurd rfl h2
  · rw [flv_3]; exact db_3 ha hb w
  · rw [flv_4]; exact db_4 ha hb w
  · rw [flv_5]; exact db_5 ha hb w
  · rw [flv_6]; exact db_6 ha hb w
  · rw [flv_7]; exact db_7 ha hb w
  · rw [flv_8]; exact db_8 ha hb w
  · rw [flv_9]; exact db_9 ha hb w
  · rw [flv_10]; exact db_10 ha hb w
  · exact (fit_no hno.2.1 hno.1 (arity_no hno) hfit).elim

end Go.Proofs.YtibgpeaplmcogaaGreatDoor
