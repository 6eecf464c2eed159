/-
  Where the listed variable reads as the row says, its cells hold the factorials of 0 to 13. Condition: the row's own premise on the listed variable.
-/
import Derived.Test.YtmoahgiklgicgaaDoorRfNearAll
import Derived.Test.YtmoahgiklgicgaaDoorRows
import Derived.LaidMore
import Derived.Lay
namespace Go.Proofs.YtmoahgiklgicgaaDoor
set_option maxRecDepth 100000
open Go.RowKit
set_option linter.unusedVariables false
set_option linter.unusedSimpArgs false

def mesU (v : Value) : Nat := (intOf v + 2000).toNat
def mesD (v : Value) : Nat := (2000 - intOf v).toNat
theorem mesU_lt {a b : Int} (h : a < b) (hb : -2000 < b) : mesU (.int .i64 a) < mesU (.int .i64 b) := by
  show (a + 2000).toNat < (b + 2000).toNat
  omega
theorem mesD_lt {a b : Int} (h : b < a) (hb : b < 2000) : mesD (.int .i64 a) < mesD (.int .i64 b) := by
  show (2000 - a).toNat < (2000 - b).toNat
  omega
/-- a step of the first loop, and of the second -/
theorem log_up {x : Nat} (hp : 0 < sig x) (hf : fld x < 2047) {j : Nat} (h : j = 0 ∨ (blen (sig x) : Int) + xpo x + j ≤ 1) :
    ∃ F : Nat, F = magR (sig x) 1 (xpo x + j) ∧ F < 18446744073709551616 ∧ fless F ONE = decide ((blen (sig x) : Int) + xpo x + j ≤ 0) ∧ fscale F 1 = magR (sig x) 1 (xpo x + ((j + 1 : Nat) : Int)) := by
  obtain ⟨x1, x2⟩ := xpo_range hf
  have hs := sig_lt x
  have hb0 := blen_pos hp
  have hI := INF_lit
  obtain ⟨a1, _, _, _, a5⟩ := scale_twice (m := sig x) (e := xpo x + j) hs (by omega) (by omega) 1
  obtain ⟨c1, _⟩ := log_where (m := sig x) (e := xpo x + j) hp hs (by omega) (by omega)
  refine ⟨_, rfl, by omega, ?_, ?_⟩
  · rw [c1, Int.add_assoc]
  · rw [a5]; congr 1; omega
theorem log_down {x : Nat} (hp : 0 < sig x) (hf : fld x < 2047) {k : Int} (h : (0 ≤ k ∧ k ≤ lk0 x) ∨ k = lk0 x) :
    ∃ F : Nat, F = magR (sig x) 1 (xpo x - k) ∧ F < 18446744073709551616 ∧ fless F TWO = decide (lk0 x ≤ k) ∧ (k < lk0 x → fscale F (-1) = magR (sig x) 1 (xpo x - (k + 1))) ∧ (k = lk0 x → F = lf0 x) := by
  obtain ⟨x1, x2⟩ := xpo_range hf
  have hs := sig_lt x
  have hb0 := blen_pos hp
  have hsb := sig_blen x
  have hI := INF_lit
  have hl : lk0 x = xpo x + blen (sig x) - 1 := rfl
  obtain ⟨a1, _, _, _, a5⟩ := scale_twice (m := sig x) (e := xpo x - k) hs (by omega) (by omega) (-1)
  obtain ⟨_, c2⟩ := log_where (m := sig x) (e := xpo x - k) hp hs (by omega) (by omega)
  refine ⟨_, rfl, by omega, ?_, ?_, ?_⟩
  · rw [c2, Bool.eq_iff_iff, decide_eq_true_eq, decide_eq_true_eq]; omega
  · intro _; rw [a5]; congr 1; omega
  · intro hk
    rw [← (lf0_word hp).1, hk, hl]
    congr 1
    omega

set_option maxRecDepth 100000 in
set_option maxHeartbeats 8000000 in
theorem rk_log {x : Nat} (hx : x < 18446744073709551616) (w : World) :
    Calls Tryd.prog 8 #[.int .u64 x] w (RetW (flog x) w) := by
  have K := Lib.hid (rf_kind hx w)
  have N := Lib.hid (rf_neg hx w)
  have hkc := (kd_cases x).1
  by_cases h0 : kd x = 0
  · have e : flog x = sg true INF := by unfold flog; rw [if_pos h0]
    rw [e]
    rw [h0] at K
    have IN := Lib.hid (rf_inf true w)
    generalize sg true INF = v at *
    go_enter Tryd.func8, Tryd.ntmps8
    go_wp2_with fail
    refine K.out.mono ?_
    rintro _ w' ⟨rfl, rfl⟩
    go_wp2_with fail
    refine IN.out.mono ?_
    rintro _ w' ⟨rfl, rfl⟩
    go_wp2_with fail
    go_ret
    exact ⟨rfl, Below.refl _ _⟩
  have g0 : ((kd x : Int) == 0) = false := by simp; omega
  by_cases h4 : kd x = 4
  · have e : flog x = NAN := by unfold flog; rw [if_neg h0, if_pos (.inl h4)]
    rw [e]
    rw [h4] at K
    have NA := Lib.hid (rf_nan w)
    generalize NAN = v at *
    go_enter Tryd.func8, Tryd.ntmps8
    go_wp2_with fail
    refine K.out.mono ?_
    rintro _ w' ⟨rfl, rfl⟩
    go_wp2_with fail
    refine K.out.mono ?_
    rintro _ w' ⟨rfl, rfl⟩
    go_wp2_with fail
    refine NA.out.mono ?_
    rintro _ w' ⟨rfl, rfl⟩
    go_wp2_with fail
    go_ret
    exact ⟨rfl, Below.refl _ _⟩
  have g4 : ((kd x : Int) == 4) = false := by simp; omega
  cases hn : ng x
  case true =>
    have e : flog x = NAN := by unfold flog; rw [if_neg h0, if_pos (.inr hn)]
    rw [e]
    rw [hn] at N
    have NA := Lib.hid (rf_nan w)
    generalize NAN = v at *
    generalize kd x = k at *
    go_enter Tryd.func8, Tryd.ntmps8
    go_wp2_with fail
    refine K.out.mono ?_
    rintro _ w' ⟨rfl, rfl⟩
    go_wp2_with fail
    refine K.out.mono ?_
    rintro _ w' ⟨rfl, rfl⟩
    go_wp2_with fail
    refine N.out.mono ?_
    rintro _ w' ⟨rfl, rfl⟩
    go_wp2_with fail
    refine NA.out.mono ?_
    rintro _ w' ⟨rfl, rfl⟩
    go_wp2_with fail
    go_ret
    exact ⟨rfl, Below.refl _ _⟩
  case false =>
  rw [hn] at N
  by_cases h3 : kd x = 3
  · have e : flog x = x := by unfold flog; rw [if_neg h0, if_neg (by rw [hn]; simp; omega), if_pos h3]
    rw [e]
    rw [h3] at K
    go_enter Tryd.func8, Tryd.ntmps8
    go_wp2_with fail
    refine K.out.mono ?_
    rintro _ w' ⟨rfl, rfl⟩
    go_wp2_with fail
    refine K.out.mono ?_
    rintro _ w' ⟨rfl, rfl⟩
    go_wp2_with fail
    refine N.out.mono ?_
    rintro _ w' ⟨rfl, rfl⟩
    go_wp2_with fail
    refine K.out.mono ?_
    rintro _ w' ⟨rfl, rfl⟩
    go_wp2_with fail
    go_ret
    exact ⟨rfl, Below.refl _ _⟩
  have g3 : ((kd x : Int) == 3) = false := by simp; omega
  have hk : kd x = 1 ∨ kd x = 2 := by omega
  have hp := sig_pos hk
  have hf : fld x < 2047 := (kd_cases x).2.1 (by omega)
  obtain ⟨_, c2, c3, _, _⟩ := lk_cases hx hk hn
  obtain ⟨_, z2, z3, z4⟩ := lf0_word hp
  have hlk : -1074 ≤ lk x ∧ lk x ≤ 1024 := by unfold lk; split <;> omega
  have e : flog x = logZ (lf x) (lk x) := by unfold flog; rw [if_neg h0, if_neg (by rw [hn]; simp; omega), if_neg h3]
  rw [e]
  clear e
  -- the two loops
  have hxw : x = magR (sig x) 1 (xpo x + ((0 : Nat) : Int)) := by
    rw [show xpo x + ((0 : Nat) : Int) = xpo x by omega, sig_word hf, pos_word hx hn]
  obtain ⟨x1, x2⟩ := xpo_range hf
  have hb0 := blen_pos hp
  have hl0 : lk0 x = xpo x + blen (sig x) - 1 := rfl
  have UP := Lib.hid (fun (j : Nat) h => log_up hp hf (j := j) h)
  have DN := Lib.hid (fun (k : Int) h => log_down hp hf (k := k) h)
  have LE : ∀ w1, Calls Tryd.prog 12 #[.int .u64 4609047870845172685, .int .u64 (lf0 x)] w1 fun e w' => e = .returned (.bool (decide (RR < lf0 x))) ∧ w1 = w' := by
    intro w1
    rw [← z3, RR_lit]
    exact rf_less (a := 4609047870845172685) (by omega) z4 w1
  have S2 := fun w1 => rf_scale z4 (-1) w1
  rw [z2] at S2
  have hF : lf x = if RR < lf0 x then lf0 x - 4503599627370496 else lf0 x := rfl
  have hK : lk x = if RR < lf0 x then lk0 x + 1 else lk0 x := rfl
  have hR : (decide (RR < lf0 x) = true ∧ lf x = lf0 x - 4503599627370496 ∧ lk x = lk0 x + 1) ∨ (decide (RR < lf0 x) = false ∧ lf x = lf0 x ∧ lk x = lk0 x) := by
    by_cases hr : RR < lf0 x
    · rw [if_pos hr] at hF hK
      exact .inl ⟨decide_eq_true hr, hF, hK⟩
    · rw [if_neg hr] at hF hK
      exact .inr ⟨decide_eq_false hr, hF, hK⟩
  clear hF hK z2 z3
  obtain ⟨rr, hrr⟩ : ∃ rr : Bool, decide (RR < lf0 x) = rr := ⟨_, rfl⟩
  rw [hrr] at LE hR
  clear hrr
  -- the sum
  have hfl := lf_lt hk
  obtain ⟨t, a, s, z, u, q, y, et, ea, es, ez, eu, eq_, ey, eY, ht, ha, hs, hz, hu, hq, hy⟩ := logY_names hfl
  have hZ : logZ (lf x) (lk x) = if lk x = 0 then logY (lf x) else fadd (fmul (fint (lk x)) LL) (fadd (logY (lf x)) (fmul (fint (lk x)) ll)) := rfl
  have hYl := logY_lt hfl
  have A1 : ∀ w1, Calls Tryd.prog 29 #[.int .u64 (lf x), .int .u64 4607182418800017408] w1 (RetW t w1) := by
    intro w1
    rw [et, ONE_lit]
    exact rf_sub hfl (b := 4607182418800017408) (by omega) w1
  have A2 : ∀ w1, Calls Tryd.prog 32 #[.int .u64 4611686018427387904, .int .u64 t] w1 (RetW a w1) := by
    intro w1
    rw [ea, TWO_lit]
    exact rf_add (a := 4611686018427387904) (by omega) ht w1
  have A3 := fun w1 => rf_div ht ha w1
  rw [← es] at A3
  have A4 := fun w1 => rf_mul hs hs w1
  rw [← ez] at A4
  have A5 := fun w1 => rk_by 21 (by omega) (by omega) w1
  rw [log_tab0, ← logS_0 z] at A5
  have A6 := fun w1 => rf_add hs hs w1
  rw [← eu] at A6
  have A7 := fun w1 => rf_mul (a := logP z) (by rw [← logS_end]; exact logS_lt z (by omega)) hz w1
  rw [← eq_, ← logS_end] at A7
  have A8 := fun w1 => rf_mul hu hq w1
  rw [← ey] at A8
  have A9 := fun w1 => rf_add hu hy w1
  rw [← eY] at A9
  have T1 := fun w1 => rk_int (lk x) (by omega) (by omega) w1
  have T2 : ∀ w1, Calls Tryd.prog 28 #[.int .u64 (fint (lk x)), .int .u64 4604418534311723008] w1 (RetW (fmul (fint (lk x)) LL) w1) := by
    intro w1
    rw [LL_lit]
    exact rf_mul (fint_lt _) (b := 4604418534311723008) (by omega) w1
  have T3 : ∀ w1, Calls Tryd.prog 28 #[.int .u64 (fint (lk x)), .int .u64 4461442080421002358] w1 (RetW (fmul (fint (lk x)) ll) w1) := by
    intro w1
    rw [ll_lit]
    exact rf_mul (fint_lt _) (b := 4461442080421002358) (by omega) w1
  have T4 := fun w1 => rf_add hYl (fmul_lt (fint (lk x)) ll) w1
  have T5 := fun w1 => rf_add (fmul_lt (fint (lk x)) LL) (fadd_lt hYl (fmul_lt (fint (lk x)) ll)) w1
  have hZ2 : (lk x = 0 ∧ logZ (lf x) (lk x) = logY (lf x)) ∨ (lk x ≠ 0 ∧ logZ (lf x) (lk x) = fadd (fmul (fint (lk x)) LL) (fadd (logY (lf x)) (fmul (fint (lk x)) ll))) := by
    by_cases h : lk x = 0
    · rw [if_pos h] at hZ; exact .inl ⟨h, hZ⟩
    · rw [if_neg h] at hZ; exact .inr ⟨h, hZ⟩
  clear hZ et ea es ez eu eq_ ey eY
  generalize logZ (lf x) (lk x) = Z at *
  generalize fadd (fmul (fint (lk x)) LL) (fadd (logY (lf x)) (fmul (fint (lk x)) ll)) = Z2 at *
  generalize fadd (logY (lf x)) (fmul (fint (lk x)) ll) = D at *
  generalize fmul (fint (lk x)) LL = UU at *
  generalize fmul (fint (lk x)) ll = VV at *
  generalize logY (lf x) = Y at *
  generalize fint (lk x) = fk at *
  have HO := Lib.hid ONE_lit
  have HTW := Lib.hid TWO_lit
  have HR := Lib.hid hR
  have HZ2 := Lib.hid hZ2
  have HXW := Lib.hid hxw
  have HLE := Lib.hid LE
  have HS2 := Lib.hid S2
  have H1 := Lib.hid A1
  have H2 := Lib.hid A2
  have H3 := Lib.hid A3
  have H4 := Lib.hid A4
  have H5 := Lib.hid A5
  have H6 := Lib.hid A6
  have H7 := Lib.hid A7
  have H8 := Lib.hid A8
  have H9 := Lib.hid A9
  have HT1 := Lib.hid T1
  have HT2 := Lib.hid T2
  have HT3 := Lib.hid T3
  have HT4 := Lib.hid T4
  have HT5 := Lib.hid T5
  clear hR hZ2 hxw LE S2 A1 A2 A3 A4 A5 A6 A7 A8 A9 T1 T2 T3 T4 T5 h0 h3 h4 hk hn
  generalize lf x = f at *
  generalize lk x = kk at *
  generalize kd x = kx at *
  go_enter Tryd.func8, Tryd.ntmps8
  go_wp2_with fail
  refine K.out.mono ?_
  rintro _ w' ⟨rfl, rfl⟩
  go_wp2_with fail
  refine K.out.mono ?_
  rintro _ w' ⟨rfl, rfl⟩
  go_wp2_with fail
  refine N.out.mono ?_
  rintro _ w' ⟨rfl, rfl⟩
  go_wp2_with fail
  refine K.out.mono ?_
  rintro _ w' ⟨rfl, rfl⟩
  go_wp2_with fail
  go_loopw [3, 4] (fun fv kv wr => ∃ (j F : Nat), Hid (j = 0 ∨ (blen (sig x) : Int) + xpo x + j ≤ 1) ∧ j ≤ 3000 ∧ fv = .int .u64 F ∧ kv = .int .i64 (-(j : Int)) ∧ Hid (F = magR (sig x) 1 (xpo x + j)) ∧ Below w.heap.size w wr) (fun _ kv _ => mesU kv)
  case atStart => exact ⟨0, x, Lib.hid (.inl rfl), by omega, rfl, rfl, Lib.hid HXW.out, Below.refl _ _⟩
  case round =>
    obtain ⟨j, F, HJ, hj3, rfl, rfl, HF, hb⟩ := hrel
    obtain ⟨F', eF, hFl, hless, hsc⟩ := UP.out j HJ.out
    rw [← HF.out] at eF
    subst eF
    have LS := fun w1 => rf_less hFl (b := 4607182418800017408) (by omega) w1
    by_cases hlt : (blen (sig x) : Int) + xpo x + j ≤ 0
    · have hl1 : fless F' 4607182418800017408 = true := by rw [← HO.out, hless]; exact decide_eq_true hlt
      rw [hl1] at LS
      have SC := fun w1 => rf_scale hFl 1 w1
      have HLS := Lib.hid LS
      have HSC := Lib.hid SC
      have hj4 : j ≤ 1074 := by omega
      have hm := mesU_lt (a := -((j + 1 : Nat) : Int)) (b := -(j : Int)) (by omega) (by omega)
      have HM := Lib.hid hm
      have HSX := Lib.hid hsc
      have HLT := Lib.hid hlt
      clear LS SC hm hsc hlt hless hl1
      generalize fscale F' 1 = F2 at *
      go_wp2_with fail
      refine (HLS.out _).mono ?_
      rintro _ w' ⟨rfl, rfl⟩
      go_wp2_with fail
      with_reducible refine (HSC.out _).mono ?_
      rintro _ w2 ⟨rfl, b2⟩
      go_wp2_with fail
      go_roundw
      case rel => exact ⟨j + 1, F2, Lib.hid (.inr (by have := HLT.out; omega)), by omega, rfl, vint (by omega), Lib.hid HSX.out, bbw hb b2⟩
      case measure =>
        have h9 := HM.out
        rw [show -((j + 1 : Nat) : Int) = -(j : Int) - 1 by omega] at h9
        exact h9
    · have hl1 : fless F' 4607182418800017408 = false := by rw [← HO.out, hless]; exact decide_eq_false hlt
      rw [hl1] at LS
      have HLS := Lib.hid LS
      have hkj : (0 ≤ -(j : Int) ∧ -(j : Int) ≤ lk0 x) ∨ -(j : Int) = lk0 x := by
        rcases HJ.out with h | h
        · left; omega
        · right; omega
      have HKJ := Lib.hid hkj
      clear LS hless hl1 hsc hkj hlt
      go_wp2_with fail
      refine (HLS.out _).mono ?_
      rintro _ w' ⟨rfl, rfl⟩
      go_wp2_with fail
      go_loopw [3, 4] (fun fv kv wr => ∃ (F : Nat) (k : Int), Hid ((0 ≤ k ∧ k ≤ lk0 x) ∨ k = lk0 x) ∧ -3000 ≤ k ∧ k ≤ 3000 ∧ fv = .int .u64 F ∧ kv = .int .i64 k ∧ Hid (F = magR (sig x) 1 (xpo x - k)) ∧ Below w.heap.size w wr) (fun _ kv _ => mesD kv)
      case atStart => exact ⟨F', -(j : Int), HKJ, by omega, by omega, rfl, rfl, Lib.hid (by have h8 := HF.out; rw [h8]; congr 1; omega), hb⟩
      case round =>
        clear HF hb HJ HKJ HLS hj3 hFl
        obtain ⟨F, k, HK, hk1, hk2, rfl, rfl, HF, hb⟩ := hrel
        obtain ⟨G, eF, hFl, hless, hsc, hend⟩ := DN.out k HK.out
        rw [← HF.out] at eF
        subst eF
        have LS := fun w1 => rf_less hFl (b := 4611686018427387904) (by omega) w1
        by_cases hlt : k < lk0 x
        · have hl1 : fless G 4611686018427387904 = false := by rw [← HTW.out, hless]; exact decide_eq_false (by omega)
          rw [hl1] at LS
          have SC := fun w1 => rf_scale hFl (-1) w1
          have hsc2 := hsc hlt
          have hk3 : 0 ≤ k ∧ k < 1100 := by rcases HK.out with h | h <;> omega
          have hm := mesD_lt (a := k + 1) (b := k) (by omega) (by omega)
          have HLS := Lib.hid LS
          have HSC := Lib.hid SC
          have HM := Lib.hid hm
          have HSX := Lib.hid hsc2
          have HLT := Lib.hid hlt
          clear LS SC hm hsc hlt hless hl1 hend hsc2
          generalize fscale G (-1) = F2 at *
          go_wp2_with fail
          refine (HLS.out _).mono ?_
          rintro _ w' ⟨rfl, rfl⟩
          go_wp2_with fail
          with_reducible refine (HSC.out _).mono ?_
          rintro _ w2 ⟨rfl, b2⟩
          go_wp2_with fail
          go_roundw
          case rel => exact ⟨F2, k + 1, Lib.hid (.inl (by have := HLT.out; omega)), by omega, by omega, rfl, rfl, Lib.hid HSX.out, bbw hb b2⟩
          case measure => exact HM.out
        · have hkK : k = lk0 x := by rcases HK.out with h | h <;> omega
          have hl1 : fless G 4611686018427387904 = true := by rw [← HTW.out, hless]; exact decide_eq_true (by omega)
          rw [hl1] at LS
          have hG := hend hkK
          subst hG
          subst hkK
          have HLS := Lib.hid LS
          clear LS hless hl1 hsc hend hlt HF HK UP DN hl0
          generalize lf0 x - 4503599627370496 = F3 at *
          generalize lf0 x = F0 at *
          generalize lk0 x = K0 at *
          go_wp2_with fail
          refine (HLS.out _).mono ?_
          rintro _ w' ⟨rfl, rfl⟩
          go_wp2_with fail
          with_reducible refine (HLE.out _).mono ?_
          rintro _ w' ⟨rfl, rfl⟩
          go_upto_if 44 with (fail)
          go_cut [3, 4] (fun s3 s4 wx => s3 = .int .u64 f ∧ s4 = .int .i64 kk ∧ Below w.heap.size w wx)
          case first =>
            rcases HR.out with ⟨rfl, rfl, rfl⟩ | ⟨rfl, rfl, rfl⟩
            · go_wp2_with fail
              with_reducible refine (HS2.out _).mono ?_
              rintro _ w2 ⟨rfl, b2⟩
              go_wp2_with fail
              go_meet
              exact ⟨rfl, rfl, bbw hb b2⟩
            · go_wp2_with fail
              go_meet
              exact ⟨rfl, rfl, hb⟩
          case rest =>
          obtain ⟨rfl, rfl, hb2⟩ := hcut
          clear hb HLS HLE HS2 HR
          go_wp2_with fail
          with_reducible refine (H1.out _).mono ?_
          rintro _ w1 ⟨rfl, b1⟩
          go_wp2_with fail
          with_reducible refine (H2.out _).mono ?_
          rintro _ w2 ⟨rfl, b2⟩
          go_wp2_with fail
          with_reducible refine (H3.out _).mono ?_
          rintro _ w3 ⟨rfl, b3⟩
          go_wp2_with fail
          with_reducible refine (H4.out _).mono ?_
          rintro _ w4 ⟨rfl, b4⟩
          go_wp2_with fail
          with_reducible refine (H5.out _).mono ?_
          rintro _ w5 ⟨rfl, b5⟩
          have y5 := bbw hb2 (bbw b1 (bbw b2 (bbw b3 (bbw b4 b5))))
          clear b1 b2 b3 b4 b5 hb2 H1 H2 H3 H4 H5
          go_wp2_with fail
          go_loopw [8, 59] (fun p iv wr => ∃ (i q : Nat), i ≤ 9 ∧ iv = .int .i64 i ∧ p = .int .u64 q ∧ Hid (q = logS z i) ∧ Below w.heap.size w wr) (fun _ iv _ => 9 - mes iv)
          case atStart => exact ⟨0, _, by omega, rfl, rfl, Lib.hid rfl, y5⟩
          case round =>
            clear y5
            obtain ⟨i, p, hi, rfl, rfl, HQ, hb⟩ := hrel
            by_cases h9 : i = 9
            · subst h9
              obtain rfl := HQ.out
              go_wp2_with fail
              with_reducible refine (H6.out _).mono ?_
              rintro _ w2 ⟨rfl, b2⟩
              go_wp2_with fail
              with_reducible refine (H7.out _).mono ?_
              rintro _ w3 ⟨rfl, b3⟩
              go_wp2_with fail
              with_reducible refine (H8.out _).mono ?_
              rintro _ w4 ⟨rfl, b4⟩
              go_wp2_with fail
              with_reducible refine (H9.out _).mono ?_
              rintro _ w5 ⟨rfl, b5⟩
              have y6 := bbw hb (bbw b2 (bbw b3 (bbw b4 b5)))
              clear hb b2 b3 b4 b5 H6 H7 H8 H9
              rcases HZ2.out with ⟨rfl, rfl⟩ | ⟨hk0, rfl⟩
              · go_wp2_with fail
                go_ret
                exact ⟨rfl, y6⟩
              · have g5 : (kk == 0) = false := by simp; omega
                go_wp2_with fail
                with_reducible refine (HT1.out _).mono ?_
                rintro _ w6 ⟨rfl, b6⟩
                go_wp2_with fail
                with_reducible refine (HT2.out _).mono ?_
                rintro _ w7 ⟨rfl, b7⟩
                go_wp2_with fail
                with_reducible refine (HT3.out _).mono ?_
                rintro _ w8 ⟨rfl, b8⟩
                go_wp2_with fail
                with_reducible refine (HT4.out _).mono ?_
                rintro _ w9 ⟨rfl, b9⟩
                go_wp2_with fail
                with_reducible refine (HT5.out _).mono ?_
                rintro _ w10 ⟨rfl, b10⟩
                go_wp2_with fail
                go_ret
                exact ⟨rfl, bbw y6 (bbw b6 (bbw b7 (bbw b8 (bbw b9 b10))))⟩
            · have hi2 : i < 9 := by omega
              have ht3 := log_tab i hi2
              obtain ⟨v, hv⟩ : ∃ v : Int, 19 - 2 * (i : Int) = v := ⟨_, rfl⟩
              rw [hv] at ht3
              have hp2 : p < 18446744073709551616 := by rw [HQ.out]; exact logS_lt z (by omega)
              have B1 := fun w1 => rf_mul hp2 hz w1
              have B2 := fun w1 => rk_by v (by omega) (by omega) w1
              have B3 := fun w1 => rf_add (fmul_lt p z) (inv1_lt v) w1
              have hst : fadd (fmul p z) (inv1 v) = logS z (i + 1) := by rw [logS_next z hi2, ht3, HQ.out]
              rw [hst] at B3
              generalize fmul p z = y1 at *
              generalize inv1 v = z1 at *
              have HB1 := Lib.hid B1
              have HB2 := Lib.hid B2
              have HB3 := Lib.hid B3
              clear B1 B2 B3 ht3 hst
              go_wp2_with fail
              with_reducible refine (HB1.out _).mono ?_
              rintro _ w2 ⟨rfl, b2⟩
              go_wp2_with fail
              with_reducible refine (HB2.out _).mono ?_
              rintro _ w3 ⟨rfl, b3⟩
              go_wp2_with fail
              with_reducible refine (HB3.out _).mono ?_
              rintro _ w4 ⟨rfl, b4⟩
              go_wp2_with fail
              go_roundw
              case rel => exact ⟨i + 1, _, by omega, vint (by omega), rfl, Lib.hid rfl, bbw hb (bbw b2 (bbw b3 b4))⟩
              case measure => simp [mes, intOf]; omega

end Go.Proofs.YtmoahgiklgicgaaDoor

namespace Go.Proofs.YtmoahgiklgicgaaDoor
set_option maxRecDepth 100000
open Go.RowKit
set_option linter.unusedVariables false
set_option linter.unusedSimpArgs false

theorem fexp_lt {x : Nat} (hx : x < 18446744073709551616) : fexp x < 18446744073709551616 := by
  have hI := INF_lit
  unfold fexp
  split
  · unfold NAN; omega
  · split
    · omega
    · split
      · omega
      · exact fscale_lt (expP_lt _) _
theorem flog_lt {x : Nat} (hx : x < 18446744073709551616) : flog x < 18446744073709551616 := by
  have hkc := (kd_cases x).1
  unfold flog
  by_cases h0 : kd x = 0
  · rw [if_pos h0]; exact sg_lt (Nat.le_refl _)
  · rw [if_neg h0]
    by_cases h4 : kd x = 4 ∨ ng x = true
    · rw [if_pos h4]; unfold NAN; omega
    · rw [if_neg h4]
      by_cases h3 : kd x = 3
      · rw [if_pos h3]; exact hx
      · rw [if_neg h3]
        have hy := logY_lt (lf_lt (x := x) (by omega))
        unfold logZ
        split
        · exact hy
        · exact fadd_lt (fmul_lt _ _) (fadd_lt hy (fmul_lt _ _))
theorem exp_zero : fexp 0 = 4607182418800017408 := by decide +kernel
theorem exp_zero' : fexp 9223372036854775808 = 4607182418800017408 := by decide +kernel
theorem log_one : flog 4607182418800017408 = 0 := by decide +kernel
theorem log_zero : flog 0 = 18442240474082181120 := by decide +kernel

set_option maxHeartbeats 1000000 in
theorem same14 (w : World) (hF : Fac w) : Calls Tryd.prog 9 #[] w fun e w' => e = .returned (.bool true) ∧ Below w.heap.size w w' := by
  have A1 := fun w1 hF => kn_exp (x := 0) (by omega) w1 hF
  have A2 := fun w1 hF => kn_exp (x := 9223372036854775808) (by omega) w1 hF
  have A3 := fun w1 => kn_log (x := 4607182418800017408) (by omega) w1
  have A4 := fun w1 => kn_log (x := 0) (by omega) w1
  rw [exp_zero] at A1
  rw [exp_zero'] at A2
  rw [log_one] at A3
  rw [log_zero] at A4
  have H1 := Lib.hid A1
  have H2 := Lib.hid A2
  have H3 := Lib.hid A3
  have H4 := Lib.hid A4
  have HF := Lib.hid hF
  clear A1 A2 A3 A4 hF
  go_enter Tryd.func9, Tryd.ntmps9
  go_wp2_with fail
  refine (H1.out _ HF.out).mono ?_
  rintro _ w1 ⟨rfl, b1⟩
  go_wp2_with fail
  refine (H2.out _ (HF.out.below b1)).mono ?_
  rintro _ w2 ⟨rfl, b2⟩
  go_wp2_with fail
  refine (H3.out _).mono ?_
  rintro _ w3 ⟨rfl, b3⟩
  go_wp2_with fail
  refine (H4.out _).mono ?_
  rintro _ w4 ⟨rfl, b4⟩
  go_wp2_with fail
  go_ret
  exact ⟨rfl, bbw b1 (bbw b2 (bbw b3 b4))⟩

set_option maxHeartbeats 2000000 in
theorem kernelTells_walk (x : Int) (w0 : (Lit.int .u64 x).wf = true) (w : World) (hF : Fac w) :
    Calls Tryd.prog 3 #[.int .u64 x] w fun e w' => e = .returned (.bool true) ∧ Below w.heap.size w w' := by
  obtain ⟨x, rfl, hx⟩ := u64_wf w0
  clear w0
  have H1 := Lib.hid (fun w1 hF => kn_exp hx w1 hF)
  have H2 := Lib.hid (fun w1 => rk_exp hx w1)
  have H3 := Lib.hid (fun w1 => kn_log hx w1)
  have H4 := Lib.hid (fun w1 => rk_log hx w1)
  have H5 := Lib.hid (fun w1 hF => same14 w1 hF)
  have HF := Lib.hid hF
  clear hF
  generalize fexp x = E at *
  generalize flog x = L at *
  go_enter Tryd.func3, Tryd.ntmps3
  go_wp2_with fail
  with_reducible refine (H1.out _ HF.out).mono ?_
  rintro _ w1 ⟨rfl, b1⟩
  go_wp2_with fail
  with_reducible refine (H2.out _).mono ?_
  rintro _ w2 ⟨rfl, b2⟩
  go_wp2_with fail
  with_reducible refine (H3.out _).mono ?_
  rintro _ w3 ⟨rfl, b3⟩
  go_wp2_with fail
  with_reducible refine (H4.out _).mono ?_
  rintro _ w4 ⟨rfl, b4⟩
  have y4 := bbw b1 (bbw b2 (bbw b3 b4))
  go_wp2_with fail
  with_reducible refine (H5.out _ (HF.out.below y4)).mono ?_
  rintro _ w5 ⟨rfl, b5⟩
  go_wp2_with fail
  go_ret
  exact ⟨rfl, bbw y4 b5⟩

theorem zero_word {x : Nat} (hx : x < 18446744073709551616) (h : kd x = 0) : x = 0 ∨ x = 9223372036854775808 := by
  have hm := mant_zero h
  unfold mant at hm
  omega
/-- what the law of signs asks, by cases -/
theorem signs14 {x : Nat} (hx : x < 18446744073709551616) : ng (fexp x) = false ∧
    ((kd x = 4 ∧ kd (fexp x) = 4 ∧ kd (flog x) = 4) ∨
     (kd x ≠ 4 ∧ kd (fexp x) ≠ 4 ∧ fless x 0 = true ∧ kd (flog x) = 4) ∨
     (kd x ≠ 4 ∧ kd (fexp x) ≠ 4 ∧ fless x 0 = false ∧ kd (flog x) ≠ 4 ∧ ng (flog x) = fless x 4607182418800017408 ∧ (kd (flog x) = 0 ↔ x = 4607182418800017408))) := by
  obtain ⟨e1, e2⟩ := fexp_sign hx
  refine ⟨e1, ?_⟩
  have hkc := (kd_cases x).1
  have hI := INF_lit
  by_cases h4 : kd x = 4
  · refine .inl ⟨h4, e2.2 h4, ?_⟩
    unfold flog
    rw [if_neg (by omega), if_pos (.inl h4)]
    exact kd_nan
  · have hE : kd (fexp x) ≠ 4 := fun h => h4 (e2.1 h)
    by_cases h0 : kd x = 0
    · have hl : flog x = sg true INF := by unfold flog; rw [if_pos h0]
      refine .inr (.inr ⟨h4, hE, ?_⟩)
      rw [hl, show kd (sg true INF) = 3 by decide +kernel, show ng (sg true INF) = true by decide +kernel]
      rcases zero_word hx h0 with rfl | rfl
      · exact ⟨by decide +kernel, by omega, by decide +kernel, by omega⟩
      · exact ⟨by decide +kernel, by omega, by decide +kernel, by omega⟩
    · cases hn : ng x
      case true =>
        refine .inr (.inl ⟨h4, hE, ?_, ?_⟩)
        · unfold fless
          rw [if_neg (by rw [show kd 0 = 0 by decide +kernel]; omega), hn, show ng 0 = false by decide +kernel, if_neg (by simp), if_pos rfl]
          have : x ≠ 9223372036854775808 := fun h => h0 (by rw [h]; decide +kernel)
          simp [this]
        · unfold flog
          rw [if_neg h0, if_pos (.inr hn)]
          exact kd_nan
      case false =>
        have z0 : fless x 0 = false := by
          unfold fless
          rw [if_neg (by rw [show kd 0 = 0 by decide +kernel]; omega), hn, show ng 0 = false by decide +kernel]
          simp
        by_cases h3 : kd x = 3
        · have hl : flog x = x := by unfold flog; rw [if_neg h0, if_neg (by rw [hn]; simp; omega), if_pos h3]
          have hxI : INF ≤ x := by
            have h1 := rk_inf h3
            unfold rk at h1
            rw [hn, pos_word hx hn] at h1
            unfold sI at h1
            simp at h1
            omega
          refine .inr (.inr ⟨h4, hE, z0, by rw [hl]; exact h4, ?_, ?_⟩)
          · rw [hl, hn]
            unfold fless
            rw [if_neg (by rw [show kd 4607182418800017408 = 2 by decide +kernel]; omega), hn, show ng 4607182418800017408 = false by decide +kernel]
            simp
            omega
          · rw [hl]
            constructor <;> intro <;> omega
        · have hk : kd x = 1 ∨ kd x = 2 := by omega
          obtain ⟨s1, s2, s3⟩ := flog_sign hx hk hn
          have hf : fld x < 2047 := (kd_cases x).2.1 (by omega)
          obtain ⟨o1, o2, _⟩ := one_parts
          rw [ONE_lit] at o1 o2
          exact .inr (.inr ⟨h4, hE, z0, s1, by rw [s2, fless_pos hf o1 hn o2], s3⟩)

set_option maxHeartbeats 4000000 in
theorem kernelSigns_walk (x : Int) (w0 : (Lit.int .u64 x).wf = true) (w : World) (hF : Fac w) :
    Calls Tryd.prog 4 #[.int .u64 x] w fun e w' => e = .returned (.bool true) ∧ Below w.heap.size w w' := by
  obtain ⟨x, rfl, hx⟩ := u64_wf w0
  clear w0
  obtain ⟨hnE, hor⟩ := signs14 hx
  have H1 := Lib.hid (fun w1 hF => kn_exp hx w1 hF)
  have H3 := Lib.hid (fun w1 => kn_log hx w1)
  have H5 := Lib.hid (fun w1 hF => same14 w1 hF)
  have HF := Lib.hid hF
  have KX := Lib.hid (fun w1 => rf_kind hx w1)
  have KE := Lib.hid (fun w1 => rf_kind (fexp_lt hx) w1)
  have NE := Lib.hid (fun w1 => rf_neg (fexp_lt hx) w1)
  have KL := Lib.hid (fun w1 => rf_kind (flog_lt hx) w1)
  have NL := Lib.hid (fun w1 => rf_neg (flog_lt hx) w1)
  have L0 := Lib.hid (fun w1 => rf_less hx (b := 0) (by omega) w1)
  have L1 := Lib.hid (fun w1 => rf_less hx (b := 4607182418800017408) (by omega) w1)
  rw [hnE] at NE
  clear hF hnE
  generalize fless x 0 = lz at *
  generalize fless x 4607182418800017408 = lo at *
  generalize ng (flog x) = nl at *
  generalize kd (flog x) = kl at *
  generalize kd (fexp x) = ke at *
  generalize fexp x = E at *
  generalize flog x = L at *
  generalize kd x = kx at *
  rcases hor with ⟨rfl, rfl, rfl⟩ | ⟨h1, h2, rfl, rfl⟩ | ⟨h1, h2, rfl, h4, rfl, h6⟩
  · go_enter Tryd.func4, Tryd.ntmps4
    go_wp2_with fail
    refine (KX.out _).mono ?_
    rintro _ w' ⟨rfl, rfl⟩
    go_wp2_with fail
    with_reducible refine (H1.out _ HF.out).mono ?_
    rintro _ w1 ⟨rfl, b1⟩
    go_wp2_with fail
    refine (KE.out _).mono ?_
    rintro _ w' ⟨rfl, rfl⟩
    go_wp2_with fail
    refine (NE.out _).mono ?_
    rintro _ w' ⟨rfl, rfl⟩
    go_wp2_with fail
    with_reducible refine (H3.out _).mono ?_
    rintro _ w2 ⟨rfl, b2⟩
    go_wp2_with fail
    refine (KL.out _).mono ?_
    rintro _ w' ⟨rfl, rfl⟩
    go_wp2_with fail
    with_reducible refine (H5.out _ (HF.out.below (bbw b1 b2))).mono ?_
    rintro _ w3 ⟨rfl, b3⟩
    go_wp2_with fail
    go_ret
    exact ⟨rfl, bbw b1 (bbw b2 b3)⟩
  · have g1 : ((kx : Int) == 4) = false := by simp; omega
    have g2 : ((ke : Int) == 4) = false := by simp; omega
    go_enter Tryd.func4, Tryd.ntmps4
    go_wp2_with fail
    refine (KX.out _).mono ?_
    rintro _ w' ⟨rfl, rfl⟩
    go_wp2_with fail
    with_reducible refine (H1.out _ HF.out).mono ?_
    rintro _ w1 ⟨rfl, b1⟩
    go_wp2_with fail
    refine (KE.out _).mono ?_
    rintro _ w' ⟨rfl, rfl⟩
    go_wp2_with fail
    refine (NE.out _).mono ?_
    rintro _ w' ⟨rfl, rfl⟩
    go_wp2_with fail
    with_reducible refine (H3.out _).mono ?_
    rintro _ w2 ⟨rfl, b2⟩
    go_wp2_with fail
    refine (L0.out _).mono ?_
    rintro _ w' ⟨rfl, rfl⟩
    go_wp2_with fail
    refine (KL.out _).mono ?_
    rintro _ w' ⟨rfl, rfl⟩
    go_wp2_with fail
    with_reducible refine (H5.out _ (HF.out.below (bbw b1 b2))).mono ?_
    rintro _ w3 ⟨rfl, b3⟩
    go_wp2_with fail
    go_ret
    exact ⟨rfl, bbw b1 (bbw b2 b3)⟩
  · have g1 : ((kx : Int) == 4) = false := by simp; omega
    have g2 : ((ke : Int) == 4) = false := by simp; omega
    have g3 : ((kl : Int) != 4) = true := by simp; omega
    obtain ⟨p, g5, g6⟩ : ∃ p : Bool, ((kl : Int) == 0) = p ∧ ((x : Int) == 4607182418800017408) = p := by
      by_cases h : kl = 0
      · exact ⟨true, by simp [h], by have := h6.1 h; simp; omega⟩
      · exact ⟨false, by simp; omega, by have := fun h9 => h (h6.2 h9); simp; omega⟩
    clear h1 h2 h4 h6
    go_enter Tryd.func4, Tryd.ntmps4
    go_wp2_with fail
    refine (KX.out _).mono ?_
    rintro _ w' ⟨rfl, rfl⟩
    go_wp2_with fail
    with_reducible refine (H1.out _ HF.out).mono ?_
    rintro _ w1 ⟨rfl, b1⟩
    go_wp2_with fail
    refine (KE.out _).mono ?_
    rintro _ w' ⟨rfl, rfl⟩
    go_wp2_with fail
    refine (NE.out _).mono ?_
    rintro _ w' ⟨rfl, rfl⟩
    go_wp2_with fail
    with_reducible refine (H3.out _).mono ?_
    rintro _ w2 ⟨rfl, b2⟩
    go_wp2_with fail
    refine (L0.out _).mono ?_
    rintro _ w' ⟨rfl, rfl⟩
    go_wp2_with fail
    refine (KL.out _).mono ?_
    rintro _ w' ⟨rfl, rfl⟩
    go_wp2_with fail
    refine (NL.out _).mono ?_
    rintro _ w' ⟨rfl, rfl⟩
    go_wp2_with fail
    refine (L1.out _).mono ?_
    rintro _ w' ⟨rfl, rfl⟩
    go_wp2_with fail
    refine (KL.out _).mono ?_
    rintro _ w' ⟨rfl, rfl⟩
    go_wp2_with fail
    with_reducible refine (H5.out _ (HF.out.below (bbw b1 b2))).mono ?_
    rintro _ w3 ⟨rfl, b3⟩
    go_wp2_with fail
    go_ret
    exact ⟨rfl, bbw b1 (bbw b2 b3)⟩

end Go.Proofs.YtmoahgiklgicgaaDoor

namespace Go.Proofs.YtmoahgiklgicgaaDoor
set_option maxRecDepth 100000
open Go.RowKit
set_option linter.unusedVariables false
set_option linter.unusedSimpArgs false
set_option maxRecDepth 100000

theorem fac_of {W : World} (h : laidMetH Tryd.prog Rows.kernelTellsRow.laid W) : Fac W := by
  rw [MakeChecks.laidMetH_plain _ _ _ (by kernel_rfl)] at h
  obtain ⟨ps, ⟨g, t, cs, fuel, p, q, hg, ht, hv, hd, _, _⟩, _, _⟩ := h
  obtain rfl : g = 0 := Option.some.inj (hg.symm.trans (show Tryd.prog.globalNamed ((Rows.kernelTellsRow.laid.map Prod.fst).headD Rows.kernelTellsRow.spec) = some 0 by kernel_rfl))
  obtain rfl := Option.some.inj ((show (Tryd.prog.globals[0]?).map (·.type) = some 47 by kernel_rfl).symm.trans ht)
  obtain ⟨xs, m, _, ex, _, hl, hel⟩ := DataW.trod_array Tryd.underlying47 hd
  have c5 : Tryd.prog.cellsOf 3 = 1 := by kernel_rfl
  have hcell : ∀ r, r < 14 → W.cell? ⟨0, r, none⟩ = some (.int .i64 (facL.getD r 0)) := by
    intro r hr
    have hE := hel r hr
    rw [c5, Nat.mul_one, List.getElem?_eq_getElem (by omega)] at hE
    obtain ⟨z, e1, e2, _⟩ := DataW.trod_int Tryd.underlying3 hE
    have hlen : facL.length = 14 := rfl
    have e3 : (xs.map (·.1)) = facL.map fun n => (DataW.lit (.int .i64 n) : DataW Unit) := (DataW.agg.inj (Prod.mk.inj ex).1).symm
    have e4 : (xs.map (·.1))[r]? = (facL.map fun n => (DataW.lit (.int .i64 n) : DataW Unit))[r]? := by rw [e3]
    rw [List.getElem?_map, List.getElem?_map, List.getElem?_eq_getElem (by omega : r < xs.length), List.getElem?_eq_getElem (by omega : r < facL.length), e2] at e4
    have hz : z = facL.getD r 0 := by
      simp only [Option.map_some, Option.some.injEq, DataW.lit.injEq, Lit.int.injEq, true_and] at e4
      rw [e4, List.getD, List.getElem?_eq_getElem (by omega : r < facL.length)]; rfl
    rw [World.var?_cell hg hv r, ← hz]
    have : cs.toList[r]? = some (.int .i64 z) := by
      have h0 : ((cs.toList.drop r).take 1)[0]? = some (.int .i64 z) := by rw [e1]; rfl
      simpa using h0
    simpa using this
  refine ⟨?_, hcell⟩
  have h1 := hcell 0 (by omega)
  rcases Nat.eq_zero_or_pos W.heap.size with h0 | h0
  · exfalso
    have : W.heap[0]? = none := by simp [h0]
    unfold World.cell? at h1
    simp [this] at h1
  · exact h0

end Go.Proofs.YtmoahgiklgicgaaDoor
