/-
  The law PowerBack: what is written is read as it was; what is rounded down is not above the number, and 1 more is.
-/
import Derived.Test.YtnheefhbchkbdaaDoorPowShowAll
namespace Go.Proofs.YtnheefhbchkbdaaDoor
set_option maxRecDepth 100000
open Go.RowKit
set_option linter.unusedVariables false
set_option linter.unusedSimpArgs false

theorem txtQ_len {X : Rat} (h : Sz X 20) : (txtQ X).length ≤ 802 ∧ (txt X.num.natAbs).length ≤ 400 ∧ (txt X.den).length ≤ 400 := by
  have h1 : (txt X.num.natAbs).length ≤ 20 * 20 := txt_len (words20 h.1) (by omega)
  have h2 : (txt X.den).length ≤ 20 * 20 := txt_len (words20 h.2) (by omega)
  refine ⟨?_, by omega, by omega⟩
  unfold txtQ
  rw [List.length_append, List.length_append]
  split <;> split <;> simp <;> omega
theorem pw_readback {X : Rat} {t : ByteArray} (h : by_ t = txtQ X) (hX : Sz X 20) (w : World) : Calls Tryd.prog 11 #[.string t] w (RetQE X 0 w) := by
  obtain ⟨l1, l2, l3⟩ := txtQ_len hX
  obtain ⟨r1, r2⟩ := read_show X l2 l3
  have R := pw_read t (by rw [← by_length, h]; omega) w
  rw [h, r1, r2] at R
  refine R.mono fun e w' H => ?_
  rcases H with ⟨_, H⟩ | ⟨hne, _⟩
  · exact H
  · exact absurd rfl hne
theorem flr_le (X : Rat) : cmpQ (flr X) X = -1 ∨ cmpQ (flr X) X = 0 := by
  have h := (cmpQ_le (flr X) X).2 (Rat.floor_le X)
  have := cmpQ_range (flr X) X
  omega
theorem flr_more (X : Rat) : cmpQ (flr X + ((1 : Int) : Rat)) X = 1 := by
  have h := Rat.lt_floor_add_one X
  rw [Rat.intCast_add] at h
  unfold cmpQ flr
  rw [if_neg (fun k => absurd (Rat.le_of_lt k) (Rat.not_le.2 h)), if_pos h]
theorem abs_sign (X : Rat) : sgnQ (rq false X.num.natAbs X.den) = 1 ∨ sgnQ (rq false X.num.natAbs X.den) = 0 := by
  obtain ⟨h1, h2⟩ := rq_cop (s := false) (den_ne X) (gcd_num_den X)
  unfold sgnQ
  rw [h1]
  unfold sI
  simp
  omega
theorem flr_den (X : Rat) : (flr X).den = 1 := rfl

set_option maxRecDepth 100000 in
set_option maxHeartbeats 8000000 in
theorem powerBack_walk (s0 : Bool) (a0 : Option Addr) (len0 cap0 : Nat) (z0 : List Int) (e0 : Option Addr) (lem0 cab0 : Nat) (y0 : List Int) (w : World) (w0 : IsRow .u64 w a0 len0 cap0 z0) (v0 : IsRow .u64 w e0 lem0 cab0 y0) :
    Calls Tryd.prog 4 #[.agg #[.bool s0, .slice a0 len0 cap0, .slice e0 lem0 cab0]] w fun e w' => e = .returned (.bool true) ∧ Below w.heap.size w w' := by
  obtain ⟨p0, _⟩ := w0.sl
  obtain ⟨r0, _⟩ := v0.sl
  generalize z0.take len0 = xs at p0
  generalize y0.take lem0 = ys at r0
  clear w0 v0
  obtain ⟨V, hV, B0, hb0⟩ := box0 24 w #[.bool s0, .slice a0 len0 cap0, .slice e0 lem0 cab0]
  have R := fun w1 (hb : Below w.heap.size w w1) => right08 (s := s0) 8 (by omega) (p0.below hb) (r0.below hb)
  simp only [show ((8 : Nat) : Int) = 8 from rfl] at R
  have HS := Lib.hid (fun (w' : World) (hb : Below V.heap.size V w') => (B0.below' hb).three.1)
  have HL := Lib.hid (fun (w' : World) (hb : Below V.heap.size V w') => (B0.below' hb).lt)
  have HV := Lib.hid hV
  clear hV B0
  obtain ⟨t0, et0⟩ : ∃ t, (decide (len0 ≤ 8 ∧ lem0 ≤ 8) && rightB s0 xs ys) = t := ⟨_, rfl⟩
  rw [et0] at R
  have HR := Lib.hid R
  clear R
  cases t0
  · clear et0
    go_enter Tryd.func4, Tryd.ntmps4
    go_wp2_with fail
    rw [HV.out]
    clear HV
    have y0_0 : Below V.heap.size V V := Below.refl _ _
    obtain ⟨k0_0_0_0, k0_0_0_1, k0_0_0_2⟩ := HS.out _ y0_0
    refine (HR.out _ (bb hb0 y0_0)).mono ?_
    rintro _ w1 ⟨rfl, b1⟩
    have y0_1 := bb y0_0 b1
    clear k0_0_0_0 k0_0_0_1 k0_0_0_2
    obtain ⟨k1_0_0_0, k1_0_0_1, k1_0_0_2⟩ := HS.out _ y0_1
    go_wp2_with fail
    refine (same08 _).mono ?_
    rintro _ w2 ⟨rfl, b2⟩
    have y0_2 := bb y0_1 b2
    clear k1_0_0_0 k1_0_0_1 k1_0_0_2
    obtain ⟨k2_0_0_0, k2_0_0_1, k2_0_0_2⟩ := HS.out _ y0_2
    go_wp2_with fail
    go_ret
    exact ⟨rfl, bb hb0 y0_2⟩
  · obtain ⟨X, g0, n0⟩ := right08_Q p0 r0 et0
    have qx := g0.below hb0
    have zx : Sz X 100 := n0.mono (by omega)
    have zx20 : Sz X 20 := n0.mono (by omega)
    have zf : Sz (flr X) 100 := n0.flr.mono (by omega)
    have zO : Sz ((1 : Int) : Rat) 100 := (sz_of 1 (by omega) (by omega)).mono (by omega)
    have zfo : Sz (flr X + ((1 : Int) : Rat)) 100 := (n0.flr.add (sz_of 1 (by omega) (by omega))).mono (by omega)
    have za : Sz (rq false X.num.natAbs X.den) 100 := rq_sz (den_ne X) zx.1 zx.2
    have OF := Lib.hid (fun w1 => rat_of 1 (by omega) (by omega) w1)
    have E2 := Lib.hid (flr_more X)
    have HDN := Lib.hid (flr_den X)
    clear g0 et0 p0 r0
    rcases flr_le X with h1 | h1
    all_goals
      rcases abs_sign X with h2 | h2
      all_goals
        have E1 := Lib.hid h1
        have E3 := Lib.hid h2
        have PA := Lib.hid (fun (w1 : World) (q : Q w1 s0 a0 len0 cap0 e0 lem0 cab0 X) => pw_abs q zx (by omega))
        clear h1 h2
        generalize rq false X.num.natAbs X.den = Xa at *
        generalize ((1 : Int) : Rat) = O at *
        go_enter Tryd.func4, Tryd.ntmps4
        go_wp2_with fail
        rw [HV.out]
        clear HV
        have y0_0 : Below V.heap.size V V := Below.refl _ _
        obtain ⟨k0_0_0_0, k0_0_0_1, k0_0_0_2⟩ := HS.out _ y0_0
        refine (HR.out _ (bb hb0 y0_0)).mono ?_
        rintro _ w1 ⟨rfl, b1⟩
        have y0_1 := bb y0_0 b1
        clear k0_0_0_0 k0_0_0_1 k0_0_0_2
        obtain ⟨k1_0_0_0, k1_0_0_1, k1_0_0_2⟩ := HS.out _ y0_1
        go_wp2_with fail
        refine (pw_show (qx.below y0_1) zx20).mono ?_
        rintro _ w2 ⟨t2, rfl, et, b2⟩
        have y0_2 := bb y0_1 b2
        clear k1_0_0_0 k1_0_0_1 k1_0_0_2
        obtain ⟨k2_0_0_0, k2_0_0_1, k2_0_0_2⟩ := HS.out _ y0_2
        have HET := Lib.hid et
        clear et
        go_wp2_with fail
        refine (pw_readback HET.out zx20 _).mono ?_
        rintro _ w3 ⟨rs3, rA3, rn3, rc3, rD3, rm3, rd3, rfl, u1, b3⟩
        have y0_3 := bb y0_2 b3
        clear k2_0_0_0 k2_0_0_1 k2_0_0_2
        obtain ⟨k3_0_0_0, k3_0_0_1, k3_0_0_2⟩ := HS.out _ y0_3
        have z3_HL := HL.out _ y0_3
        obtain ⟨w4, hV4, B4, b4⟩ := box0 24 w3 #[.bool rs3, .slice rA3 rn3 rc3, .slice rD3 rm3 rd3]
        have HV4 := Lib.hid hV4
        clear hV4
        go_wp2_with fail
        rw [HV4.out]
        clear HV4
        have y0_4 := bb y0_3 b4
        clear z3_HL
        have HQ1 := Lib.hid (fun (w' : World) (hb : Below w4.heap.size w4 w') => (B4.below' hb).three.1)
        have HQ1l := Lib.hid (fun (w' : World) (hb : Below w4.heap.size w4 w') => (B4.below' hb).lt)
        clear B4
        have y4_4 : Below w4.heap.size w4 w4 := Below.refl _ _
        clear k3_0_0_0 k3_0_0_1 k3_0_0_2
        obtain ⟨k4_0_0_0, k4_0_0_1, k4_0_0_2⟩ := HS.out _ y0_4
        obtain ⟨k4_1_0_0, k4_1_0_1, k4_1_0_2⟩ := HQ1.out _ y4_4
        refine (pw_floor (qx.below y0_4) zx (by omega)).mono ?_
        rintro _ w5 ⟨rs5, rA5, rn5, rc5, rD5, rm5, rd5, rfl, u2, b5⟩
        have y0_5 := bb y0_4 b5
        have y4_5 := bb y4_4 b5
        clear k4_0_0_0 k4_0_0_1 k4_0_0_2 k4_1_0_0 k4_1_0_1 k4_1_0_2
        obtain ⟨k5_0_0_0, k5_0_0_1, k5_0_0_2⟩ := HS.out _ y0_5
        obtain ⟨k5_1_0_0, k5_1_0_1, k5_1_0_2⟩ := HQ1.out _ y4_5
        have hh2 := u2.2.2
        rw [HDN.out] at hh2
        obtain ⟨rfl, p, o, rfl, hp, kp⟩ := sl_word hh2 (by omega) (by unfold W; omega)
        have kq : w5.cell? ⟨p, o, none⟩ = some (.int .u64 1) := kp
        clear kp hh2
        have z5_HL := HL.out _ y0_5
        have z5_HQ1l := HQ1l.out _ y4_5
        obtain ⟨w6, hV6, B6, b6⟩ := box0 24 w5 #[.bool rs5, .slice rA5 rn5 rc5, .slice (some ⟨p, o, none⟩) 1 rd5]
        have HV6 := Lib.hid hV6
        clear hV6
        go_wp2_with fail
        rw [HV6.out]
        clear HV6
        have y0_6 := bb y0_5 b6
        have y4_6 := bb y4_5 b6
        clear z5_HL
        clear z5_HQ1l
        have HQ2 := Lib.hid (fun (w' : World) (hb : Below w6.heap.size w6 w') => (B6.below' hb).three.1)
        have HQ2l := Lib.hid (fun (w' : World) (hb : Below w6.heap.size w6 w') => (B6.below' hb).lt)
        clear B6
        have y6_6 : Below w6.heap.size w6 w6 := Below.refl _ _
        clear k5_0_0_0 k5_0_0_1 k5_0_0_2 k5_1_0_0 k5_1_0_1 k5_1_0_2
        obtain ⟨k6_0_0_0, k6_0_0_1, k6_0_0_2⟩ := HS.out _ y0_6
        obtain ⟨k6_1_0_0, k6_1_0_1, k6_1_0_2⟩ := HQ1.out _ y4_6
        obtain ⟨k6_2_0_0, k6_2_0_1, k6_2_0_2⟩ := HQ2.out _ y6_6
        refine (rat_sameT (((u1.below b4).below b5).below b6) (qx.below y0_6) zx zx (by omega) rfl).mono ?_
        rintro _ w7 ⟨rfl, b7⟩
        have y0_7 := bb y0_6 b7
        have y4_7 := bb y4_6 b7
        have y6_7 := bb y6_6 b7
        clear k6_0_0_0 k6_0_0_1 k6_0_0_2 k6_1_0_0 k6_1_0_1 k6_1_0_2 k6_2_0_0 k6_2_0_1 k6_2_0_2
        obtain ⟨k7_0_0_0, k7_0_0_1, k7_0_0_2⟩ := HS.out _ y0_7
        obtain ⟨k7_1_0_0, k7_1_0_1, k7_1_0_2⟩ := HQ1.out _ y4_7
        obtain ⟨k7_2_0_0, k7_2_0_1, k7_2_0_2⟩ := HQ2.out _ y6_7
        have kr := ((bb b6 b7).cell (p := ⟨p, o, none⟩) hp).trans kq
        clear kq hp
        go_wp2_with fail
        go_region_held3 (fun w' => (w'.cell? ⟨w.heap.size, 0, none⟩ = some (.bool s0) ∧ w'.cell? ⟨w.heap.size, 1, none⟩ = some (.slice a0 len0 cap0) ∧ w'.cell? ⟨w.heap.size, 2, none⟩ = some (.slice e0 lem0 cab0)) ∧ (w'.cell? ⟨w3.heap.size, 0, none⟩ = some (.bool rs3) ∧ w'.cell? ⟨w3.heap.size, 1, none⟩ = some (.slice rA3 rn3 rc3) ∧ w'.cell? ⟨w3.heap.size, 2, none⟩ = some (.slice rD3 rm3 rd3)) ∧ (w'.cell? ⟨w5.heap.size, 0, none⟩ = some (.bool rs5) ∧ w'.cell? ⟨w5.heap.size, 1, none⟩ = some (.slice rA5 rn5 rc5) ∧ w'.cell? ⟨w5.heap.size, 2, none⟩ = some (.slice (some ⟨p, o, none⟩) 1 rd5))) (first | exact ⟨HS.out _ y0_7.drew, HQ1.out _ y4_7.drew, HQ2.out _ y6_7.drew⟩ | exact ⟨HS.out _ y0_14, HQ1.out _ y4_14, HQ2.out _ y6_14⟩ | exact ⟨HS.out _ y0_13, HQ1.out _ y4_13, HQ2.out _ y6_13⟩ | exact ⟨HS.out _ y0_12, HQ1.out _ y4_12, HQ2.out _ y6_12⟩ | exact ⟨HS.out _ y0_11, HQ1.out _ y4_11, HQ2.out _ y6_11⟩ | exact ⟨HS.out _ y0_10, HQ1.out _ y4_10, HQ2.out _ y6_10⟩ | exact ⟨HS.out _ y0_9, HQ1.out _ y4_9, HQ2.out _ y6_9⟩ | exact ⟨HS.out _ y0_8, HQ1.out _ y4_8, HQ2.out _ y6_8⟩ | fail)
          (first
            | (go_at_call 14; (with_reducible refine (rat_cmpE ?hq1 ?hq2 zf zx (by omega) _ E1.out).mono ?_); (case hq1 => (have hh := ((u2.below b6).below b7); exact hh)); (case hq2 => (have hh := (qx.below y0_7); exact hh)); rintro _ w8 ⟨rfl, b8⟩; have b8 := Below.undrew b8; have y0_8 := bb y0_7 b8; have y4_8 := bb y4_7 b8; have y6_8 := bb y6_7 b8)
            | (go_at_call 16; (with_reducible refine (OF.out _).mono ?_); rintro _ w9 ⟨rs9, rA9, rn9, rc9, rD9, rm9, rd9, rfl, u3, b9⟩; have y0_9 := bb y0_8 b9; have y4_9 := bb y4_8 b9; have y6_9 := bb y6_8 b9)
            | (go_at_call 15; (with_reducible refine (rat_add ((((u2.below b6).below b7).below b8).below b9) u3 zf zO (by omega)).mono ?_); rintro _ w10 ⟨rs10, rA10, rn10, rc10, rD10, rm10, rd10, rfl, u4, b10⟩; have y0_10 := bb y0_9 b10; have y4_10 := bb y4_9 b10; have y6_10 := bb y6_9 b10)
            | (go_at_call 14; (with_reducible refine (rat_cmpE u4 (qx.below y0_10) zfo zx (by omega) _ E2.out).mono ?_); rintro _ w11 ⟨rfl, b11⟩; have y0_11 := bb y0_10 b11; have y4_11 := bb y4_10 b11; have y6_11 := bb y6_10 b11)
            | (go_at_call 18; (with_reducible refine (PA.out _ (qx.below y0_11)).mono ?_); rintro _ w12 ⟨rs12, rA12, rn12, rc12, rD12, rm12, rd12, rfl, u5, b12⟩; have y0_12 := bb y0_11 b12; have y4_12 := bb y4_11 b12; have y6_12 := bb y6_11 b12)
            | (go_at_call 17; (with_reducible refine (rat_signE u5 za (by omega) _ E3.out).mono ?_); rintro _ w13 ⟨rfl, b13⟩; have y0_13 := bb y0_12 b13; have y4_13 := bb y4_12 b13; have y6_13 := bb y6_12 b13)
            | (go_at_call 7; (with_reducible refine (same08 _).mono ?_); rintro _ w14 ⟨rfl, b14⟩; have y0_14 := bb y0_13 b14; have y4_14 := bb y4_13 b14; have y6_14 := bb y6_13 b14))
        obtain ⟨k14_0_0_0, k14_0_0_1, k14_0_0_2⟩ := HS.out _ y0_14
        obtain ⟨k14_1_0_0, k14_1_0_1, k14_1_0_2⟩ := HQ1.out _ y4_14
        obtain ⟨k14_2_0_0, k14_2_0_1, k14_2_0_2⟩ := HQ2.out _ y6_14
        go_wp2_with fail
        go_ret
        exact ⟨rfl, bb hb0 y0_14⟩

end Go.Proofs.YtnheefhbchkbdaaDoor
