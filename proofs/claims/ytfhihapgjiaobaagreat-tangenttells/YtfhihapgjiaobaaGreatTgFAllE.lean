/-
  Rows of exact numbers that are stored into, element by element. No Go function in sight. Conditions: as each lemma says.
-/
import Derived.Test.YtfhihapgjiaobaaGreatTgEOneE
import Derived.Test.YtfhihapgjiaobaaGreatEvFOneE
namespace Go.Proofs.YtfhihapgjiaobaaGreat
set_option maxRecDepth 100000
open Go.RowKit
set_option linter.unusedVariables false
set_option linter.unusedSimpArgs false

theorem al_value {w : World} {op a b : Int} {q : RQ} {v t ds : List Rat} {Y : Rat} {s_y : Bool} {A_y D_y : Option Addr} {n_y c_y m_y d_y : Nat} {s_va : Bool} {A_va D_va : Option Addr} {n_va c_va m_va d_va : Nat} {s_vb : Bool} {A_vb D_vb : Option Addr} {n_vb c_vb m_vb d_vb : Nat} {s_ta : Bool} {A_ta D_ta : Option Addr} {n_ta c_ta m_ta d_ta : Nat} {s_tb : Bool} {A_tb D_tb : Option Addr} {n_tb c_tb m_tb d_tb : Nat} (q_y : Q w s_y A_y n_y c_y D_y m_y d_y Y) (z_y : Sz Y 64) (q_va : Q w s_va A_va n_va c_va D_va m_va d_va (v.getD a.toNat 0)) (q_vb : Q w s_vb A_vb n_vb c_vb D_vb m_vb d_vb (v.getD b.toNat 0)) (q_ta : Q w s_ta A_ta n_ta c_ta D_ta m_ta d_ta (t.getD a.toNat 0)) (q_tb : Q w s_tb A_tb n_tb c_tb D_tb m_tb d_tb (t.getD b.toNat 0)) (zv : AllSz 64 v) (zt : AllSz 64 t) (hA : 0 < arity op) :
    Calls Tryz.prog 69 #[.agg #[.int .i64 op, .int .i64 a, .int .i64 b, .bool q.s, .slice q.A q.n q.c, .slice q.A' q.n' q.c'], .agg #[.bool s_y, .slice A_y n_y c_y, .slice D_y m_y d_y], .agg #[.bool s_va, .slice A_va n_va c_va, .slice D_va m_va d_va, .bool s_vb, .slice A_vb n_vb c_vb, .slice D_vb m_vb d_vb], .agg #[.bool s_ta, .slice A_ta n_ta c_ta, .slice D_ta m_ta d_ta, .bool s_tb, .slice A_tb n_tb c_tb, .slice D_tb m_tb d_tb]] w (RetEV (tanR ds ⟨op, a, b, (q.s, q.z, q.z')⟩ Y v t) w) := by
  have z_va := getD_sz zv (by omega) a.toNat
  have z_vb := getD_sz zv (by omega) b.toNat
  have z_ta := getD_sz zt (by omega) a.toNat
  have z_tb := getD_sz zt (by omega) b.toNat
  rcases op_cases op with (rfl | rfl | rfl | rfl | rfl | rfl | rfl | rfl | rfl | rfl) | hno
  · exact absurd hA (by decide)
  · exact absurd hA (by decide)
  · rw [tanR_3]; exact al_neg q_y z_y q_va z_va q_vb z_vb q_ta z_ta q_tb z_tb
  · rw [tanR_4]; exact al_add q_y z_y q_va z_va q_vb z_vb q_ta z_ta q_tb z_tb
  · rw [tanR_5]; exact al_sub q_y z_y q_va z_va q_vb z_vb q_ta z_ta q_tb z_tb
  · rw [tanR_6]; exact al_mul q_y z_y q_va z_va q_vb z_vb q_ta z_ta q_tb z_tb
  · by_cases h0 : v.getD b.toNat 0 = 0
    · rw [tanR_7n h0]; exact al_div_no q_y z_y q_va z_va q_vb z_vb q_ta z_ta q_tb z_tb h0
    · rw [tanR_7 h0]; exact al_div q_y z_y q_va z_va q_vb z_vb q_ta z_ta q_tb z_tb h0
  · by_cases h0 : Y + Y = 0
    · rw [tanR_8n h0]; exact al_sqrt_no q_y z_y q_va z_va q_vb z_vb q_ta z_ta q_tb z_tb h0
    · rw [tanR_8 h0]; exact al_sqrt q_y z_y q_va z_va q_vb z_vb q_ta z_ta q_tb z_tb h0
  · rw [tanR_9]; exact al_exp q_y z_y q_va z_va q_vb z_vb q_ta z_ta q_tb z_tb
  · by_cases h0 : v.getD a.toNat 0 = 0
    · rw [tanR_10n h0]; exact al_log_no q_y z_y q_va z_va q_vb z_vb q_ta z_ta q_tb z_tb h0
    · rw [tanR_10 h0]; exact al_log q_y z_y q_va z_va q_vb z_vb q_ta z_ta q_tb z_tb h0
  · rw [arity_no hno] at hA; omega

set_option maxRecDepth 100000 in
set_option maxHeartbeats 8000000 in
theorem rf_rules {w : World} {A B D : Option Addr} {n c m d k e : Nat} {xs : List RI} {v ds : List Rat} (h : SlP w A n c xs) (hprog : IsProg vq nq (xs.map RI.pi)) (hv : SlQ w B m d v) (hvl : m = n) (zv : AllSz 64 v) (hd : SlQ w D k e ds) (zd : AllSz 64 ds) (hin : ∀ j, j < n → ((xs.map RI.pi).getD j PI.nil).op = 1 → ((xs.map RI.pi).getD j PI.nil).a.toNat < k) (hn : n ≤ 300) (hk : k ≤ 1000) :
    Calls Tryz.prog 30 #[.slice A n c, .slice B m d, .slice D k e] w (RetEx (evTo (tanSt ds v) (xs.map RI.pi) n) w) := by
  subst hvl
  have hlen : (xs.map RI.pi).length = m := by rw [List.length_map]; exact h.1.1
  obtain ⟨R, hR⟩ : ∃ R, R = evTo (tanSt ds v) (xs.map RI.pi) m := ⟨_, rfl⟩
  rw [← hR]
  have HR := Lib.hid hR
  have HL := Lib.hid hlen
  have HVL := Lib.hid hv.len
  have HIN := Lib.hid hin
  have HPR := Lib.hid hprog
  have HQV := Lib.hid hv
  have HQD := Lib.hid hd
  clear hR hlen hin hprog hv hd
  obtain ⟨i0, hi0, hz0, hz1, hz2⟩ := info_parts infoQ
  go_enter Tryz.func30, Tryz.ntmps30
  go_wp2_with fail
  go_loopw [9, 16] (fun vv iv wr => ∃ (j : Nat) (t : List Rat), j ≤ m ∧ iv = .int .i64 j ∧ Hid (OwnQ w.heap.size wr vv t) ∧ Hid (evTo (tanSt ds v) (xs.map RI.pi) j = .ok t) ∧ Hid (AllSz 64 t) ∧ Below w.heap.size w wr) (fun _ iv _ => m - mes iv)
  case atStart => exact ⟨0, [], by omega, rfl, Lib.hid ⟨[], OwnC.nil, rfl, fun j x hx => by simp at hx⟩, Lib.hid rfl, Lib.hid (fun X hX => by simp at hX), Below.refl _ _⟩
  case round =>
    obtain ⟨j, t, hj, rfl, HV, HE, HZ, hb⟩ := hrel
    have htl : t.length = j := evTo_len HE.out
    obtain ⟨A', c', ev⟩ := HV.out.form
    rw [htl] at ev
    subst ev
    have HTL2 := Lib.hid htl
    clear htl
    by_cases hj2 : j < m
    · obtain ⟨b0, off, x, rfl, hlt, hxk, hok, c0, c1, c2, c3, c4, c5⟩ := (h.below hb).at_ hj2
      have hp := pi_at hxk
      have hfit : fits vq nq x.pi j := by rw [← hp]; exact HPR.out.1 j (by rw [HL.out]; exact hj2)
      have hin2 : x.op = 1 → x.a.toNat < k := fun h1 => by have := HIN.out j hj2; rw [hp] at this; exact this h1
      have zy : Sz (v.getD j 0) 64 := zv.at_ (by have := HVL.out; omega)
      obtain ⟨r, hr⟩ : ∃ r, tanR ds x.pi (v.getD j 0) v t = r := ⟨_, rfl⟩
      have hst : tanSt ds v j ((xs.map RI.pi).getD j PI.nil) t = big r := by rw [hp]; unfold tanSt; rw [hr]
      have hsz : ∀ X, r = .ok X → Sz X 451 := fun X hX => tanR_sz (hr.trans hX) zy zv HZ.out zd
      have hre : ∀ e, r = .error e → e = 4 := fun e he => tanR_err (hr.trans he)
      have hend : ∀ e, big r = .error e → R = .error (j, e) := fun e he => by rw [HR.out]; exact evTo_err (evTo_stop HE.out (hst.trans he)) m (by omega)
      have hnext : ∀ X, big r = .ok X → evTo (tanSt ds v) (xs.map RI.pi) (j + 1) = .ok (t ++ [X]) := fun X hX => evTo_step HE.out (hst.trans hX)
      clear hp hst hxk
      obtain ⟨op, a, b, q⟩ := x
      simp only at c0 c1 c2 c3 c4 c5 hin2 ⊢
      have hr : tanR ds ⟨op, a, b, (q.s, q.z, q.z')⟩ (v.getD j 0) v t = r := hr
      have hfit2 : fits vq nq ⟨op, a, b, (q.s, q.z, q.z')⟩ j := hfit
      have AR := fun (w1 : World) => Lib.hid (ref_arity op w1)
      have R0 := fun (w1 : World) => Lib.hid (ref_of 0 (by omega) (by omega) w1)
      by_cases h1 : op = 1
      · subst h1
        obtain ⟨g1, g2⟩ := fit_in hfit2
        have g3 := hin2 rfl
        obtain ⟨i, rfl⟩ : ∃ i : Nat, a = (i : Int) := ⟨a.toNat, by omega⟩
        have hi1 : i < k := by omega
        rw [tanR_1, show ((i : Int)).toNat = i by omega] at hr
        subst hr
        have hX := hsz _ rfl
        obtain ⟨gd, od, s_d, A_d, n_d, c_d, D_d, m_d, d_d, rfl, l_d, kd0, kd1, kd2, q_d⟩ := (HQD.out.below hb).at_ hi1
        generalize ds.getD i 0 = X at *
        simp only [show arity 1 = 0 from by decide] at AR
        obtain ⟨V, hW, Bx, hb1⟩ := box0 52 wr #[.int .i64 1, .int .i64 (i : Int), .int .i64 b, .bool q.s, .slice q.A q.n q.c, .slice q.A' q.n' q.c']
        have HW := Lib.hid hW
        have HBx := Lib.hid Bx
        clear hW Bx hok hfit
        go_wp2_with fail
        rw [HW.out]
        with_reducible refine (R0 _).out.mono ?_
        rintro _ w1 ⟨s0, A0, n0, c0', E0, m0, d0, rfl, q0, b1⟩
        obtain ⟨V2, hW2, Bt, hb2⟩ := box0 45 w1 #[.bool s0, .slice A0 n0 c0', .slice E0 m0 d0]
        have HW2 := Lib.hid hW2
        have x2 : Below V.heap.size V V2 := bb b1 hb2
        have q2 := q0.below hb2
        clear hW2
        go_upto_region 8 with (fail)
        rw [HW2.out]
        obtain ⟨k0, k1, k2, k3, k4, k5⟩ := (HBx.out.below' x2).six.1
        have HBt := Lib.hid Bt
        obtain ⟨⟨e0, e1, e2⟩, e3, e4, e5⟩ := Bt.three
        clear Bt
        have y2 : Below wr.heap.size wr V2 := bb hb1 x2
        have p0 := (y2.cell (p := ⟨gd, od + i * 3, none⟩) l_d).trans kd0
        have p1 := (y2.cell (p := ⟨gd, od + i * 3 + 1, none⟩) l_d).trans kd1
        have p2 := (y2.cell (p := ⟨gd, od + i * 3 + 2, none⟩) l_d).trans kd2
        go_upto_region 10 with (fail)
        obtain ⟨w3, hV3⟩ : ∃ W, ((V2.setCell ⟨w1.heap.size, 0, none⟩ (.bool s_d)).setCell ⟨w1.heap.size, 1, none⟩ (.slice A_d n_d c_d)).setCell ⟨w1.heap.size, 2, none⟩ (.slice D_d m_d d_d) = W := ⟨_, rfl⟩
        rw [hV3]
        have BT : Box 45 w3 w1.heap.size #[.bool s_d, .slice A_d n_d c_d, .slice D_d m_d d_d] := by rw [← hV3]; exact box_self HBt.out _ _ _
        have x3 : Below V.heap.size V w3 := by rw [← hV3]; exact below_put3 x2 b1.size (Nat.le_refl _) _ _ _
        have qT : Q w3 s_d A_d n_d c_d D_d m_d d_d X := by rw [← hV3]; exact (q_d.below y2).put3 (x0 := .bool s_d) (x1 := .slice A_d n_d c_d) (x2 := .slice D_d m_d d_d) ⟨_, _, _, _, _, _, _, HBt.out⟩
        clear hV3 p0 p1 p2 kd0 kd1 kd2 q_d y2 g1 g2 g3 hin2 hre hsz
        obtain ⟨k0, k1, k2, k3, k4, k5⟩ := (HBx.out.below' x3).six.1
        go_wp2_with fail
        with_reducible refine (AR _).out.mono ?_
        rintro _ _ ⟨rfl, rfl⟩
        have PB := ref_pbits qT hX (by omega)
        obtain ⟨⟨t0, t1, t2⟩, t3, t4, t5⟩ := BT.three
        have HBT := Lib.hid BT
        have HQT := Lib.hid qT
        by_cases hbig : 4096 < bitsQ X
        · have hRR := hend 5 (big_no hbig)
          subst hRR
          unfold bitsQ at hbig
          generalize max (blen X.num.natAbs : Int) (blen X.den) = tt at *
          have HPB := Lib.hid PB
          clear PB BT qT hend hnext
          go_wp2_with fail
          with_reducible refine HPB.out.mono ?_
          rintro _ w5 ⟨rfl, b5⟩
          go_wp2_with fail
          go_ret3
          exact ⟨rfl, bb hb (bb hb1 (bb x3 b5))⟩
        · have HEV2 := Lib.hid (hnext X (big_yes hbig))
          have HZ2 := Lib.hid (HZ.out.snoc (sz_of_bits hbig))
          unfold bitsQ at hbig
          generalize max (blen X.num.natAbs : Int) (blen X.den) = tt at *
          have HPB := Lib.hid PB
          have HX := Lib.hid hX
          clear PB BT qT hend hnext hX
          go_wp2_with fail
          with_reducible refine HPB.out.mono ?_
          rintro _ w5 ⟨rfl, b5⟩
          have x5 : Below V.heap.size V w5 := bb x3 b5
          obtain ⟨t0, t1, t2⟩ := (HBT.out.below' b5).three.1
          have q5 := HQT.out.below b5
          obtain ⟨vs, o1, o2, o3⟩ := HV.out.below (bb hb1 x5)
          have y5 : Below w.heap.size w w5 := bb hb (bb hb1 x5)
          have hvs : vs.length = j := by rw [o2]; exact HTL2.out
          have hok2 : (⟨s_d, A_d, n_d, c_d, (words X.num.natAbs), D_d, m_d, d_d, (words X.den)⟩ : RQ).ok w5 := ⟨q5.2.1, q5.2.2, show n_d ≤ maxLen by have := q5.2.1.small HX.out.1; unfold maxLen; omega, show m_d ≤ maxLen by have := q5.2.2.small HX.out.2; unfold maxLen; omega⟩
          have HO1 := Lib.hid o1
          have HO2 := Lib.hid o2
          have HO3 := Lib.hid o3
          have HVS := Lib.hid hvs
          have HQ5 := Lib.hid q5
          have HOK := Lib.hid hok2
          clear o1 o2 o3 hvs q5 hok2
          go_wp2_with (at_builtin; refine wpList_append_C _ rfl _ _ 23 rfl w.heap.size 45 i0 _ 56 Tryz.underlying23 hi0 hz0 hz1 hz2 rfl (by decide) zeroQ _ vs rfl (HO1.out.below (below_alloc _ _)) ⟨w5.heap.size, 0, none⟩ 1 (⟨s_d, A_d, n_d, c_d, (words X.num.natAbs), D_d, m_d, d_d, (words X.den)⟩ : RQ) rfl rfl ?c1 (rq_one _) (rq_noW _) ?c3 ?c4 ?c5 ?_)
          case c1 => exact news_new w5 _ _
          case c3 => have := HVS.out; unfold maxLen; omega
          case c4 => have := HVS.out; omega
          case c5 => have := y5.size; simp; omega
          intro v' w6 hown hgrow
          have hbn := (y5.alloc y5.size _).grown hgrow (by have := y5.size; simp; omega) (HO1.out.base)
          have HOQ := Lib.hid (OwnQ.append HO1.out HO2.out HO3.out HOK.out HQ5.out hown hgrow)
          clear hown hgrow
          go_wp2_with fail
          go_roundw
          case rel => exact ⟨j + 1, t ++ [X], by omega, by go_num, HOQ, HEV2, HZ2, hbn⟩
          case measure => simp [mes, intOf]; omega
      · have e1 : (op == 1) = false := by simpa using h1
        by_cases h2 : op = 2
        · subst h2
          rw [tanR_2] at hr
          subst hr
          have hX := hsz _ rfl
          simp only [show arity 2 = 0 from by decide] at AR
          obtain ⟨V, hW, Bx, hb1⟩ := box0 52 wr #[.int .i64 2, .int .i64 a, .int .i64 b, .bool q.s, .slice q.A q.n q.c, .slice q.A' q.n' q.c']
          have HW := Lib.hid hW
          have HBx := Lib.hid Bx
          clear hW Bx hok hfit
          go_wp2_with fail
          rw [HW.out]
          with_reducible refine (R0 _).out.mono ?_
          rintro _ w1 ⟨s0, A0, n0, c0', E0, m0, d0, rfl, q0, b1⟩
          obtain ⟨V2, hW2, Bt, hb2⟩ := box0 45 w1 #[.bool s0, .slice A0 n0 c0', .slice E0 m0 d0]
          have HW2 := Lib.hid hW2
          have x2 : Below V.heap.size V V2 := bb b1 hb2
          have q2 := q0.below hb2
          clear hW2
          go_upto_region 8 with (fail)
          rw [HW2.out]
          obtain ⟨k0, k1, k2, k3, k4, k5⟩ := (HBx.out.below' x2).six.1
          have HBt := Lib.hid Bt
          obtain ⟨⟨e0, e1, e2⟩, e3, e4, e5⟩ := Bt.three
          clear Bt
          obtain ⟨X, hX0⟩ : ∃ X : Rat, (0 : Rat) = X := ⟨_, rfl⟩
          have qT : Q V2 s0 A0 n0 c0' E0 m0 d0 X := by rw [← hX0]; exact q2
          have BT := HBt.out
          rw [hX0] at hX hend hnext
          clear hX0 q2 q0
          go_wp2_with fail
          with_reducible refine (AR _).out.mono ?_
          rintro _ _ ⟨rfl, rfl⟩
          have PB := ref_pbits qT hX (by omega)
          obtain ⟨⟨t0, t1, t2⟩, t3, t4, t5⟩ := BT.three
          have HBT := Lib.hid BT
          have HQT := Lib.hid qT
          by_cases hbig : 4096 < bitsQ X
          · have hRR := hend 5 (big_no hbig)
            subst hRR
            unfold bitsQ at hbig
            generalize max (blen X.num.natAbs : Int) (blen X.den) = tt at *
            have HPB := Lib.hid PB
            clear PB BT qT hend hnext
            go_wp2_with fail
            with_reducible refine HPB.out.mono ?_
            rintro _ w5 ⟨rfl, b5⟩
            go_wp2_with fail
            go_ret3
            exact ⟨rfl, bb hb (bb hb1 (bb x2 b5))⟩
          · have HEV2 := Lib.hid (hnext X (big_yes hbig))
            have HZ2 := Lib.hid (HZ.out.snoc (sz_of_bits hbig))
            unfold bitsQ at hbig
            generalize max (blen X.num.natAbs : Int) (blen X.den) = tt at *
            have HPB := Lib.hid PB
            have HX := Lib.hid hX
            clear PB BT qT hend hnext hX
            go_wp2_with fail
            with_reducible refine HPB.out.mono ?_
            rintro _ w5 ⟨rfl, b5⟩
            have x5 : Below V.heap.size V w5 := bb x2 b5
            obtain ⟨t0, t1, t2⟩ := (HBT.out.below' b5).three.1
            have q5 := HQT.out.below b5
            obtain ⟨vs, o1, o2, o3⟩ := HV.out.below (bb hb1 x5)
            have y5 : Below w.heap.size w w5 := bb hb (bb hb1 x5)
            have hvs : vs.length = j := by rw [o2]; exact HTL2.out
            have hok2 : (⟨s0, A0, n0, c0', (words X.num.natAbs), E0, m0, d0, (words X.den)⟩ : RQ).ok w5 := ⟨q5.2.1, q5.2.2, show n0 ≤ maxLen by have := q5.2.1.small HX.out.1; unfold maxLen; omega, show m0 ≤ maxLen by have := q5.2.2.small HX.out.2; unfold maxLen; omega⟩
            have HO1 := Lib.hid o1
            have HO2 := Lib.hid o2
            have HO3 := Lib.hid o3
            have HVS := Lib.hid hvs
            have HQ5 := Lib.hid q5
            have HOK := Lib.hid hok2
            clear o1 o2 o3 hvs q5 hok2
            go_wp2_with (at_builtin; refine wpList_append_C _ rfl _ _ 23 rfl w.heap.size 45 i0 _ 56 Tryz.underlying23 hi0 hz0 hz1 hz2 rfl (by decide) zeroQ _ vs rfl (HO1.out.below (below_alloc _ _)) ⟨w5.heap.size, 0, none⟩ 1 (⟨s0, A0, n0, c0', (words X.num.natAbs), E0, m0, d0, (words X.den)⟩ : RQ) rfl rfl ?c1 (rq_one _) (rq_noW _) ?c3 ?c4 ?c5 ?_)
            case c1 => exact news_new w5 _ _
            case c3 => have := HVS.out; unfold maxLen; omega
            case c4 => have := HVS.out; omega
            case c5 => have := y5.size; simp; omega
            intro v' w6 hown hgrow
            have hbn := (y5.alloc y5.size _).grown hgrow (by have := y5.size; simp; omega) (HO1.out.base)
            have HOQ := Lib.hid (OwnQ.append HO1.out HO2.out HO3.out HOK.out HQ5.out hown hgrow)
            clear hown hgrow
            go_wp2_with fail
            go_roundw
            case rel => exact ⟨j + 1, t ++ [X], by omega, by go_num, HOQ, HEV2, HZ2, hbn⟩
            case measure => simp [mes, intOf]; omega
        · have hr2 := ar_op h2 h1
          have e2 : (op == 2) = false := by simpa using h2
          have hab : 0 < arity op ∧ (0 ≤ a ∧ a < j) ∧ (0 ≤ b ∧ b < j) := by
            rcases hr2 with h9 | h9 | h9
            · have hf := fit_one h2 h1 h9 hfit2
              have hb0' : b = 0 := by
                unfold fits at hfit2
                simp only at hfit2
                rw [if_neg h2, if_neg h1, if_pos h9] at hfit2
                exact hfit2.2.2.2
              omega
            · have hf := fit_two h2 h1 h9 hfit2
              omega
            · exact (fit_no h2 h1 h9 hfit2).elim
          obtain ⟨hA, ha, hb'⟩ := hab
          obtain ⟨ia, rfl⟩ : ∃ i : Nat, a = (i : Int) := ⟨a.toNat, by omega⟩
          obtain ⟨ib, rfl⟩ : ∃ i : Nat, b = (i : Int) := ⟨b.toNat, by omega⟩
          have ia1 : ia < j := by omega
          have ib1 : ib < j := by omega
          have ia2 : ia < m := by omega
          have ib2 : ib < m := by omega
          have ia3 : (ia : Int) < (j : Int) := by omega
          have ib3 : (ib : Int) < (j : Int) := by omega
          have ia4 : (ia : Int) < (m : Int) := by omega
          have ib4 : (ib : Int) < (m : Int) := by omega
          obtain ⟨ar, har⟩ : ∃ ar, arity op = ar := ⟨_, rfl⟩
          have har2 : 0 < ar := by omega
          simp only [har] at AR
          have HAO := Lib.hid hA
          clear hr2 hfit2 hin2 ha hb' hA har
          obtain ⟨g_y, o_y, s_y, A_y, n_y, c_y, D_y, m_y, d_y, rfl, l_y, k0_y, k1_y, k2_y, q_y⟩ := (HQV.out.below hb).at_ hj2
          obtain ⟨g_va, o_va, s_va, A_va, n_va, c_va, D_va, m_va, d_va, e_va, l_va, k0_va, k1_va, k2_va, q_va⟩ := (HQV.out.below hb).at_ ia2
          obtain ⟨g_vb, o_vb, s_vb, A_vb, n_vb, c_vb, D_vb, m_vb, d_vb, e_vb, l_vb, k0_vb, k1_vb, k2_vb, q_vb⟩ := (HQV.out.below hb).at_ ib2
          obtain ⟨g_ta, o_ta, s_ta, A_ta, n_ta, c_ta, D_ta, m_ta, d_ta, rfl, l_ta, k0_ta, k1_ta, k2_ta, q_ta⟩ := HV.out.slq.at_ ia1
          obtain ⟨g_tb, o_tb, s_tb, A_tb, n_tb, c_tb, D_tb, m_tb, d_tb, e_tb, l_tb, k0_tb, k1_tb, k2_tb, q_tb⟩ := HV.out.slq.at_ ib1
          injection e_va with e_va
          injection e_va with e3 e4
          subst e3 e4
          injection e_vb with e_vb
          injection e_vb with e3 e4
          subst e3 e4
          injection e_tb with e_tb
          injection e_tb with e3 e4
          subst e3 e4
          clear l_va l_vb l_tb
          obtain ⟨V, hW, Bx, hb1⟩ := box0 52 wr #[.int .i64 op, .int .i64 (ia : Int), .int .i64 (ib : Int), .bool q.s, .slice q.A q.n q.c, .slice q.A' q.n' q.c']
          have HW := Lib.hid hW
          have HBx := Lib.hid Bx
          clear hW Bx hok hfit
          go_wp2_with fail
          rw [HW.out]
          with_reducible refine (R0 _).out.mono ?_
          rintro _ w1 ⟨s0, A0, n0, c0', E0, m0, d0, rfl, q0, b1⟩
          obtain ⟨V2, hW2, Bt, hb2⟩ := box0 45 w1 #[.bool s0, .slice A0 n0 c0', .slice E0 m0 d0]
          have HW2 := Lib.hid hW2
          have x2 : Below V.heap.size V V2 := bb b1 hb2
          have q2 := q0.below hb2
          clear hW2
          go_upto_region 8 with (fail)
          rw [HW2.out]
          obtain ⟨k0, k1, k2, k3, k4, k5⟩ := (HBx.out.below' x2).six.1
          have HBt := Lib.hid Bt
          obtain ⟨⟨e0, e1, e2⟩, e3, e4, e5⟩ := Bt.three
          clear Bt
          have y2 : Below wr.heap.size wr V2 := bb hb1 x2
          have hS : ∀ w', Below V2.heap.size V2 w' → w'.cell? ⟨wr.heap.size, 0, none⟩ = some (.int .i64 op) ∧ w'.cell? ⟨wr.heap.size, 1, none⟩ = some (.int .i64 (ia : Int)) ∧ w'.cell? ⟨wr.heap.size, 2, none⟩ = some (.int .i64 (ib : Int)) ∧ w'.cell? ⟨wr.heap.size, 3, none⟩ = some (.bool q.s) ∧ w'.cell? ⟨wr.heap.size, 4, none⟩ = some (.slice q.A q.n q.c) ∧ w'.cell? ⟨wr.heap.size, 5, none⟩ = some (.slice q.A' q.n' q.c') ∧ w'.cell? ⟨g_y, o_y + j * 3, none⟩ = some (.bool s_y) ∧ w'.cell? ⟨g_y, o_y + j * 3 + 1, none⟩ = some (.slice A_y n_y c_y) ∧ w'.cell? ⟨g_y, o_y + j * 3 + 2, none⟩ = some (.slice D_y m_y d_y) ∧ w'.cell? ⟨g_y, o_y + ia * 3, none⟩ = some (.bool s_va) ∧ w'.cell? ⟨g_y, o_y + ia * 3 + 1, none⟩ = some (.slice A_va n_va c_va) ∧ w'.cell? ⟨g_y, o_y + ia * 3 + 2, none⟩ = some (.slice D_va m_va d_va) ∧ w'.cell? ⟨g_y, o_y + ib * 3, none⟩ = some (.bool s_vb) ∧ w'.cell? ⟨g_y, o_y + ib * 3 + 1, none⟩ = some (.slice A_vb n_vb c_vb) ∧ w'.cell? ⟨g_y, o_y + ib * 3 + 2, none⟩ = some (.slice D_vb m_vb d_vb) ∧ w'.cell? ⟨g_ta, o_ta + ia * 3, none⟩ = some (.bool s_ta) ∧ w'.cell? ⟨g_ta, o_ta + ia * 3 + 1, none⟩ = some (.slice A_ta n_ta c_ta) ∧ w'.cell? ⟨g_ta, o_ta + ia * 3 + 2, none⟩ = some (.slice D_ta m_ta d_ta) ∧ w'.cell? ⟨g_ta, o_ta + ib * 3, none⟩ = some (.bool s_tb) ∧ w'.cell? ⟨g_ta, o_ta + ib * 3 + 1, none⟩ = some (.slice A_tb n_tb c_tb) ∧ w'.cell? ⟨g_ta, o_ta + ib * 3 + 2, none⟩ = some (.slice D_tb m_tb d_tb) := fun w' hb9 => ⟨(HBx.out.below' (bb x2 hb9)).six.1.1, (HBx.out.below' (bb x2 hb9)).six.1.2.1, (HBx.out.below' (bb x2 hb9)).six.1.2.2.1, (HBx.out.below' (bb x2 hb9)).six.1.2.2.2.1, (HBx.out.below' (bb x2 hb9)).six.1.2.2.2.2.1, (HBx.out.below' (bb x2 hb9)).six.1.2.2.2.2.2, ((bb y2 hb9).cell (p := ⟨g_y, o_y + j * 3, none⟩) l_y).trans k0_y, ((bb y2 hb9).cell (p := ⟨g_y, o_y + j * 3 + 1, none⟩) l_y).trans k1_y, ((bb y2 hb9).cell (p := ⟨g_y, o_y + j * 3 + 2, none⟩) l_y).trans k2_y, ((bb y2 hb9).cell (p := ⟨g_y, o_y + ia * 3, none⟩) l_y).trans k0_va, ((bb y2 hb9).cell (p := ⟨g_y, o_y + ia * 3 + 1, none⟩) l_y).trans k1_va, ((bb y2 hb9).cell (p := ⟨g_y, o_y + ia * 3 + 2, none⟩) l_y).trans k2_va, ((bb y2 hb9).cell (p := ⟨g_y, o_y + ib * 3, none⟩) l_y).trans k0_vb, ((bb y2 hb9).cell (p := ⟨g_y, o_y + ib * 3 + 1, none⟩) l_y).trans k1_vb, ((bb y2 hb9).cell (p := ⟨g_y, o_y + ib * 3 + 2, none⟩) l_y).trans k2_vb, ((bb y2 hb9).cell (p := ⟨g_ta, o_ta + ia * 3, none⟩) l_ta).trans k0_ta, ((bb y2 hb9).cell (p := ⟨g_ta, o_ta + ia * 3 + 1, none⟩) l_ta).trans k1_ta, ((bb y2 hb9).cell (p := ⟨g_ta, o_ta + ia * 3 + 2, none⟩) l_ta).trans k2_ta, ((bb y2 hb9).cell (p := ⟨g_ta, o_ta + ib * 3, none⟩) l_ta).trans k0_tb, ((bb y2 hb9).cell (p := ⟨g_ta, o_ta + ib * 3 + 1, none⟩) l_ta).trans k1_tb, ((bb y2 hb9).cell (p := ⟨g_ta, o_ta + ib * 3 + 2, none⟩) l_ta).trans k2_tb⟩
          have hsz2 : V2.heap.size = w1.heap.size + 1 := by rw [← HW2.out]; simp
          have hP : ∀ (w' : World) (z0 z1 z2 : Value), Below V2.heap.size V2 w' → (fun w' : World => w'.cell? ⟨wr.heap.size, 0, none⟩ = some (.int .i64 op) ∧ w'.cell? ⟨wr.heap.size, 1, none⟩ = some (.int .i64 (ia : Int)) ∧ w'.cell? ⟨wr.heap.size, 2, none⟩ = some (.int .i64 (ib : Int)) ∧ w'.cell? ⟨wr.heap.size, 3, none⟩ = some (.bool q.s) ∧ w'.cell? ⟨wr.heap.size, 4, none⟩ = some (.slice q.A q.n q.c) ∧ w'.cell? ⟨wr.heap.size, 5, none⟩ = some (.slice q.A' q.n' q.c') ∧ w'.cell? ⟨g_y, o_y + j * 3, none⟩ = some (.bool s_y) ∧ w'.cell? ⟨g_y, o_y + j * 3 + 1, none⟩ = some (.slice A_y n_y c_y) ∧ w'.cell? ⟨g_y, o_y + j * 3 + 2, none⟩ = some (.slice D_y m_y d_y) ∧ w'.cell? ⟨g_y, o_y + ia * 3, none⟩ = some (.bool s_va) ∧ w'.cell? ⟨g_y, o_y + ia * 3 + 1, none⟩ = some (.slice A_va n_va c_va) ∧ w'.cell? ⟨g_y, o_y + ia * 3 + 2, none⟩ = some (.slice D_va m_va d_va) ∧ w'.cell? ⟨g_y, o_y + ib * 3, none⟩ = some (.bool s_vb) ∧ w'.cell? ⟨g_y, o_y + ib * 3 + 1, none⟩ = some (.slice A_vb n_vb c_vb) ∧ w'.cell? ⟨g_y, o_y + ib * 3 + 2, none⟩ = some (.slice D_vb m_vb d_vb) ∧ w'.cell? ⟨g_ta, o_ta + ia * 3, none⟩ = some (.bool s_ta) ∧ w'.cell? ⟨g_ta, o_ta + ia * 3 + 1, none⟩ = some (.slice A_ta n_ta c_ta) ∧ w'.cell? ⟨g_ta, o_ta + ia * 3 + 2, none⟩ = some (.slice D_ta m_ta d_ta) ∧ w'.cell? ⟨g_ta, o_ta + ib * 3, none⟩ = some (.bool s_tb) ∧ w'.cell? ⟨g_ta, o_ta + ib * 3 + 1, none⟩ = some (.slice A_tb n_tb c_tb) ∧ w'.cell? ⟨g_ta, o_ta + ib * 3 + 2, none⟩ = some (.slice D_tb m_tb d_tb)) (put3 w' w1.heap.size z0 z1 z2) := fun w' z0 z1 z2 hb9 => by
            obtain ⟨p0, p1, p2, p3, p4, p5, p6, p7, p8, p9, p10, p11, p12, p13, p14, p15, p16, p17, p18, p19, p20⟩ := hS w' hb9
            have h9 := hb9.size
            have h8 := b1.size
            have h7 := hb1.size
            have hlx : wr.heap.size < w'.heap.size := by have := (HBx.out.below' (bb x2 hb9)).lt; exact this
            have hxx := HBx.out.lt
            have hly : g_y < w'.heap.size := by omega
            have hlta : g_ta < w'.heap.size := by omega
            exact ⟨(cell_put3 (by omega) hlx).trans p0, (cell_put3 (by omega) hlx).trans p1, (cell_put3 (by omega) hlx).trans p2, (cell_put3 (by omega) hlx).trans p3, (cell_put3 (by omega) hlx).trans p4, (cell_put3 (by omega) hlx).trans p5, (cell_put3 (by omega) hly).trans p6, (cell_put3 (by omega) hly).trans p7, (cell_put3 (by omega) hly).trans p8, (cell_put3 (by omega) hly).trans p9, (cell_put3 (by omega) hly).trans p10, (cell_put3 (by omega) hly).trans p11, (cell_put3 (by omega) hly).trans p12, (cell_put3 (by omega) hly).trans p13, (cell_put3 (by omega) hly).trans p14, (cell_put3 (by omega) hlta).trans p15, (cell_put3 (by omega) hlta).trans p16, (cell_put3 (by omega) hlta).trans p17, (cell_put3 (by omega) hlta).trans p18, (cell_put3 (by omega) hlta).trans p19, (cell_put3 (by omega) hlta).trans p20⟩
          simp only [put3] at hP
          have EV := fun (w' : World) (hb9 : Below V2.heap.size V2 w') => al_value (op := op) (a := (ia : Int)) (b := (ib : Int)) (q := q) (ds := ds) (q_y.below (bb y2 hb9)) zy (q_va.below (bb y2 hb9)) (q_vb.below (bb y2 hb9)) (q_ta.below (bb y2 hb9)) (q_tb.below (bb y2 hb9)) zv HZ.out HAO.out
          rw [hr] at EV
          have HEV := Lib.hid EV
          have HS := Lib.hid hS
          have HP := Lib.hid hP
          clear EV hS hP q_y q_va q_vb q_ta q_tb zy k0_y k1_y k2_y k0_va k1_va k2_va k0_vb k1_vb k2_vb k0_ta k1_ta k2_ta k0_tb k1_tb k2_tb
          go_wp2_with fail
          with_reducible refine (AR _).out.mono ?_
          rintro _ _ ⟨rfl, rfl⟩
          go_wp2_with fail
          obtain ⟨p0, p1, p2, p3, p4, p5, p6, p7, p8, p9, p10, p11, p12, p13, p14, p15, p16, p17, p18, p19, p20⟩ := HS.out _ (Below.refl _ V2)
          cases r with
          | error e =>
            obtain rfl := hre e rfl
            have hRR := hend 4 rfl
            subst hRR
            clear hre hsz hend hnext
            go_region_held3 (fun w' => w'.cell? ⟨wr.heap.size, 0, none⟩ = some (.int .i64 op) ∧ w'.cell? ⟨wr.heap.size, 1, none⟩ = some (.int .i64 (ia : Int)) ∧ w'.cell? ⟨wr.heap.size, 2, none⟩ = some (.int .i64 (ib : Int)) ∧ w'.cell? ⟨wr.heap.size, 3, none⟩ = some (.bool q.s) ∧ w'.cell? ⟨wr.heap.size, 4, none⟩ = some (.slice q.A q.n q.c) ∧ w'.cell? ⟨wr.heap.size, 5, none⟩ = some (.slice q.A' q.n' q.c') ∧ w'.cell? ⟨g_y, o_y + j * 3, none⟩ = some (.bool s_y) ∧ w'.cell? ⟨g_y, o_y + j * 3 + 1, none⟩ = some (.slice A_y n_y c_y) ∧ w'.cell? ⟨g_y, o_y + j * 3 + 2, none⟩ = some (.slice D_y m_y d_y) ∧ w'.cell? ⟨g_y, o_y + ia * 3, none⟩ = some (.bool s_va) ∧ w'.cell? ⟨g_y, o_y + ia * 3 + 1, none⟩ = some (.slice A_va n_va c_va) ∧ w'.cell? ⟨g_y, o_y + ia * 3 + 2, none⟩ = some (.slice D_va m_va d_va) ∧ w'.cell? ⟨g_y, o_y + ib * 3, none⟩ = some (.bool s_vb) ∧ w'.cell? ⟨g_y, o_y + ib * 3 + 1, none⟩ = some (.slice A_vb n_vb c_vb) ∧ w'.cell? ⟨g_y, o_y + ib * 3 + 2, none⟩ = some (.slice D_vb m_vb d_vb) ∧ w'.cell? ⟨g_ta, o_ta + ia * 3, none⟩ = some (.bool s_ta) ∧ w'.cell? ⟨g_ta, o_ta + ia * 3 + 1, none⟩ = some (.slice A_ta n_ta c_ta) ∧ w'.cell? ⟨g_ta, o_ta + ia * 3 + 2, none⟩ = some (.slice D_ta m_ta d_ta) ∧ w'.cell? ⟨g_ta, o_ta + ib * 3, none⟩ = some (.bool s_tb) ∧ w'.cell? ⟨g_ta, o_ta + ib * 3 + 1, none⟩ = some (.slice A_tb n_tb c_tb) ∧ w'.cell? ⟨g_ta, o_ta + ib * 3 + 2, none⟩ = some (.slice D_tb m_tb d_tb)) (first | with_reducible exact HS.out _ (Below.refl _ V2).drew | with_reducible exact HS4.out | with_reducible exact HS.out _ x4 | fail)
              (first
                | (go_at_call 69; (with_reducible refine (HEV.out _ ?hb1).mono ?_); (case hb1 => exact (Below.refl _ V2).drew); rintro _ w4 ⟨rfl, b4⟩; have x4 : Below V2.heap.size V2 w4 := Below.undrew b4; have HS4 := Lib.hid (HP.out w4 (.bool false) (.slice none 0 0) (.slice none 0 0) x4); have BQ := HBt.out.below' x4; obtain ⟨⟨e0, e1, e2⟩, e3, e4, e5⟩ := BQ.three))
            all_goals
              go_wp2_with fail
              go_ret3
              exact ⟨rfl, bb hb (bb hb1 (below_put3 (bb x2 x4) b1.size (Nat.le_refl _) _ _ _))⟩
          | ok X =>
            have hX := hsz X rfl
            clear hre hsz
            go_region_held3 (fun w' => w'.cell? ⟨wr.heap.size, 0, none⟩ = some (.int .i64 op) ∧ w'.cell? ⟨wr.heap.size, 1, none⟩ = some (.int .i64 (ia : Int)) ∧ w'.cell? ⟨wr.heap.size, 2, none⟩ = some (.int .i64 (ib : Int)) ∧ w'.cell? ⟨wr.heap.size, 3, none⟩ = some (.bool q.s) ∧ w'.cell? ⟨wr.heap.size, 4, none⟩ = some (.slice q.A q.n q.c) ∧ w'.cell? ⟨wr.heap.size, 5, none⟩ = some (.slice q.A' q.n' q.c') ∧ w'.cell? ⟨g_y, o_y + j * 3, none⟩ = some (.bool s_y) ∧ w'.cell? ⟨g_y, o_y + j * 3 + 1, none⟩ = some (.slice A_y n_y c_y) ∧ w'.cell? ⟨g_y, o_y + j * 3 + 2, none⟩ = some (.slice D_y m_y d_y) ∧ w'.cell? ⟨g_y, o_y + ia * 3, none⟩ = some (.bool s_va) ∧ w'.cell? ⟨g_y, o_y + ia * 3 + 1, none⟩ = some (.slice A_va n_va c_va) ∧ w'.cell? ⟨g_y, o_y + ia * 3 + 2, none⟩ = some (.slice D_va m_va d_va) ∧ w'.cell? ⟨g_y, o_y + ib * 3, none⟩ = some (.bool s_vb) ∧ w'.cell? ⟨g_y, o_y + ib * 3 + 1, none⟩ = some (.slice A_vb n_vb c_vb) ∧ w'.cell? ⟨g_y, o_y + ib * 3 + 2, none⟩ = some (.slice D_vb m_vb d_vb) ∧ w'.cell? ⟨g_ta, o_ta + ia * 3, none⟩ = some (.bool s_ta) ∧ w'.cell? ⟨g_ta, o_ta + ia * 3 + 1, none⟩ = some (.slice A_ta n_ta c_ta) ∧ w'.cell? ⟨g_ta, o_ta + ia * 3 + 2, none⟩ = some (.slice D_ta m_ta d_ta) ∧ w'.cell? ⟨g_ta, o_ta + ib * 3, none⟩ = some (.bool s_tb) ∧ w'.cell? ⟨g_ta, o_ta + ib * 3 + 1, none⟩ = some (.slice A_tb n_tb c_tb) ∧ w'.cell? ⟨g_ta, o_ta + ib * 3 + 2, none⟩ = some (.slice D_tb m_tb d_tb)) (first | with_reducible exact HS.out _ (Below.refl _ V2).drew | with_reducible exact HS4.out | with_reducible exact HS.out _ x4 | fail)
              (first
                | (go_at_call 69; (with_reducible refine (HEV.out _ ?hb1).mono ?_); (case hb1 => exact (Below.refl _ V2).drew); rintro _ w4 ⟨s_z, A_z, n_z, c_z, D_z, m_z, d_z, rfl, q4, b4⟩; have x4 : Below V2.heap.size V2 w4 := Below.undrew b4; have HS4 := Lib.hid (HP.out w4 (.bool s_z) (.slice A_z n_z c_z) (.slice D_z m_z d_z) x4); have BQ := HBt.out.below' x4; obtain ⟨⟨e0, e1, e2⟩, e3, e4, e5⟩ := BQ.three))
            all_goals
              obtain ⟨w3, hV3⟩ : ∃ W, ((w4.setCell ⟨w1.heap.size, 0, none⟩ (.bool s_z)).setCell ⟨w1.heap.size, 1, none⟩ (.slice A_z n_z c_z)).setCell ⟨w1.heap.size, 2, none⟩ (.slice D_z m_z d_z) = W := ⟨_, rfl⟩
              rw [hV3]
              have BT : Box 45 w3 w1.heap.size #[.bool s_z, .slice A_z n_z c_z, .slice D_z m_z d_z] := by rw [← hV3]; exact box_self BQ _ _ _
              have x3 : Below V.heap.size V w3 := by rw [← hV3]; exact below_put3 (bb x2 x4) b1.size (Nat.le_refl _) _ _ _
              have qT : Q w3 s_z A_z n_z c_z D_z m_z d_z X := by rw [← hV3]; exact q4.put3 (x0 := .bool s_z) (x1 := .slice A_z n_z c_z) (x2 := .slice D_z m_z d_z) ⟨_, _, _, _, _, _, _, BQ⟩
              clear hV3 BQ
              have PB := ref_pbits qT hX (by omega)
              obtain ⟨⟨t0, t1, t2⟩, t3, t4, t5⟩ := BT.three
              have HBT := Lib.hid BT
              have HQT := Lib.hid qT
              by_cases hbig : 4096 < bitsQ X
              · have hRR := hend 5 (big_no hbig)
                subst hRR
                unfold bitsQ at hbig
                generalize max (blen X.num.natAbs : Int) (blen X.den) = tt at *
                have HPB := Lib.hid PB
                clear PB BT qT hend hnext
                go_wp2_with fail
                with_reducible refine HPB.out.mono ?_
                rintro _ w5 ⟨rfl, b5⟩
                go_wp2_with fail
                go_ret3
                exact ⟨rfl, bb hb (bb hb1 (bb x3 b5))⟩
              · have HEV2 := Lib.hid (hnext X (big_yes hbig))
                have HZ2 := Lib.hid (HZ.out.snoc (sz_of_bits hbig))
                unfold bitsQ at hbig
                generalize max (blen X.num.natAbs : Int) (blen X.den) = tt at *
                have HPB := Lib.hid PB
                have HX := Lib.hid hX
                clear PB BT qT hend hnext hX
                go_wp2_with fail
                with_reducible refine HPB.out.mono ?_
                rintro _ w5 ⟨rfl, b5⟩
                have x5 : Below V.heap.size V w5 := bb x3 b5
                obtain ⟨t0, t1, t2⟩ := (HBT.out.below' b5).three.1
                have q5 := HQT.out.below b5
                obtain ⟨vs, o1, o2, o3⟩ := HV.out.below (bb hb1 x5)
                have y5 : Below w.heap.size w w5 := bb hb (bb hb1 x5)
                have hvs : vs.length = j := by rw [o2]; exact HTL2.out
                have hok2 : (⟨s_z, A_z, n_z, c_z, (words X.num.natAbs), D_z, m_z, d_z, (words X.den)⟩ : RQ).ok w5 := ⟨q5.2.1, q5.2.2, show n_z ≤ maxLen by have := q5.2.1.small HX.out.1; unfold maxLen; omega, show m_z ≤ maxLen by have := q5.2.2.small HX.out.2; unfold maxLen; omega⟩
                have HO1 := Lib.hid o1
                have HO2 := Lib.hid o2
                have HO3 := Lib.hid o3
                have HVS := Lib.hid hvs
                have HQ5 := Lib.hid q5
                have HOK := Lib.hid hok2
                clear o1 o2 o3 hvs q5 hok2
                go_wp2_with (at_builtin; refine wpList_append_C _ rfl _ _ 23 rfl w.heap.size 45 i0 _ 56 Tryz.underlying23 hi0 hz0 hz1 hz2 rfl (by decide) zeroQ _ vs rfl (HO1.out.below (below_alloc _ _)) ⟨w5.heap.size, 0, none⟩ 1 (⟨s_z, A_z, n_z, c_z, (words X.num.natAbs), D_z, m_z, d_z, (words X.den)⟩ : RQ) rfl rfl ?c1 (rq_one _) (rq_noW _) ?c3 ?c4 ?c5 ?_)
                case c1 => exact news_new w5 _ _
                case c3 => have := HVS.out; unfold maxLen; omega
                case c4 => have := HVS.out; omega
                case c5 => have := y5.size; simp; omega
                intro v' w6 hown hgrow
                have hbn := (y5.alloc y5.size _).grown hgrow (by have := y5.size; simp; omega) (HO1.out.base)
                have HOQ := Lib.hid (OwnQ.append HO1.out HO2.out HO3.out HOK.out HQ5.out hown hgrow)
                clear hown hgrow
                go_wp2_with fail
                go_roundw
                case rel => exact ⟨j + 1, t ++ [X], by omega, by go_num, HOQ, HEV2, HZ2, hbn⟩
                case measure => simp [mes, intOf]; omega
    · obtain rfl : j = m := by omega
      have hRR : R = .ok t := by rw [HR.out, HE.out]
      subst hRR
      go_wp2_with fail
      go_ret3
      exact ⟨⟨_, _, _, rfl, HV.out.slq⟩, hb⟩

end Go.Proofs.YtfhihapgjiaobaaGreat

namespace Go.Proofs.YtfhihapgjiaobaaGreat
set_option maxRecDepth 100000
open Go.RowKit
set_option linter.unusedVariables false
set_option linter.unusedSimpArgs false

/-- a number is stored into block g at o -/
def put3o (w : World) (g o : Nat) (x0 x1 x2 : Value) : World := ((w.setCell ⟨g, o, none⟩ x0).setCell ⟨g, o + 1, none⟩ x1).setCell ⟨g, o + 2, none⟩ x2
theorem keep_put3o (w : World) (g o : Nat) (x0 x1 x2 : Value) : Keep g w (put3o w g o x0 x1 x2) := (((Keep.refl g w).setCell o x0).setCell (o + 1) x1).setCell (o + 2) x2
theorem block_put3o {t : TypeId} {w : World} {g o : Nat} {cur : Array Value} (h : w.heap[g]? = some (.cells cur t (0, 0))) (x0 x1 x2 : Value) : (put3o w g o x0 x1 x2).heap[g]? = some (.cells (((cur.setIfInBounds o x0).setIfInBounds (o + 1) x1).setIfInBounds (o + 2) x2) t (0, 0)) := by
  unfold put3o World.setCell
  simp [Array.getElem?_modify, h]
section
variable {t : TypeId} {B : Nat} {w w' : World} {xs : List RQ} {g n cap : Nat}
theorem OwnC.put3o (h : OwnC 3 RQ.cells t B w (.slice (some ⟨g, 0, none⟩) n cap) xs) {i : Nat} (hi : i < n) (x : RQ) : OwnC 3 RQ.cells t B (put3o w g (i * 3) (.bool x.s) (.slice x.A x.n x.c) (.slice x.A' x.n' x.c')) (.slice (some ⟨g, 0, none⟩) n cap) (xs.set i x) := by
  obtain ⟨hl, h2⟩ := h
  refine ⟨fun y hy => rfl, ?_⟩
  rcases h2 with ⟨e, _⟩ | ⟨g', cap', cur, e, h1, h2, h3, h4, h5, h6, h7⟩
  · injection e with e1; cases e1
  · injection e with e1 e2 e3
    injection e1 with e1
    injection e1 with e1
    subst e1 e2 e3
    have hsz : xs.length * 3 ≤ cur.size := by have := Nat.mul_le_mul_right 3 h3; omega
    have hio : i * 3 + 2 < cur.size := by omega
    refine .inr ⟨g, cap, _, by rw [List.length_set], h1, block_put3o h2 _ _ _, by rw [List.length_set]; exact h3, h4, by simp; exact h5, ?_, ?_⟩
    · rw [List.length_set]
      apply List.ext_getElem?
      intro k
      rw [List.getElem?_take]
      by_cases hk : k < xs.length * 3
      · rw [if_pos hk]
        have hk3 : k = k / 3 * 3 + k % 3 := by omega
        have hr : k % 3 < 3 := Nat.mod_lt _ (by omega)
        have old : cur.toList[k]? = (xs[k / 3]?).bind fun y => (RQ.cells y)[k % 3]? := by
          rw [← flat_at xs hl (k / 3) (k % 3) hr, ← hk3, ← h6, List.getElem?_take, if_pos hk]
        conv => rhs; rw [hk3]
        rw [flat_at (k := 3) (xs.set i x) (fun y _ => rfl) (k / 3) (k % 3) hr]
        simp only [Array.toList_setIfInBounds, List.getElem?_set, List.length_set, Array.length_toList]
        by_cases he : k / 3 = i
        · have hki : i * 3 ≤ k ∧ k < i * 3 + 3 := by omega
          rw [if_pos he.symm, if_pos (show i < xs.length from hi)]
          have h3' : k % 3 = 0 ∨ k % 3 = 1 ∨ k % 3 = 2 := by omega
          rcases h3' with e | e | e
          · rw [e, if_neg (by omega), if_neg (by omega), if_pos (by omega), if_pos (by omega)]; rfl
          · rw [e, if_neg (by omega), if_pos (by omega), if_pos (by omega)]; rfl
          · rw [e, if_pos (by omega), if_pos (by omega)]; rfl
        · rw [if_neg (by omega), if_neg (by omega), if_neg (by omega), if_neg (fun e => he e.symm)]
          exact old
      · rw [if_neg hk, List.getElem?_eq_none]
        rw [flat_len (xs.set i x) (k := 3) (fun y _ => rfl), List.length_set]
        omega
    · intro u hu
      have hm := List.mem_iff_getElem?.1 hu
      obtain ⟨k, hk⟩ := hm
      simp only [Array.toList_setIfInBounds, List.getElem?_set, List.length_set, Array.length_toList] at hk
      by_cases e2 : i * 3 + 2 = k
      · rw [if_pos e2, if_pos (by omega)] at hk
        injection hk with hk; subst hk; exact NoW_slice _ _ _
      · rw [if_neg e2] at hk
        by_cases e1 : i * 3 + 1 = k
        · rw [if_pos e1, if_pos (by omega)] at hk
          injection hk with hk; subst hk; exact NoW_slice _ _ _
        · rw [if_neg e1] at hk
          by_cases e0 : i * 3 = k
          · rw [if_pos e0, if_pos (by omega)] at hk
            injection hk with hk; subst hk; exact NoW_bool _
          · rw [if_neg e0] at hk
            exact h7 u (List.mem_of_getElem? hk)
theorem OwnC.lt_ (h : OwnC 3 RQ.cells t B w (.slice (some ⟨g, 0, none⟩) n cap) xs) : g < w.heap.size ∧ B ≤ g ∧ xs.length = n := by
  rcases h.2 with ⟨e, _⟩ | ⟨g', cap', cur, e, h1, h2, h3⟩
  · injection e with e1; cases e1
  · injection e with e1 e2 e3
    injection e1 with e1
    injection e1 with e1
    subst e1 e2 e3
    refine ⟨?_, h1, rfl⟩
    rcases Nat.lt_or_ge g w.heap.size with h9 | h9
    · exact h9
    · rw [Array.getElem?_eq_none h9] at h2; cases h2
theorem OwnC.keepG {g' : Nat} (h : OwnC 3 RQ.cells t B w (.slice (some ⟨g, 0, none⟩) n cap) xs) (k : Keep g' w w') (hne : g ≠ g') : OwnC 3 RQ.cells t B w' (.slice (some ⟨g, 0, none⟩) n cap) xs := by
  have hlt := h.lt_.1
  refine ⟨h.1, ?_⟩
  rcases h.2 with ⟨e, _⟩ | ⟨g1, cap', cur, e, h1, h2, h3⟩
  · injection e with e1; cases e1
  · have e' := e
    injection e' with e1 e2 e3
    injection e1 with e1
    injection e1 with e1
    subst e1
    exact .inr ⟨g, cap', cur, e, h1, (k.block g hlt hne).trans h2, h3⟩
end
theorem Sl.keepN {w w' : World} {A : Option Addr} {n c g : Nat} {xs : List Int} (h : Sl w A n c xs) (hg : NoWAt w g) (k : Keep g w w') : Sl w' A n c xs := by
  refine ⟨h.1, fun h0 => ?_⟩
  obtain ⟨b, off, e, hlt, hc⟩ := h.2 h0
  have hne : b ≠ g := fun e2 => by subst e2; exact hg _ _ (hc 0 h0)
  exact ⟨b, off, e, Nat.lt_of_lt_of_le hlt k.size, fun j hj => (World.cell?_of_block (a := ⟨b, off + j, none⟩) (k.block b hlt hne)).trans (hc j hj)⟩
theorem Q.keepN {w w' : World} {s : Bool} {A A' : Option Addr} {n c n' c' g : Nat} {X : Rat} (h : Q w s A n c A' n' c' X) (hg : NoWAt w g) (k : Keep g w w') : Q w' s A n c A' n' c' X := ⟨h.1, h.2.1.keepN hg k, h.2.2.keepN hg k⟩
theorem RQ.keepN {w w' : World} {g : Nat} {x : RQ} (h : x.ok w) (hg : NoWAt w g) (k : Keep g w w') : x.ok w' := ⟨h.1.keepN hg k, h.2.1.keepN hg k, h.2.2⟩
/-- slices elsewhere -/
theorem SlC.keepN {k : Nat} {V : Type} {cells : V → List Value} {ok : World → V → Prop} {w w' : World} {A : Option Addr} {n c g : Nat} {xs : List V} (h : SlC k cells ok w A n c xs) (hok : ∀ x ∈ xs, ok w' x) (kp : Keep g w w') (hne : ∀ b off, A = some ⟨b, off, none⟩ → b ≠ g) : SlC k cells ok w' A n c xs := by
  refine ⟨⟨h.1.1, h.1.2.1, h.1.2.2.1, fun x hx => ⟨hok x hx, (h.1.2.2.2 x hx).2⟩⟩, fun h0 => ?_⟩
  obtain ⟨b, off, e, hlt, hc⟩ := h.2 h0
  exact ⟨b, off, e, Nat.lt_of_lt_of_le hlt kp.size, fun j hj i hi => (World.cell?_of_block (a := ⟨b, off + j * k + i, none⟩) (kp.block b hlt (hne b off e))).trans (hc j hj i hi)⟩
/-- a number is put in the place of an element -/
theorem OwnQ.put {B : Nat} {w : World} {g n cap : Nat} {Xs : List Rat} (h : OwnQ B w (.slice (some ⟨g, 0, none⟩) n cap) Xs) {i : Nat} (hi : i < n) {x : RQ} {X : Rat} (hx : x.ok w) (hX : x.is w X) :
    OwnQ B (put3o w g (i * 3) (.bool x.s) (.slice x.A x.n x.c) (.slice x.A' x.n' x.c')) (.slice (some ⟨g, 0, none⟩) n cap) (Xs.set i X) := by
  obtain ⟨xs, h1, h2, h3⟩ := h
  have hn := h1.noW g rfl
  have hk := keep_put3o w g (i * 3) (.bool x.s) (.slice x.A x.n x.c) (.slice x.A' x.n' x.c')
  have hl := h1.lt_.2.2
  refine ⟨xs.set i x, h1.put3o hi x, by rw [List.length_set, List.length_set, h2], fun j y hy => ?_⟩
  rw [List.getElem?_set] at hy
  rw [List.getD_eq_getElem?_getD, List.getElem?_set]
  by_cases e : i = j
  · subst e
    rw [if_pos rfl, if_pos (by omega)] at hy
    injection hy with hy
    subst hy
    rw [if_pos rfl, if_pos (by omega)]
    exact ⟨RQ.keepN hx hn hk, Q.keepN hX hn hk⟩
  · rw [if_neg e] at hy
    rw [if_neg e, ← List.getD_eq_getElem?_getD]
    obtain ⟨g1, g2⟩ := h3 j y hy
    exact ⟨RQ.keepN g1 hn hk, Q.keepN g2 hn hk⟩
theorem OwnQ.noW {B : Nat} {w : World} {g n cap : Nat} {Xs : List Rat} (h : OwnQ B w (.slice (some ⟨g, 0, none⟩) n cap) Xs) : NoWAt w g := by
  obtain ⟨xs, h1, _⟩ := h
  exact h1.noW g rfl
theorem OwnQ.lt {B : Nat} {w : World} {g n cap : Nat} {Xs : List Rat} (h : OwnQ B w (.slice (some ⟨g, 0, none⟩) n cap) Xs) : g < w.heap.size ∧ B ≤ g ∧ Xs.length = n := by
  obtain ⟨xs, h1, h2, _⟩ := h
  obtain ⟨g1, g2, g3⟩ := h1.lt_
  exact ⟨g1, g2, by omega⟩
/-- another row -/
theorem OwnQ.keepG {B : Nat} {w w' : World} {g g' n cap : Nat} {Xs : List Rat} (h : OwnQ B w (.slice (some ⟨g, 0, none⟩) n cap) Xs) (hn : NoWAt w g') (k : Keep g' w w') (hne : g ≠ g') : OwnQ B w' (.slice (some ⟨g, 0, none⟩) n cap) Xs := by
  obtain ⟨xs, h1, h2, h3⟩ := h
  exact ⟨xs, h1.keepG k hne, h2, fun j x hx => ⟨RQ.keepN (h3 j x hx).1 hn k, Q.keepN (h3 j x hx).2 hn k⟩⟩
theorem SlQ.keepN {w w' : World} {A : Option Addr} {n c g : Nat} {Xs : List Rat} (h : SlQ w A n c Xs) (hn : NoWAt w g) (k : Keep g w w') (hne : ∀ b off, A = some ⟨b, off, none⟩ → b ≠ g) : SlQ w' A n c Xs := by
  obtain ⟨xs, h1, h2, h3⟩ := h
  exact ⟨xs, SlC.keepN h1 (fun x hx => RQ.keepN (h1.1.2.2.2 x hx).1 hn k) k hne, h2, fun j x hx => Q.keepN (h3 j x hx) hn k⟩
/-- an element as it lies -/
theorem OwnQ.at_ {B : Nat} {w : World} {g n cap : Nat} {Xs : List Rat} (h : OwnQ B w (.slice (some ⟨g, 0, none⟩) n cap) Xs) {j : Nat} (hj : j < n) : ∃ s A1 n1 c1 A2 n2 c2,
    w.cell? ⟨g, j * 3, none⟩ = some (.bool s) ∧ w.cell? ⟨g, j * 3 + 1, none⟩ = some (.slice A1 n1 c1) ∧ w.cell? ⟨g, j * 3 + 2, none⟩ = some (.slice A2 n2 c2) ∧ Q w s A1 n1 c1 A2 n2 c2 (Xs.getD j 0) ∧
    w.frozen? ⟨g, j * 3, none⟩ = false ∧ w.frozen? ⟨g, j * 3 + 1, none⟩ = false ∧ w.frozen? ⟨g, j * 3 + 2, none⟩ = false := by
  obtain ⟨b, off, s, A1, n1, c1, A2, n2, c2, e, hlt, k0, k1, k2, q⟩ := h.slq.at_ hj
  injection e with e
  injection e with e1 e2
  subst e1 e2
  rw [Nat.zero_add] at k0 k1 k2
  obtain ⟨xs, h1, _⟩ := h
  have hf : ∀ i, w.frozen? ⟨g, i, none⟩ = false := fun i => by
    rcases h1.2 with ⟨e, _⟩ | ⟨g1, cap', cur, e, _, h2, _⟩
    · injection e with e1; cases e1
    · injection e with e1 e2 e3
      injection e1 with e1
      injection e1 with e1
      subst e1
      simp [World.frozen?, h2]
  exact ⟨s, A1, n1, c1, A2, n2, c2, k0, k1, k2, q, hf _, hf _, hf _⟩

end Go.Proofs.YtfhihapgjiaobaaGreat
