/-
  The law TangentAdjoint returns true. Condition: the slices read as lists.
-/
import Derived.Test.YtfhihapgjiaobaaGreatTgRAllJ
namespace Go.Proofs.YtfhihapgjiaobaaGreat
set_option maxRecDepth 100000
open Go.RowKit
set_option linter.unusedVariables false
set_option linter.unusedSimpArgs false

theorem give_errs {v : List Rat} {l : List PI} : ∀ n (s : List Rat × List Rat) (i : Nat) (e : Int), giveTo v l n s = .error (i, e) → e = 4 ∨ e = 5 := by
  intro n
  induction n with
  | zero => intro s i e h; cases h
  | succ n ih =>
    intro s i e h
    cases hg : giveSt v n (l.getD n PI.nil) s with
    | ok s1 => rw [giveTo_ok hg] at h; exact ih s1 i e h
    | error e2 =>
      rw [giveTo_err hg] at h
      injection h with h
      injection h with h1 h2
      subst h2
      unfold giveSt at hg
      split at hg
      · injection hg with hg; omega
      split at hg
      · cases hg
      split at hg
      · cases hg
      split at hg
      · injection hg with hg; omega
      cases hg
theorem bk_errs {l : List PI} {p q r s : Bool} {is fs cs : List Rat} {outs : List Int} {i : Nat} {e : Int} (h : bkAll l p q r s is fs outs cs = .error (i, e)) : e ≠ 0 := by
  unfold bkAll at h
  split at h
  · split at h
    · rename_i e2 he
      injection h with h
      subst h
      have := (exAll_errs he).2
      omega
    · rename_i v hv
      unfold bkRun at h
      split at h
      · split at h
        · cases h
        · rename_i e2 he
          injection h with h
          subst h
          have := give_errs _ _ _ _ he
          omega
      · injection h with h
        injection h with h1 h2
        omega
  · injection h with h
    injection h with h1 h2
    omega
theorem tg_errs {l : List PI} {p q r s : Bool} {is ds fs : List Rat} {i : Nat} {e : Int} (h : tgAll l p q r s is ds fs = .error (i, e)) : e ≠ 0 := by
  unfold tgAll at h
  split at h
  · split at h
    · rename_i e2 he
      injection h with h
      subst h
      have := (exAll_errs he).2
      omega
    · rename_i v hv
      unfold tgRun at h
      split at h
      · cases h
      · rename_i e2 he
        injection h with h
        subst h
        have := (tans_errs he).2
        omega
  · injection h with h
    injection h with h1 h2
    omega

/-- the law's tests come to this: all are few -/
def FewC (b : Bool) (mo kc : Nat) (cs : List RQ) : Bool := b && decide (mo ≤ 30) && decide (kc ≤ 30) && !anyR 3 cs

set_option maxRecDepth 100000 in
set_option maxHeartbeats 4000000 in
theorem tangentAdjoint_walk {w : World} {A B D C O E : Option Addr} {n c m d kd e k f mo o_ kc cc : Nat} {xs : List RI} {is ds fs cs : List RQ} {outs : List Int} (h : SlP w A n c xs) (hi : SlR w B m d is) (hd : SlR w D kd e ds) (hf : SlR w C k f fs) (ho : SlZ w O mo o_ outs) (hc : SlR w E kc cc cs) :
    Calls Tryz.prog 5 #[.agg #[.slice A n c, .slice B m d, .slice D kd e, .slice C k f], .slice O mo o_, .slice E kc cc] w (RetBl true w) := by
  obtain ⟨V, hV, Bx, hb0⟩ := box0 25 w #[.slice A n c, .slice B m d, .slice D kd e, .slice C k f]
  obtain ⟨b, hb, FW⟩ := law_few17 (h.below hb0) (hi.below hb0) (hd.below hb0) (hf.below hb0)
  have HFW := Lib.hid FW
  have HV := Lib.hid hV
  have HB := Lib.hid Bx
  have hlt : w.heap.size < V.heap.size := Bx.lt
  have HLT := Lib.hid hlt
  obtain ⟨k0, k1, k2, k3⟩ := HB.out.four
  have L1 := fun (w1 : World) (hb : Below w.heap.size w w1) => plain_longer (hc.below hb) 3
  have HL := Lib.hid L1
  clear FW hV Bx L1 hlt
  cases b
  case false =>
    clear hb
    go_enter Tryz.func5, Tryz.ntmps5
    go_wp2_with fail
    rw [HV.out]
    with_reducible refine HFW.out.mono ?_
    rintro _ w1 ⟨rfl, b1⟩
    go_wp2_with fail
    with_reducible refine (same17 _).mono ?_
    rintro _ w2 ⟨rfl, b2⟩
    go_wp2_with fail
    go_ret
    exact ⟨rfl, bb hb0 (bb b1 b2)⟩
  case true =>
  by_cases g1 : mo ≤ 30
  case neg =>
    have g2 : (30 : Int) < (mo : Int) := by omega
    clear hb
    go_enter Tryz.func5, Tryz.ntmps5
    go_wp2_with fail
    rw [HV.out]
    with_reducible refine HFW.out.mono ?_
    rintro _ w1 ⟨rfl, b1⟩
    go_wp2_with fail
    with_reducible refine (same17 _).mono ?_
    rintro _ w2 ⟨rfl, b2⟩
    go_wp2_with fail
    go_ret
    exact ⟨rfl, bb hb0 (bb b1 b2)⟩
  case pos =>
  have g1i : ¬ (30 : Int) < (mo : Int) := by omega
  by_cases g2 : kc ≤ 30
  case neg =>
    have g3 : (30 : Int) < (kc : Int) := by omega
    clear hb
    go_enter Tryz.func5, Tryz.ntmps5
    go_wp2_with fail
    rw [HV.out]
    with_reducible refine HFW.out.mono ?_
    rintro _ w1 ⟨rfl, b1⟩
    go_wp2_with fail
    with_reducible refine (same17 _).mono ?_
    rintro _ w2 ⟨rfl, b2⟩
    go_wp2_with fail
    go_ret
    exact ⟨rfl, bb hb0 (bb b1 b2)⟩
  case pos =>
  have g2i : ¬ (30 : Int) < (kc : Int) := by omega
  have hcs0 : anyR 3 cs = false → ∀ x ∈ cs, x.n ≤ 3 ∧ x.n' ≤ 3 := fun h9 => anyR_short (k := 3) h9
  generalize hq9 : anyR 3 cs = q9 at *
  cases q9
  case true =>
    clear hb hcs0
    go_enter Tryz.func5, Tryz.ntmps5
    go_wp2_with fail
    rw [HV.out]
    with_reducible refine HFW.out.mono ?_
    rintro _ w1 ⟨rfl, b1⟩
    go_wp2_with fail
    with_reducible refine (HL.out _ (bb hb0 b1)).mono ?_
    rintro _ w2 ⟨rfl, b2⟩
    go_wp2_with fail
    with_reducible refine (same17 _).mono ?_
    rintro _ w3 ⟨rfl, b3⟩
    go_wp2_with fail
    go_ret
    exact ⟨rfl, bb hb0 (bb b1 (bb b2 b3))⟩
  case false =>
  have hcs := hcs0 rfl
  obtain ⟨m1, m2, m3, m4, hs, hsi, hsd, hsf⟩ := few_short (hb.1 rfl)
  clear hcs0 hb
  have hs' : Shrt 64 xs := fun x hx => ⟨Nat.le_trans (hs x hx).1 (by omega), Nat.le_trans (hs x hx).2 (by omega)⟩
  have hsi' : ∀ x ∈ is, x.n ≤ 64 ∧ x.n' ≤ 64 := fun x hx => by have := hsi x hx; omega
  have hsd' : ∀ x ∈ ds, x.n ≤ 64 ∧ x.n' ≤ 64 := fun x hx => by have := hsd x hx; omega
  have hsf' : ∀ x ∈ fs, x.n ≤ 64 ∧ x.n' ≤ 64 := fun x hx => by have := hsf x hx; omega
  have hsc' : ∀ x ∈ cs, x.n ≤ 8 ∧ x.n' ≤ 8 := fun x hx => by have := hcs x hx; omega
  have E1 := fun (w1 : World) (hb9 : Below w.heap.size w w1) => tg_of (h.below hb9) hs' (hi.below hb9) hsi' (hd.below hb9) hsd' (hf.below hb9) hsf' (by omega) (by omega) (by omega) (by omega)
  have E2 := fun (w1 : World) (hb9 : Below w.heap.size w w1) => tg_back (h.below hb9) hs' (hi.below hb9) hsi' (hf.below hb9) hsf' (ho.below hb9) (hc.below hb9) hsc' (by omega) (by omega) (by omega) (by omega) (by omega)
  have hlen : (xs.map RI.pi).length = n := by rw [List.length_map]; exact h.1.1
  have hol : outs.length = mo := ho.1.1
  have hil : (qvs is).length = m := by unfold qvs; rw [List.length_map]; exact hi.1.1
  have hmath := fun v t b (h1 : tgAll (xs.map RI.pi) (allR is) (allR fs) (allR ds) (decide (m = kd)) (qvs is) (qvs ds) (qvs fs) = .ok (v, t)) (h2 : bkAll (xs.map RI.pi) (allR is) (allR fs) (allR cs) (decide (mo = kc)) (qvs is) (qvs fs) outs (qvs cs) = .ok b) => And.intro (slq_of hd hsd (tg_oks h1).2.2.1).1 (And.intro (slq_of hc hcs (bk_oks h2).2.2.1).1 (And.intro (of_decide_eq_true (tg_oks h1).2.2.2.1) (And.intro (of_decide_eq_true (bk_oks h2).2.2.2.1) (And.intro (adj_math h1 h2 (by omega) (by omega) (by omega) (slq_of hd hsd (tg_oks h1).2.2.1).2 (slq_of hc hcs (bk_oks h2).2.2.1).2) (And.intro (slq_of hd hsd (tg_oks h1).2.2.1).2 (slq_of hc hcs (bk_oks h2).2.2.1).2)))))
  have he1 := fun i e => @tg_errs (xs.map RI.pi) (allR is) (allR fs) (allR ds) (decide (m = kd)) (qvs is) (qvs ds) (qvs fs) i e
  have he2 := fun i e => @bk_errs (xs.map RI.pi) (allR is) (allR fs) (allR cs) (decide (mo = kc)) (qvs is) (qvs fs) (qvs cs) outs i e
  obtain ⟨R, hR⟩ : ∃ R, tgAll (xs.map RI.pi) (allR is) (allR fs) (allR ds) (decide (m = kd)) (qvs is) (qvs ds) (qvs fs) = R := ⟨_, rfl⟩
  obtain ⟨S, hS⟩ : ∃ S, bkAll (xs.map RI.pi) (allR is) (allR fs) (allR cs) (decide (mo = kc)) (qvs is) (qvs fs) outs (qvs cs) = S := ⟨_, rfl⟩
  simp only [hR, hS, hlen, hol, hil] at E1 E2 hmath he1 he2
  generalize hDs : qvs ds = Ds at *
  generalize hCs : qvs cs = Cs at *
  have HE1 := Lib.hid E1
  have HE2 := Lib.hid E2
  have HO := Lib.hid ho
  clear E1 E2 hR hS h hi hd hf hc ho hs hsi hsd hsf hs' hsi' hsd' hsf' hsc' hlen hol hil hcs m1 m3 m4 hq9 hDs hCs
  cases R with
  | error er =>
    obtain ⟨i, er⟩ := er
    have hne := he1 i er rfl
    clear hmath he1 he2
    cases S with
    | error es =>
      obtain ⟨i2, es⟩ := es
      go_enter Tryz.func5, Tryz.ntmps5
      go_wp2_with fail
      rw [HV.out]
      with_reducible refine HFW.out.mono ?_
      rintro _ w1 ⟨rfl, b1⟩
      go_wp2_with fail
      with_reducible refine (HL.out _ (bb hb0 b1)).mono ?_
      rintro _ w2 ⟨rfl, b2⟩
      obtain ⟨k0, k1, k2, k3⟩ := (HB.out.below' (bb b1 b2)).four
      go_wp2_with fail
      with_reducible refine (HE1.out _ (bb hb0 (bb b1 b2))).mono ?_
      rintro _ w3 ⟨rfl, b3⟩
      obtain ⟨k0, k1, k2, k3⟩ := (HB.out.below' (bb b1 (bb b2 b3))).four
      go_wp2_with fail
      with_reducible refine (HE2.out _ (bb hb0 (bb b1 (bb b2 b3)))).mono ?_
      rintro _ w4 ⟨rfl, b4⟩
      go_wp2_with fail
      with_reducible refine (same17 _).mono ?_
      rintro _ w5 ⟨rfl, b5⟩
      go_wp2_with fail
      go_ret
      exact ⟨rfl, bb hb0 (bb b1 (bb b2 (bb b3 (bb b4 b5))))⟩
    | ok bs =>
      go_enter Tryz.func5, Tryz.ntmps5
      go_wp2_with fail
      rw [HV.out]
      with_reducible refine HFW.out.mono ?_
      rintro _ w1 ⟨rfl, b1⟩
      go_wp2_with fail
      with_reducible refine (HL.out _ (bb hb0 b1)).mono ?_
      rintro _ w2 ⟨rfl, b2⟩
      obtain ⟨k0, k1, k2, k3⟩ := (HB.out.below' (bb b1 b2)).four
      go_wp2_with fail
      with_reducible refine (HE1.out _ (bb hb0 (bb b1 b2))).mono ?_
      rintro _ w3 ⟨rfl, b3⟩
      obtain ⟨k0, k1, k2, k3⟩ := (HB.out.below' (bb b1 (bb b2 b3))).four
      go_wp2_with fail
      with_reducible refine (HE2.out _ (bb hb0 (bb b1 (bb b2 b3)))).mono ?_
      rintro _ w4 ⟨⟨A4, n4, c4, rfl, q4⟩, b4⟩
      go_wp2_with fail
      with_reducible refine (same17 _).mono ?_
      rintro _ w5 ⟨rfl, b5⟩
      go_wp2_with fail
      go_ret
      exact ⟨rfl, bb hb0 (bb b1 (bb b2 (bb b3 (bb b4 b5))))⟩
  | ok vt =>
  obtain ⟨v, t⟩ := vt
  cases S with
  | error es =>
    obtain ⟨i2, es⟩ := es
    have hne := he2 i2 es rfl
    clear hmath he1 he2
    go_enter Tryz.func5, Tryz.ntmps5
    go_wp2_with fail
    rw [HV.out]
    with_reducible refine HFW.out.mono ?_
    rintro _ w1 ⟨rfl, b1⟩
    go_wp2_with fail
    with_reducible refine (HL.out _ (bb hb0 b1)).mono ?_
    rintro _ w2 ⟨rfl, b2⟩
    obtain ⟨k0, k1, k2, k3⟩ := (HB.out.below' (bb b1 b2)).four
    go_wp2_with fail
    with_reducible refine (HE1.out _ (bb hb0 (bb b1 b2))).mono ?_
    rintro _ w3 ⟨⟨A2, n2, c2, B2, r2, d2, rfl, q2, u2⟩, b3⟩
    obtain ⟨k0, k1, k2, k3⟩ := (HB.out.below' (bb b1 (bb b2 b3))).four
    go_wp2_with fail
    with_reducible refine (HE2.out _ (bb hb0 (bb b1 (bb b2 b3)))).mono ?_
    rintro _ w4 ⟨rfl, b4⟩
    go_wp2_with fail
    with_reducible refine (same17 _).mono ?_
    rintro _ w5 ⟨rfl, b5⟩
    go_wp2_with fail
    go_ret
    exact ⟨rfl, bb hb0 (bb b1 (bb b2 (bb b3 (bb b4 b5))))⟩
  | ok bs =>
  obtain ⟨hqd, hqc, hmk, hok, ⟨e1, e2, e3, e4, e5, e6, e7, e8⟩, zd, zc⟩ := hmath v t bs rfl rfl
  subst hmk hok
  clear hmath he1 he2
  have HQD := Lib.hid hqd
  have HQC := Lib.hid hqc
  have H1 := Lib.hid e1
  have H2 := Lib.hid e2
  have H3 := Lib.hid e3
  have H4 := Lib.hid e4
  have H5 := Lib.hid e5
  have H6 := Lib.hid e6
  have H7 := Lib.hid e7
  have H8 := Lib.hid e8
  have HZD := Lib.hid zd
  have HZC := Lib.hid zc
  clear hqd hqc e1 e2 e3 e4 e5 e6 e7 e8 zd zc
  go_enter Tryz.func5, Tryz.ntmps5
  go_wp2_with fail
  rw [HV.out]
  with_reducible refine HFW.out.mono ?_
  rintro _ w1 ⟨rfl, b1⟩
  go_wp2_with fail
  with_reducible refine (HL.out _ (bb hb0 b1)).mono ?_
  rintro _ w2 ⟨rfl, b2⟩
  obtain ⟨k0, k1, k2, k3⟩ := (HB.out.below' (bb b1 b2)).four
  go_wp2_with fail
  with_reducible refine (HE1.out _ (bb hb0 (bb b1 b2))).mono ?_
  rintro _ w3 ⟨⟨A2, n2, c2, B2, r2, d2, rfl, q2, u2⟩, b3⟩
  obtain rfl : n = r2 := by rw [u2.len]; exact H1.out.symm
  obtain ⟨k0, k1, k2, k3⟩ := (HB.out.below' (bb b1 (bb b2 b3))).four
  have HU2 := Lib.hid u2
  clear q2 u2
  go_wp2_with fail
  with_reducible refine (HE2.out _ (bb hb0 (bb b1 (bb b2 b3)))).mono ?_
  rintro _ w4 ⟨⟨A4, n4, c4, rfl, q4⟩, b4⟩
  have x4 : Below V.heap.size V w4 := bb b1 (bb b2 (bb b3 b4))
  have hn4 : n4 = bs.length := q4.len
  have hn4b : n4 ≤ m := by rw [hn4]; exact H2.out
  have hn4c : ¬ (m : Int) < (n4 : Int) := by omega
  have HN4 := Lib.hid hn4
  have HQ4 := Lib.hid q4
  have HU4 := Lib.hid (HU2.out.below b4)
  have HO4 := Lib.hid (HO.out.below (bb hb0 x4))
  have HC4 := Lib.hid (HQC.out.below (bb hb0 x4))
  have HD4 := Lib.hid (HQD.out.below (bb hb0 x4))
  have HB4 := Lib.hid (HB.out.below' x4)
  clear HQD HQC HU2 HO q4 hn4 HE1 HE2 HFW HL
  obtain ⟨k0, k1, k2, k3⟩ := HB4.out.four
  go_wp2_with fail
  have R0 := fun (w1 : World) => Lib.hid (ref_of 0 (by omega) (by omega) w1)
  with_reducible refine (R0 _).out.mono ?_
  rintro _ w5 ⟨s5, A5, n5, c5, D5, m5, d5, rfl, q5, b5⟩
  have Q5 := Lib.hid q5
  clear q5
  go_wp2_with fail
  with_reducible refine (R0 _).out.mono ?_
  rintro _ w6 ⟨s6, A6, n6, c6, D6, m6, d6, rfl, q6, b6⟩
  have Q6 := Lib.hid q6
  clear q6
  obtain ⟨W7, hW7, X7, Y7, b7⟩ := boxes1 45 w6 #[.bool s5, .slice A5 n5 c5, .slice D5 m5 d5] #[.bool s6, .slice A6 n6 c6, .slice D6 m6 d6]
  have HW7 := Lib.hid hW7
  have HT : Two w4.heap.size w4 w6.heap.size (w6.heap.size + 1) ⟨s5, A5, n5, c5, D5, m5, d5⟩ (sumX t outs Cs 0) ⟨s6, A6, n6, c6, D6, m6, d6⟩ (sumY bs Ds 0) W7 :=
    ⟨X7, (Q5.out.below b6).below b7, Y7, Q6.out.below b7, bb b5 (bb b6 b7)⟩
  have hlt6 : w4.heap.size ≤ w6.heap.size := (bb b5 b6).size
  have HLT6 := Lib.hid hlt6
  have HT7 := Lib.hid HT
  have X47 := Lib.hid (bb b5 (bb b6 b7))
  clear hW7 X7 Y7 HT Q5 Q6 R0 hlt6 k0 k1 k2 k3
  go_upto_region 10 with (fail)
  rw [HW7.out]
  clear HW7
  go_wp2_with fail
  go_loopw [95] (fun iv wr => ∃ (j : Nat) (x : NV), j ≤ mo ∧ iv = .int .i64 j ∧ Hid (Two w4.heap.size w4 w6.heap.size (w6.heap.size + 1) x (sumX t outs Cs j) ⟨s6, A6, n6, c6, D6, m6, d6⟩ (sumY bs Ds 0) wr)) (fun iv _ => mo - mes iv)
  case atStart => exact ⟨0, _, by omega, rfl, HT7⟩
  case round =>
  clear HT7
  obtain ⟨j, x, hj, rfl, HX⟩ := hrel
  obtain ⟨s_x, A_x, n_x, c_x, D_x, m_x, d_x⟩ := x
  have hbr : Below w4.heap.size w4 wr := HX.out.2.2.2.2
  by_cases hj2 : j < mo
  · obtain ⟨b_o, o_o2, o, rfl, l_o, hox, _, k_o⟩ := HO4.out.at_ hj2
    have hoj : outs.getD j 0 = o := by rw [List.getD_eq_getElem?_getD, hox]; rfl
    obtain ⟨ho0, ho1⟩ := H4.out j hj2
    rw [hoj] at ho0 ho1
    obtain ⟨oi, rfl⟩ : ∃ oi : Nat, o = (oi : Int) := ⟨o.toNat, by omega⟩
    have hoi1 : oi < n := by omega
    have hoi2 : decide ((n : Int) ≤ (oi : Int)) = false := decide_eq_false (by omega)
    obtain ⟨b_t, o_t, s_t, A_t, n_t, c_t, D_t, m_t, d_t, rfl, l_t, k0_t, k1_t, k2_t, q_t⟩ := HU4.out.at_ hoi1
    obtain ⟨b_c, o_c, s_c, A_c, n_c, c_c, D_c, m_c, d_c, rfl, l_c, k0_c, k1_c, k2_c, q_c⟩ := HC4.out.at_ hj2
    have hbs := hbr.size
    have hl6 := HLT6.out
    have L_o : b_o < wr.heap.size := Nat.lt_of_lt_of_le l_o hbs
    replace k_o := (hbr.cell (p := ⟨b_o, o_o2 + j, none⟩) l_o).trans k_o
    have L_t : b_t < wr.heap.size := Nat.lt_of_lt_of_le l_t hbs
    replace k0_t := (hbr.cell (p := ⟨b_t, o_t + oi * 3, none⟩) l_t).trans k0_t
    replace k1_t := (hbr.cell (p := ⟨b_t, o_t + oi * 3 + 1, none⟩) l_t).trans k1_t
    replace k2_t := (hbr.cell (p := ⟨b_t, o_t + oi * 3 + 2, none⟩) l_t).trans k2_t
    have L_c : b_c < wr.heap.size := Nat.lt_of_lt_of_le l_c hbs
    replace k0_c := (hbr.cell (p := ⟨b_c, o_c + j * 3, none⟩) l_c).trans k0_c
    replace k1_c := (hbr.cell (p := ⟨b_c, o_c + j * 3 + 1, none⟩) l_c).trans k1_c
    replace k2_c := (hbr.cell (p := ⟨b_c, o_c + j * 3 + 2, none⟩) l_c).trans k2_c
    have hsx : sumX t outs Cs (j + 1) = sumX t outs Cs j + t.getD oi 0 * Cs.getD j 0 := by rw [sumX_succ, hoj]; rfl
    have zx := H6.out j (by omega)
    have zt := getD_sz H3.out (by omega) oi
    have zc := (getD_sz HZC.out (by omega) j).mono (show 3 ≤ 64 by omega)
    obtain ⟨X1, X2, X3, X4, X5⟩ := HX.out
    have ML := rat_mul ((q_t.below hbr).below (Below.refl _ wr).drew) ((q_c.below hbr).below (Below.refl _ wr).drew) zt zc (by omega)
    have AD := fun (w1 : World) (hb9 : Below wr.heap.size wr w1) (s8 : Bool) (A8 : Option Addr) (n8 c8 : Nat) (D8 : Option Addr) (m8 d8 : Nat) (q8 : Q w1 s8 A8 n8 c8 D8 m8 d8 (t.getD oi 0 * Cs.getD j 0)) => rat_add (X2.below hb9) q8 zx ((zt.mul zc).mono (by omega)) (by omega)
    have hS : ∀ w', Below wr.heap.size wr w' → w'.cell? ⟨b_o, o_o2 + j, none⟩ = some (.int .i64 (oi : Int)) ∧ w'.cell? ⟨b_t, o_t + oi * 3, none⟩ = some (.bool s_t) ∧ w'.cell? ⟨b_t, o_t + oi * 3 + 1, none⟩ = some (.slice A_t n_t c_t) ∧ w'.cell? ⟨b_t, o_t + oi * 3 + 2, none⟩ = some (.slice D_t m_t d_t) ∧ w'.cell? ⟨b_c, o_c + j * 3, none⟩ = some (.bool s_c) ∧ w'.cell? ⟨b_c, o_c + j * 3 + 1, none⟩ = some (.slice A_c n_c c_c) ∧ w'.cell? ⟨b_c, o_c + j * 3 + 2, none⟩ = some (.slice D_c m_c d_c) := fun w' hb9 => ⟨(hb9.cell (p := ⟨b_o, o_o2 + j, none⟩) L_o).trans k_o, (hb9.cell (p := ⟨b_t, o_t + oi * 3, none⟩) L_t).trans k0_t, (hb9.cell (p := ⟨b_t, o_t + oi * 3 + 1, none⟩) L_t).trans k1_t, (hb9.cell (p := ⟨b_t, o_t + oi * 3 + 2, none⟩) L_t).trans k2_t, (hb9.cell (p := ⟨b_c, o_c + j * 3, none⟩) L_c).trans k0_c, (hb9.cell (p := ⟨b_c, o_c + j * 3 + 1, none⟩) L_c).trans k1_c, (hb9.cell (p := ⟨b_c, o_c + j * 3 + 2, none⟩) L_c).trans k2_c⟩
    have hP : ∀ (w' : World) (z0 z1 z2 : Value), wr.heap.size ≤ w'.heap.size → (w'.cell? ⟨b_o, o_o2 + j, none⟩ = some (.int .i64 (oi : Int)) ∧ w'.cell? ⟨b_t, o_t + oi * 3, none⟩ = some (.bool s_t) ∧ w'.cell? ⟨b_t, o_t + oi * 3 + 1, none⟩ = some (.slice A_t n_t c_t) ∧ w'.cell? ⟨b_t, o_t + oi * 3 + 2, none⟩ = some (.slice D_t m_t d_t) ∧ w'.cell? ⟨b_c, o_c + j * 3, none⟩ = some (.bool s_c) ∧ w'.cell? ⟨b_c, o_c + j * 3 + 1, none⟩ = some (.slice A_c n_c c_c) ∧ w'.cell? ⟨b_c, o_c + j * 3 + 2, none⟩ = some (.slice D_c m_c d_c)) → (fun w' : World => w'.cell? ⟨b_o, o_o2 + j, none⟩ = some (.int .i64 (oi : Int)) ∧ w'.cell? ⟨b_t, o_t + oi * 3, none⟩ = some (.bool s_t) ∧ w'.cell? ⟨b_t, o_t + oi * 3 + 1, none⟩ = some (.slice A_t n_t c_t) ∧ w'.cell? ⟨b_t, o_t + oi * 3 + 2, none⟩ = some (.slice D_t m_t d_t) ∧ w'.cell? ⟨b_c, o_c + j * 3, none⟩ = some (.bool s_c) ∧ w'.cell? ⟨b_c, o_c + j * 3 + 1, none⟩ = some (.slice A_c n_c c_c) ∧ w'.cell? ⟨b_c, o_c + j * 3 + 2, none⟩ = some (.slice D_c m_c d_c)) (put3 w' (w6.heap.size) z0 z1 z2) := fun w' z0 z1 z2 hz9 ⟨p0, p1, p2, p3, p4, p5, p6⟩ => ⟨(cell_put3 (by omega) (by omega)).trans p0, (cell_put3 (by omega) (by omega)).trans p1, (cell_put3 (by omega) (by omega)).trans p2, (cell_put3 (by omega) (by omega)).trans p3, (cell_put3 (by omega) (by omega)).trans p4, (cell_put3 (by omega) (by omega)).trans p5, (cell_put3 (by omega) (by omega)).trans p6⟩
    generalize hTC : t.getD oi 0 * Cs.getD j 0 = TC at *
    simp only [← hsx] at AD
    have HML := Lib.hid ML
    have HAD := Lib.hid AD
    have HS := Lib.hid hS
    have HP := Lib.hid hP
    have HBx := Lib.hid X1
    obtain ⟨⟨x0, x1, x2⟩, _⟩ := HBx.out.three
    have ho01 : (0 : Int) ≤ (oi : Int) := by omega
    have ho02 : (oi : Int) < (n : Int) := by omega
    have hj3 : (j : Int) < (mo : Int) := by omega
    clear ML AD hS hP X1 X2 X3 X4 X5 q_t q_c zx zt zc hox hoj hsx hTC
    go_wp2_with fail
    refine wp_region_held_drew (S := fun w' => w'.cell? ⟨b_o, o_o2 + j, none⟩ = some (.int .i64 (oi : Int)) ∧ w'.cell? ⟨b_t, o_t + oi * 3, none⟩ = some (.bool s_t) ∧ w'.cell? ⟨b_t, o_t + oi * 3 + 1, none⟩ = some (.slice A_t n_t c_t) ∧ w'.cell? ⟨b_t, o_t + oi * 3 + 2, none⟩ = some (.slice D_t m_t d_t) ∧ w'.cell? ⟨b_c, o_c + j * 3, none⟩ = some (.bool s_c) ∧ w'.cell? ⟨b_c, o_c + j * 3 + 1, none⟩ = some (.slice A_c n_c c_c) ∧ w'.cell? ⟨b_c, o_c + j * 3 + 2, none⟩ = some (.slice D_c m_c d_c)) (by kernel_rfl) (HS.out _ (Below.refl _ wr).drew) (fun hHeld => ?_)
    refine wpAnyH_take (i := 1) (v := ?_) rfl (by kernel_rfl) (by kernel_rfl) (by kernel_rfl) (fun _ _ _ h => h) (Or.inl ⟨by kernel_rfl, ?_⟩) (by assumption) ?_
    rotate_left
    · intro w hSw
      (try dsimp only at hSw)
      go_simp
      (try with_reducible rfl)
    try simp only [Act.put, List.setIfInBounds_toArray, List.set_cons_zero, List.set_cons_succ, List.getElem_toArray, List.getElem_cons_zero, List.getElem_cons_succ]
    refine wpAnyH_take (i := 2) (v := ?_) rfl (by kernel_rfl) (by kernel_rfl) (by kernel_rfl) (fun _ _ _ h => h) (Or.inl ⟨by kernel_rfl, ?_⟩) (by assumption) ?_
    rotate_left
    · intro w hSw
      (try dsimp only at hSw)
      go_simp
      (try with_reducible rfl)
    try simp only [Act.put, List.setIfInBounds_toArray, List.set_cons_zero, List.set_cons_succ, List.getElem_toArray, List.getElem_cons_zero, List.getElem_cons_succ]
    refine wpAnyH_take (i := 3) (v := ?_) rfl (by kernel_rfl) (by kernel_rfl) (by kernel_rfl) (fun _ _ _ h => h) (Or.inl ⟨by kernel_rfl, ?_⟩) (by assumption) ?_
    rotate_left
    · intro w hSw
      (try dsimp only at hSw)
      go_simp
      (try with_reducible rfl)
    try simp only [Act.put, List.setIfInBounds_toArray, List.set_cons_zero, List.set_cons_succ, List.getElem_toArray, List.getElem_cons_zero, List.getElem_cons_succ]
    refine wpAnyH_take (i := 4) (v := ?_) rfl (by kernel_rfl) (by kernel_rfl) (by kernel_rfl) (fun _ _ _ h => h) (Or.inl ⟨by kernel_rfl, ?_⟩) (by assumption) ?_
    rotate_left
    · intro w hSw
      (try dsimp only at hSw)
      go_simp
      (try with_reducible rfl)
    try simp only [Act.put, List.setIfInBounds_toArray, List.set_cons_zero, List.set_cons_succ, List.getElem_toArray, List.getElem_cons_zero, List.getElem_cons_succ]
    refine wpAnyH_take (i := 5) (v := ?_) rfl (by kernel_rfl) (by kernel_rfl) (by kernel_rfl) (fun _ _ _ h => h) (Or.inl ⟨by kernel_rfl, ?_⟩) (by assumption) ?_
    rotate_left
    · intro w hSw
      (try dsimp only at hSw)
      go_simp
      (try with_reducible rfl)
    try simp only [Act.put, List.setIfInBounds_toArray, List.set_cons_zero, List.set_cons_succ, List.getElem_toArray, List.getElem_cons_zero, List.getElem_cons_succ]
    refine wpAnyH_take (i := 6) (v := ?_) rfl (by kernel_rfl) (by kernel_rfl) (by kernel_rfl) (fun _ _ _ h => h) (Or.inl ⟨by kernel_rfl, ?_⟩) (by assumption) ?_
    rotate_left
    · intro w hSw
      (try dsimp only at hSw)
      go_simp
      (try with_reducible rfl)
    try simp only [Act.put, List.setIfInBounds_toArray, List.set_cons_zero, List.set_cons_succ, List.getElem_toArray, List.getElem_cons_zero, List.getElem_cons_succ]
    refine wpAnyH_take (i := 7) (v := ?_) rfl (by kernel_rfl) (by kernel_rfl) (by kernel_rfl) (fun _ _ _ h => h) (Or.inl ⟨by kernel_rfl, ?_⟩) (by assumption) ?_
    rotate_left
    · intro w hSw
      (try dsimp only at hSw)
      go_simp
      (try with_reducible rfl)
    try simp only [Act.put, List.setIfInBounds_toArray, List.set_cons_zero, List.set_cons_succ, List.getElem_toArray, List.getElem_cons_zero, List.getElem_cons_succ]
    refine wpAnyH_take (i := 8) (v := ?_) rfl (by kernel_rfl) (by kernel_rfl) (by kernel_rfl) (fun _ _ _ h => h) (Or.inl ⟨by kernel_rfl, ?_⟩) (by assumption) ?_
    rotate_left
    · intro w hSw
      (try dsimp only at hSw)
      go_simp
      (try with_reducible rfl)
    try simp only [Act.put, List.setIfInBounds_toArray, List.set_cons_zero, List.set_cons_succ, List.getElem_toArray, List.getElem_cons_zero, List.getElem_cons_succ]
    refine wpAnyH_take (i := 9) (v := ?_) rfl (by kernel_rfl) (by kernel_rfl) (by kernel_rfl) (fun _ _ _ h => h) (Or.inl ⟨by kernel_rfl, ?_⟩) (by assumption) ?_
    rotate_left
    · intro w hSw
      (try dsimp only at hSw)
      go_simp
      (try with_reducible rfl)
    try simp only [Act.put, List.setIfInBounds_toArray, List.set_cons_zero, List.set_cons_succ, List.getElem_toArray, List.getElem_cons_zero, List.getElem_cons_succ]
    refine wpAnyH_take (i := 10) (v := ?_) rfl (by kernel_rfl) (by kernel_rfl) (by kernel_rfl) (fun _ _ _ h => h) (Or.inl ⟨by kernel_rfl, ?_⟩) (by assumption) ?_
    rotate_left
    · intro w hSw
      (try dsimp only at hSw)
      go_simp
      (try with_reducible rfl)
    try simp only [Act.put, List.setIfInBounds_toArray, List.set_cons_zero, List.set_cons_succ, List.getElem_toArray, List.getElem_cons_zero, List.getElem_cons_succ]
    refine wpAnyH_take (i := 11) (v := ?_) rfl (by kernel_rfl) (by kernel_rfl) (by kernel_rfl) (fun _ _ _ h => h) (Or.inl ⟨by kernel_rfl, ?_⟩) (by assumption) ?_
    rotate_left
    · intro w hSw
      (try dsimp only at hSw)
      go_simp
      (try with_reducible rfl)
    try simp only [Act.put, List.setIfInBounds_toArray, List.set_cons_zero, List.set_cons_succ, List.getElem_toArray, List.getElem_cons_zero, List.getElem_cons_succ]
    refine wpAnyH_ready (rs := [0, 12]) (by kernel_rfl) (by simp) ?_
    refine AllReadyH.cons rfl (fun K hK => ?_) (AllReadyH.cons rfl (fun K hK => ?_) AllReadyH.nil)
    · skip
      go_simp
      (try go_wp2_with fail)
      refine hK.out _ _ (HS.out _ (Below.refl _ wr).drew) (fun hHeld => ?_)
      clear hK K
      try simp only [Act.put, List.setIfInBounds_toArray, List.set_cons_zero, List.set_cons_succ, List.getElem_toArray, List.getElem_cons_zero, List.getElem_cons_succ]
      refine wpAnyH_ready (rs := [12]) (by kernel_rfl) (by simp) ?_
      refine AllReadyH.cons rfl (fun K hK => ?_) AllReadyH.nil
      go_simp
      with_reducible refine HML.out.mono ?_
      rintro _ w8 ⟨s8, A8, n8, c8, D8, m8, d8, rfl, q8, b8⟩
      have x1 : Below wr.heap.size wr w8 := Below.undrew b8
      obtain ⟨⟨z0, z1, z2⟩, _⟩ := (HBx.out.below' x1).three
      (try go_wp2_with fail)
      refine hK.out _ _ (HS.out _ x1) (fun hHeld => ?_)
      clear hK K
      try simp only [Act.put, List.setIfInBounds_toArray, List.set_cons_zero, List.set_cons_succ, List.getElem_toArray, List.getElem_cons_zero, List.getElem_cons_succ]
      refine wpAnyH_ready (rs := [13]) (by kernel_rfl) (by simp) ?_
      refine AllReadyH.cons rfl (fun K hK => ?_) AllReadyH.nil
      go_simp
      with_reducible refine (HAD.out _ x1 _ _ _ _ _ _ _ q8).mono ?_
      rintro _ w9 ⟨s9, A9, n9, c9, D9, m9, d9, rfl, q9, b9⟩
      have x2 : Below wr.heap.size wr w9 := bb x1 b9
      obtain ⟨_, f0, f1, f2⟩ := (HBx.out.below' x2).three
      (try go_wp2_with fail)
      refine hK.out _ _ (HS.out _ x2) (fun hHeld => ?_)
      clear hK K
      try simp only [Act.put, List.setIfInBounds_toArray, List.set_cons_zero, List.set_cons_succ, List.getElem_toArray, List.getElem_cons_zero, List.getElem_cons_succ]
      refine wpAnyH_ready (rs := [14]) (by kernel_rfl) (by simp) ?_
      refine AllReadyH.cons rfl (fun K hK => ?_) AllReadyH.nil
      go_simp
      (try go_wp2_with fail)
      refine hK.out _ _ (HP.out _ _ _ _ x2.size (HS.out _ x2)) (fun hHeld => ?_)
      clear hK K
      try simp only [Act.put, List.setIfInBounds_toArray, List.set_cons_zero, List.set_cons_succ, List.getElem_toArray, List.getElem_cons_zero, List.getElem_cons_succ]
      refine wpAnyH_done (by kernel_rfl) ?_ _
      have HN := Lib.hid (HX.out.setx (z := ⟨s9, A9, n9, c9, D9, m9, d9⟩) x2 (Nat.le_refl _) q9 HLT6.out (by omega))
      obtain ⟨W9, hW9⟩ : ∃ W, put3 w9 w6.heap.size (.bool s9) (.slice A9 n9 c9) (.slice D9 m9 d9) = W := ⟨_, rfl⟩
      simp only [hW9] at HN
      unfold put3 at hW9
      go_wp2_with fail
      (try rw [hW9])
      go_roundw
      case rel => exact ⟨j + 1, _, by omega, by go_num, HN⟩
      case measure => simp [mes, intOf]; omega
    · skip
      go_simp
      with_reducible refine HML.out.mono ?_
      rintro _ w8 ⟨s8, A8, n8, c8, D8, m8, d8, rfl, q8, b8⟩
      have x1 : Below wr.heap.size wr w8 := Below.undrew b8
      obtain ⟨⟨z0, z1, z2⟩, _⟩ := (HBx.out.below' x1).three
      (try go_wp2_with fail)
      refine hK.out _ _ (HS.out _ x1) (fun hHeld => ?_)
      clear hK K
      try simp only [Act.put, List.setIfInBounds_toArray, List.set_cons_zero, List.set_cons_succ, List.getElem_toArray, List.getElem_cons_zero, List.getElem_cons_succ]
      refine wpAnyH_ready (rs := [0]) (by kernel_rfl) (by simp) ?_
      refine AllReadyH.cons rfl (fun K hK => ?_) AllReadyH.nil
      go_simp
      (try go_wp2_with fail)
      refine hK.out _ _ (HS.out _ x1) (fun hHeld => ?_)
      clear hK K
      try simp only [Act.put, List.setIfInBounds_toArray, List.set_cons_zero, List.set_cons_succ, List.getElem_toArray, List.getElem_cons_zero, List.getElem_cons_succ]
      refine wpAnyH_ready (rs := [13]) (by kernel_rfl) (by simp) ?_
      refine AllReadyH.cons rfl (fun K hK => ?_) AllReadyH.nil
      go_simp
      with_reducible refine (HAD.out _ x1 _ _ _ _ _ _ _ q8).mono ?_
      rintro _ w9 ⟨s9, A9, n9, c9, D9, m9, d9, rfl, q9, b9⟩
      have x2 : Below wr.heap.size wr w9 := bb x1 b9
      obtain ⟨_, f0, f1, f2⟩ := (HBx.out.below' x2).three
      (try go_wp2_with fail)
      refine hK.out _ _ (HS.out _ x2) (fun hHeld => ?_)
      clear hK K
      try simp only [Act.put, List.setIfInBounds_toArray, List.set_cons_zero, List.set_cons_succ, List.getElem_toArray, List.getElem_cons_zero, List.getElem_cons_succ]
      refine wpAnyH_ready (rs := [14]) (by kernel_rfl) (by simp) ?_
      refine AllReadyH.cons rfl (fun K hK => ?_) AllReadyH.nil
      go_simp
      (try go_wp2_with fail)
      refine hK.out _ _ (HP.out _ _ _ _ x2.size (HS.out _ x2)) (fun hHeld => ?_)
      clear hK K
      try simp only [Act.put, List.setIfInBounds_toArray, List.set_cons_zero, List.set_cons_succ, List.getElem_toArray, List.getElem_cons_zero, List.getElem_cons_succ]
      refine wpAnyH_done (by kernel_rfl) ?_ _
      have HN := Lib.hid (HX.out.setx (z := ⟨s9, A9, n9, c9, D9, m9, d9⟩) x2 (Nat.le_refl _) q9 HLT6.out (by omega))
      obtain ⟨W9, hW9⟩ : ∃ W, put3 w9 w6.heap.size (.bool s9) (.slice A9 n9 c9) (.slice D9 m9 d9) = W := ⟨_, rfl⟩
      simp only [hW9] at HN
      unfold put3 at hW9
      go_wp2_with fail
      (try rw [hW9])
      go_roundw
      case rel => exact ⟨j + 1, _, by omega, by go_num, HN⟩
      case measure => simp [mes, intOf]; omega
  · obtain rfl : j = mo := by omega
    clear hj2 hj
    have HB5 := Lib.hid (HB4.out.below hbr (Nat.lt_of_lt_of_le HLT.out x4.size))
    go_wp2_with fail
    go_loopw [129] (fun iv wr => ∃ (i : Nat) (y : NV), i ≤ n4 ∧ iv = .int .i64 i ∧ Hid (Two w4.heap.size w4 w6.heap.size (w6.heap.size + 1) ⟨s_x, A_x, n_x, c_x, D_x, m_x, d_x⟩ (sumX t outs Cs j) y (sumY bs Ds i) wr)) (fun iv _ => n4 - mes iv)
    case atStart => exact ⟨0, _, by omega, rfl, HX⟩
    case round =>
    clear HX HB5 hbr
    obtain ⟨i, y, hi, rfl, HX⟩ := hrel
    obtain ⟨s_y, A_y, n_y, c_y, D_y, m_y, d_y⟩ := y
    have hbr : Below w4.heap.size w4 wr := HX.out.2.2.2.2
    have BK := HB4.out.below hbr (Nat.lt_of_lt_of_le HLT.out x4.size)
    by_cases hi2 : i < n4
    · have hi4 : i < m := by omega
      obtain ⟨b_b, o_b, s_b, A_b, n_b, c_b, D_b, m_b, d_b, rfl, l_b, k0_b, k1_b, k2_b, q_b⟩ := HQ4.out.at_ hi2
      obtain ⟨b_d, o_d, s_d, A_d, n_d, c_d, D_d, m_d, d_d, rfl, l_d, k0_d, k1_d, k2_d, q_d⟩ := HD4.out.at_ hi4
      have hbs := hbr.size
      have hl6 := HLT6.out
      have L_b : b_b < wr.heap.size := Nat.lt_of_lt_of_le l_b hbs
      replace k0_b := (hbr.cell (p := ⟨b_b, o_b + i * 3, none⟩) l_b).trans k0_b
      replace k1_b := (hbr.cell (p := ⟨b_b, o_b + i * 3 + 1, none⟩) l_b).trans k1_b
      replace k2_b := (hbr.cell (p := ⟨b_b, o_b + i * 3 + 2, none⟩) l_b).trans k2_b
      have L_d : b_d < wr.heap.size := Nat.lt_of_lt_of_le l_d hbs
      replace k0_d := (hbr.cell (p := ⟨b_d, o_d + i * 3, none⟩) l_d).trans k0_d
      replace k1_d := (hbr.cell (p := ⟨b_d, o_d + i * 3 + 1, none⟩) l_d).trans k1_d
      replace k2_d := (hbr.cell (p := ⟨b_d, o_d + i * 3 + 2, none⟩) l_d).trans k2_d
      have hl4 : w.heap.size < w4.heap.size := Nat.lt_of_lt_of_le HLT.out x4.size
      have hsy := sumY_succ bs Ds i
      have hib : i < bs.length := by have := HN4.out; omega
      have zy := H7.out i (by omega)
      have zb := H8.out i hib
      have zd := (getD_sz HZD.out (by omega) i).mono (show 3 ≤ 5000 by omega)
      obtain ⟨X1, X2, Y1, Y2, X5⟩ := HX.out
      have ML := rat_mul ((q_b.below hbr).below (Below.refl _ wr).drew) ((q_d.below hbr).below (Below.refl _ wr).drew) zb zd (by omega)
      have AD := fun (w1 : World) (hb9 : Below wr.heap.size wr w1) (s8 : Bool) (A8 : Option Addr) (n8 c8 : Nat) (D8 : Option Addr) (m8 d8 : Nat) (q8 : Q w1 s8 A8 n8 c8 D8 m8 d8 (bs.getD i 0 * Ds.getD i 0)) => rat_add (N := 10000) (Y2.below hb9) q8 (zy.mono (by omega)) (zb.mul zd) (by omega)
      have hS : ∀ w', Below wr.heap.size wr w' → w'.cell? ⟨b_b, o_b + i * 3, none⟩ = some (.bool s_b) ∧ w'.cell? ⟨b_b, o_b + i * 3 + 1, none⟩ = some (.slice A_b n_b c_b) ∧ w'.cell? ⟨b_b, o_b + i * 3 + 2, none⟩ = some (.slice D_b m_b d_b) ∧ w'.cell? ⟨w.heap.size, 2, none⟩ = some (.slice (some ⟨b_d, o_d, none⟩) m e) ∧ w'.cell? ⟨b_d, o_d + i * 3, none⟩ = some (.bool s_d) ∧ w'.cell? ⟨b_d, o_d + i * 3 + 1, none⟩ = some (.slice A_d n_d c_d) ∧ w'.cell? ⟨b_d, o_d + i * 3 + 2, none⟩ = some (.slice D_d m_d d_d) := fun w' hb9 => ⟨(hb9.cell (p := ⟨b_b, o_b + i * 3, none⟩) L_b).trans k0_b, (hb9.cell (p := ⟨b_b, o_b + i * 3 + 1, none⟩) L_b).trans k1_b, (hb9.cell (p := ⟨b_b, o_b + i * 3 + 2, none⟩) L_b).trans k2_b, (BK.below' hb9).four.2.2.1, (hb9.cell (p := ⟨b_d, o_d + i * 3, none⟩) L_d).trans k0_d, (hb9.cell (p := ⟨b_d, o_d + i * 3 + 1, none⟩) L_d).trans k1_d, (hb9.cell (p := ⟨b_d, o_d + i * 3 + 2, none⟩) L_d).trans k2_d⟩
      have hP : ∀ (w' : World) (z0 z1 z2 : Value), wr.heap.size ≤ w'.heap.size → (w'.cell? ⟨b_b, o_b + i * 3, none⟩ = some (.bool s_b) ∧ w'.cell? ⟨b_b, o_b + i * 3 + 1, none⟩ = some (.slice A_b n_b c_b) ∧ w'.cell? ⟨b_b, o_b + i * 3 + 2, none⟩ = some (.slice D_b m_b d_b) ∧ w'.cell? ⟨w.heap.size, 2, none⟩ = some (.slice (some ⟨b_d, o_d, none⟩) m e) ∧ w'.cell? ⟨b_d, o_d + i * 3, none⟩ = some (.bool s_d) ∧ w'.cell? ⟨b_d, o_d + i * 3 + 1, none⟩ = some (.slice A_d n_d c_d) ∧ w'.cell? ⟨b_d, o_d + i * 3 + 2, none⟩ = some (.slice D_d m_d d_d)) → (fun w' : World => w'.cell? ⟨b_b, o_b + i * 3, none⟩ = some (.bool s_b) ∧ w'.cell? ⟨b_b, o_b + i * 3 + 1, none⟩ = some (.slice A_b n_b c_b) ∧ w'.cell? ⟨b_b, o_b + i * 3 + 2, none⟩ = some (.slice D_b m_b d_b) ∧ w'.cell? ⟨w.heap.size, 2, none⟩ = some (.slice (some ⟨b_d, o_d, none⟩) m e) ∧ w'.cell? ⟨b_d, o_d + i * 3, none⟩ = some (.bool s_d) ∧ w'.cell? ⟨b_d, o_d + i * 3 + 1, none⟩ = some (.slice A_d n_d c_d) ∧ w'.cell? ⟨b_d, o_d + i * 3 + 2, none⟩ = some (.slice D_d m_d d_d)) (put3 w' (w6.heap.size + 1) z0 z1 z2) := fun w' z0 z1 z2 hz9 ⟨p0, p1, p2, p3, p4, p5, p6⟩ => ⟨(cell_put3 (by omega) (by omega)).trans p0, (cell_put3 (by omega) (by omega)).trans p1, (cell_put3 (by omega) (by omega)).trans p2, (cell_put3 (by omega) (by omega)).trans p3, (cell_put3 (by omega) (by omega)).trans p4, (cell_put3 (by omega) (by omega)).trans p5, (cell_put3 (by omega) (by omega)).trans p6⟩
      generalize hTC : bs.getD i 0 * Ds.getD i 0 = TC at *
      simp only [← hsy] at AD
      have HML := Lib.hid ML
      have HAD := Lib.hid AD
      have HS := Lib.hid hS
      have HP := Lib.hid hP
      have HBy := Lib.hid Y1
      obtain ⟨⟨y0, y1, y2⟩, _⟩ := HBy.out.three
      have hi3 : (i : Int) < (n4 : Int) := by omega
      have hi5 : (i : Int) < (m : Int) := by omega
      clear ML AD hS hP X1 X2 Y1 Y2 X5 q_b q_d zy zb zd hib hsy hTC BK
      go_wp2_with fail
      refine wp_region_held_drew (S := fun w' => w'.cell? ⟨b_b, o_b + i * 3, none⟩ = some (.bool s_b) ∧ w'.cell? ⟨b_b, o_b + i * 3 + 1, none⟩ = some (.slice A_b n_b c_b) ∧ w'.cell? ⟨b_b, o_b + i * 3 + 2, none⟩ = some (.slice D_b m_b d_b) ∧ w'.cell? ⟨w.heap.size, 2, none⟩ = some (.slice (some ⟨b_d, o_d, none⟩) m e) ∧ w'.cell? ⟨b_d, o_d + i * 3, none⟩ = some (.bool s_d) ∧ w'.cell? ⟨b_d, o_d + i * 3 + 1, none⟩ = some (.slice A_d n_d c_d) ∧ w'.cell? ⟨b_d, o_d + i * 3 + 2, none⟩ = some (.slice D_d m_d d_d)) (by kernel_rfl) (HS.out _ (Below.refl _ wr).drew) (fun hHeld => ?_)
      refine wpAnyH_take (i := 1) (v := ?_) rfl (by kernel_rfl) (by kernel_rfl) (by kernel_rfl) (fun _ _ _ h => h) (Or.inl ⟨by kernel_rfl, ?_⟩) (by assumption) ?_
      rotate_left
      · intro w hSw
        (try dsimp only at hSw)
        go_simp
        (try with_reducible rfl)
      try simp only [Act.put, List.setIfInBounds_toArray, List.set_cons_zero, List.set_cons_succ, List.getElem_toArray, List.getElem_cons_zero, List.getElem_cons_succ]
      refine wpAnyH_take (i := 2) (v := ?_) rfl (by kernel_rfl) (by kernel_rfl) (by kernel_rfl) (fun _ _ _ h => h) (Or.inl ⟨by kernel_rfl, ?_⟩) (by assumption) ?_
      rotate_left
      · intro w hSw
        (try dsimp only at hSw)
        go_simp
        (try with_reducible rfl)
      try simp only [Act.put, List.setIfInBounds_toArray, List.set_cons_zero, List.set_cons_succ, List.getElem_toArray, List.getElem_cons_zero, List.getElem_cons_succ]
      refine wpAnyH_take (i := 3) (v := ?_) rfl (by kernel_rfl) (by kernel_rfl) (by kernel_rfl) (fun _ _ _ h => h) (Or.inl ⟨by kernel_rfl, ?_⟩) (by assumption) ?_
      rotate_left
      · intro w hSw
        (try dsimp only at hSw)
        go_simp
        (try with_reducible rfl)
      try simp only [Act.put, List.setIfInBounds_toArray, List.set_cons_zero, List.set_cons_succ, List.getElem_toArray, List.getElem_cons_zero, List.getElem_cons_succ]
      refine wpAnyH_take (i := 4) (v := ?_) rfl (by kernel_rfl) (by kernel_rfl) (by kernel_rfl) (fun _ _ _ h => h) (Or.inl ⟨by kernel_rfl, ?_⟩) (by assumption) ?_
      rotate_left
      · intro w hSw
        (try dsimp only at hSw)
        go_simp
        (try with_reducible rfl)
      try simp only [Act.put, List.setIfInBounds_toArray, List.set_cons_zero, List.set_cons_succ, List.getElem_toArray, List.getElem_cons_zero, List.getElem_cons_succ]
      refine wpAnyH_take (i := 5) (v := ?_) rfl (by kernel_rfl) (by kernel_rfl) (by kernel_rfl) (fun _ _ _ h => h) (Or.inl ⟨by kernel_rfl, ?_⟩) (by assumption) ?_
      rotate_left
      · intro w hSw
        (try dsimp only at hSw)
        go_simp
        (try with_reducible rfl)
      try simp only [Act.put, List.setIfInBounds_toArray, List.set_cons_zero, List.set_cons_succ, List.getElem_toArray, List.getElem_cons_zero, List.getElem_cons_succ]
      refine wpAnyH_take (i := 6) (v := ?_) rfl (by kernel_rfl) (by kernel_rfl) (by kernel_rfl) (fun _ _ _ h => h) (Or.inl ⟨by kernel_rfl, ?_⟩) (by assumption) ?_
      rotate_left
      · intro w hSw
        (try dsimp only at hSw)
        go_simp
        (try with_reducible rfl)
      try simp only [Act.put, List.setIfInBounds_toArray, List.set_cons_zero, List.set_cons_succ, List.getElem_toArray, List.getElem_cons_zero, List.getElem_cons_succ]
      refine wpAnyH_take (i := 7) (v := ?_) rfl (by kernel_rfl) (by kernel_rfl) (by kernel_rfl) (fun _ _ _ h => h) (Or.inl ⟨by kernel_rfl, ?_⟩) (by assumption) ?_
      rotate_left
      · intro w hSw
        (try dsimp only at hSw)
        go_simp
        (try with_reducible rfl)
      try simp only [Act.put, List.setIfInBounds_toArray, List.set_cons_zero, List.set_cons_succ, List.getElem_toArray, List.getElem_cons_zero, List.getElem_cons_succ]
      refine wpAnyH_take (i := 8) (v := ?_) rfl (by kernel_rfl) (by kernel_rfl) (by kernel_rfl) (fun _ _ _ h => h) (Or.inl ⟨by kernel_rfl, ?_⟩) (by assumption) ?_
      rotate_left
      · intro w hSw
        (try dsimp only at hSw)
        go_simp
        (try with_reducible rfl)
      try simp only [Act.put, List.setIfInBounds_toArray, List.set_cons_zero, List.set_cons_succ, List.getElem_toArray, List.getElem_cons_zero, List.getElem_cons_succ]
      refine wpAnyH_take (i := 9) (v := ?_) rfl (by kernel_rfl) (by kernel_rfl) (by kernel_rfl) (fun _ _ _ h => h) (Or.inl ⟨by kernel_rfl, ?_⟩) (by assumption) ?_
      rotate_left
      · intro w hSw
        (try dsimp only at hSw)
        go_simp
        (try with_reducible rfl)
      try simp only [Act.put, List.setIfInBounds_toArray, List.set_cons_zero, List.set_cons_succ, List.getElem_toArray, List.getElem_cons_zero, List.getElem_cons_succ]
      refine wpAnyH_ready (rs := [0, 10]) (by kernel_rfl) (by simp) ?_
      refine AllReadyH.cons rfl (fun K hK => ?_) (AllReadyH.cons rfl (fun K hK => ?_) AllReadyH.nil)
      · skip
        go_simp
        (try go_wp2_with fail)
        refine hK.out _ _ (HS.out _ (Below.refl _ wr).drew) (fun hHeld => ?_)
        clear hK K
        try simp only [Act.put, List.setIfInBounds_toArray, List.set_cons_zero, List.set_cons_succ, List.getElem_toArray, List.getElem_cons_zero, List.getElem_cons_succ]
        refine wpAnyH_ready (rs := [10]) (by kernel_rfl) (by simp) ?_
        refine AllReadyH.cons rfl (fun K hK => ?_) AllReadyH.nil
        go_simp
        with_reducible refine HML.out.mono ?_
        rintro _ w8 ⟨s8, A8, n8, c8, D8, m8, d8, rfl, q8, b8⟩
        have x1 : Below wr.heap.size wr w8 := Below.undrew b8
        obtain ⟨⟨z0, z1, z2⟩, _⟩ := (HBy.out.below' x1).three
        (try go_wp2_with fail)
        refine hK.out _ _ (HS.out _ x1) (fun hHeld => ?_)
        clear hK K
        try simp only [Act.put, List.setIfInBounds_toArray, List.set_cons_zero, List.set_cons_succ, List.getElem_toArray, List.getElem_cons_zero, List.getElem_cons_succ]
        refine wpAnyH_ready (rs := [11]) (by kernel_rfl) (by simp) ?_
        refine AllReadyH.cons rfl (fun K hK => ?_) AllReadyH.nil
        go_simp
        with_reducible refine (HAD.out _ x1 _ _ _ _ _ _ _ q8).mono ?_
        rintro _ w9 ⟨s9, A9, n9, c9, D9, m9, d9, rfl, q9, b9⟩
        have x2 : Below wr.heap.size wr w9 := bb x1 b9
        obtain ⟨_, f0, f1, f2⟩ := (HBy.out.below' x2).three
        (try go_wp2_with fail)
        refine hK.out _ _ (HS.out _ x2) (fun hHeld => ?_)
        clear hK K
        try simp only [Act.put, List.setIfInBounds_toArray, List.set_cons_zero, List.set_cons_succ, List.getElem_toArray, List.getElem_cons_zero, List.getElem_cons_succ]
        refine wpAnyH_ready (rs := [12]) (by kernel_rfl) (by simp) ?_
        refine AllReadyH.cons rfl (fun K hK => ?_) AllReadyH.nil
        go_simp
        (try go_wp2_with fail)
        refine hK.out _ _ (HP.out _ _ _ _ x2.size (HS.out _ x2)) (fun hHeld => ?_)
        clear hK K
        try simp only [Act.put, List.setIfInBounds_toArray, List.set_cons_zero, List.set_cons_succ, List.getElem_toArray, List.getElem_cons_zero, List.getElem_cons_succ]
        refine wpAnyH_done (by kernel_rfl) ?_ _
        have HN := Lib.hid (HX.out.sety (z := ⟨s9, A9, n9, c9, D9, m9, d9⟩) x2 (Nat.le_refl _) q9 (Nat.le_succ_of_le HLT6.out) (by omega))
        obtain ⟨W9, hW9⟩ : ∃ W, put3 w9 (w6.heap.size + 1) (.bool s9) (.slice A9 n9 c9) (.slice D9 m9 d9) = W := ⟨_, rfl⟩
        simp only [hW9] at HN
        unfold put3 at hW9
        go_wp2_with fail
        (try rw [hW9])
        go_roundw
        case rel => exact ⟨i + 1, _, by omega, by go_num, HN⟩
        case measure => simp [mes, intOf]; omega
      · skip
        go_simp
        with_reducible refine HML.out.mono ?_
        rintro _ w8 ⟨s8, A8, n8, c8, D8, m8, d8, rfl, q8, b8⟩
        have x1 : Below wr.heap.size wr w8 := Below.undrew b8
        obtain ⟨⟨z0, z1, z2⟩, _⟩ := (HBy.out.below' x1).three
        (try go_wp2_with fail)
        refine hK.out _ _ (HS.out _ x1) (fun hHeld => ?_)
        clear hK K
        try simp only [Act.put, List.setIfInBounds_toArray, List.set_cons_zero, List.set_cons_succ, List.getElem_toArray, List.getElem_cons_zero, List.getElem_cons_succ]
        refine wpAnyH_ready (rs := [0]) (by kernel_rfl) (by simp) ?_
        refine AllReadyH.cons rfl (fun K hK => ?_) AllReadyH.nil
        go_simp
        (try go_wp2_with fail)
        refine hK.out _ _ (HS.out _ x1) (fun hHeld => ?_)
        clear hK K
        try simp only [Act.put, List.setIfInBounds_toArray, List.set_cons_zero, List.set_cons_succ, List.getElem_toArray, List.getElem_cons_zero, List.getElem_cons_succ]
        refine wpAnyH_ready (rs := [11]) (by kernel_rfl) (by simp) ?_
        refine AllReadyH.cons rfl (fun K hK => ?_) AllReadyH.nil
        go_simp
        with_reducible refine (HAD.out _ x1 _ _ _ _ _ _ _ q8).mono ?_
        rintro _ w9 ⟨s9, A9, n9, c9, D9, m9, d9, rfl, q9, b9⟩
        have x2 : Below wr.heap.size wr w9 := bb x1 b9
        obtain ⟨_, f0, f1, f2⟩ := (HBy.out.below' x2).three
        (try go_wp2_with fail)
        refine hK.out _ _ (HS.out _ x2) (fun hHeld => ?_)
        clear hK K
        try simp only [Act.put, List.setIfInBounds_toArray, List.set_cons_zero, List.set_cons_succ, List.getElem_toArray, List.getElem_cons_zero, List.getElem_cons_succ]
        refine wpAnyH_ready (rs := [12]) (by kernel_rfl) (by simp) ?_
        refine AllReadyH.cons rfl (fun K hK => ?_) AllReadyH.nil
        go_simp
        (try go_wp2_with fail)
        refine hK.out _ _ (HP.out _ _ _ _ x2.size (HS.out _ x2)) (fun hHeld => ?_)
        clear hK K
        try simp only [Act.put, List.setIfInBounds_toArray, List.set_cons_zero, List.set_cons_succ, List.getElem_toArray, List.getElem_cons_zero, List.getElem_cons_succ]
        refine wpAnyH_done (by kernel_rfl) ?_ _
        have HN := Lib.hid (HX.out.sety (z := ⟨s9, A9, n9, c9, D9, m9, d9⟩) x2 (Nat.le_refl _) q9 (Nat.le_succ_of_le HLT6.out) (by omega))
        obtain ⟨W9, hW9⟩ : ∃ W, put3 w9 (w6.heap.size + 1) (.bool s9) (.slice A9 n9 c9) (.slice D9 m9 d9) = W := ⟨_, rfl⟩
        simp only [hW9] at HN
        unfold put3 at hW9
        go_wp2_with fail
        (try rw [hW9])
        go_roundw
        case rel => exact ⟨i + 1, _, by omega, by go_num, HN⟩
        case measure => simp [mes, intOf]; omega
    · obtain rfl : i = n4 := by omega
      obtain ⟨X1, X2, Y1, Y2, X5⟩ := HX.out
      have SM := rat_sameQ X2 Y2 (H6.out j (Nat.le_refl _)) (H7.out i (by have := HN4.out; omega)) (by omega)
      rw [show decide (sumX t outs Cs j = sumY bs Ds i) = true from decide_eq_true (by rw [HN4.out]; exact H5.out)] at SM
      have HSM := Lib.hid SM
      obtain ⟨⟨x0, x1, x2⟩, _⟩ := X1.three
      obtain ⟨⟨y0, y1, y2⟩, _⟩ := Y1.three
      have hend := Lib.hid (bb hb0 x4)
      have hend2 := Lib.hid X5
      clear X1 X2 Y1 Y2 X5 SM BK hbr
      go_wp2_with fail
      with_reducible refine HSM.out.mono ?_
      rintro _ w8 ⟨rfl, b8⟩
      go_wp2_with fail
      with_reducible refine (same17 _).mono ?_
      rintro _ w9 ⟨rfl, b9⟩
      go_wp2_with fail
      go_ret
      exact ⟨rfl, bb hend.out (bb hend2.out (bb b8 b9))⟩

theorem tangentAdjoint_row (A : Option Addr) (n c : Nat) (xs : List RI) (B : Option Addr) (m d : Nat) (is : List RQ) (D : Option Addr) (kd e : Nat) (ds : List RQ) (C : Option Addr) (k f : Nat) (fs : List RQ) (O : Option Addr) (mo o_ : Nat) (outs : List Int) (E : Option Addr) (kc cc : Nat) (cs : List RQ) (w : World) (h : SlP w A n c xs) (hi : SlR w B m d is) (hd : SlR w D kd e ds) (hf : SlR w C k f fs) (ho : SlZ w O mo o_ outs) (hc : SlR w E kc cc cs) :
    Calls Tryz.prog 5 #[.agg #[.slice A n c, .slice B m d, .slice D kd e, .slice C k f], .slice O mo o_, .slice E kc cc] w (RetBl true w) := tangentAdjoint_walk h hi hd hf ho hc

end Go.Proofs.YtfhihapgjiaobaaGreat
