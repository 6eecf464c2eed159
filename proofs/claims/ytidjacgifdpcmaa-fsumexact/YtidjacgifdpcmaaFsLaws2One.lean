/-
  The walk of the law FsumExact: it returns true for any two words. No condition but that they fit their kind. (Written by tools/fsexact.py.)
-/
import Derived.Test.YtidjacgifdpcmaaFsLawsOne
import Derived.Test.YtidjacgifdpcmaaFrToRatOne
namespace Go.Proofs.Ytidjacgifdpcmaa
set_option maxRecDepth 100000
open Go.RowKit
set_option linter.unusedVariables false
set_option linter.unusedSimpArgs false

theorem dq_pos {b : Nat} (h : ng b = false) : dq b = mkRat (vl b : Int) (2 ^ K74) := by unfold dq rq sI vl; rw [h]; rfl
theorem cmp_twice {p q d : Nat} (hd : d ≠ 0) (h : cmpQ (mkRat (p : Int) d) (mkRat (q : Int) d + mkRat (q : Int) d) ≤ 0) : p ≤ 2 * q := by
  rw [Rat.mkRat_add_mkRat _ _ hd hd, mk_cmp hd (Nat.mul_ne_zero hd hd)] at h
  have hp : (0 : Int) < (d : Int) := by omega
  have hpp : (0 : Int) < (d : Int) * (d : Int) := Int.mul_pos hp hp
  rcases Nat.lt_or_ge (2 * q) p with hl | hl
  · exfalso
    have e1 : ((q : Int) * d + (q : Int) * d) * d = (2 * q : Int) * ((d : Int) * d) := by grind
    have e2 : (p : Int) * ((d * d : Nat) : Int) = (p : Int) * ((d : Int) * d) := by push_cast; rfl
    rw [e1, e2] at h
    have h1 : (2 * q : Int) * ((d : Int) * d) < (p : Int) * ((d : Int) * d) := Int.mul_lt_mul_of_pos_right (by omega) hpp
    rw [if_neg (by omega), if_pos h1] at h
    omega
  · exact hl
theorem sub_same {p q d : Nat} (hd : d ≠ 0) : mkRat (p : Int) d - mkRat (q : Int) d = mkRat ((p : Int) - q) d := by
  rw [sub_mk _ _ hd hd, Rat.mkRat_eq_iff (Nat.mul_ne_zero hd hd) hd]
  push_cast
  grind
theorem inf_fld {M : Nat} (h : M < INF) (s : Bool) : fld (sg s M) < 2047 ∧ ng (sg s M) = s ∧ mant (sg s M) = M := by
  rw [INF_lit] at h
  unfold fld ng mant sg
  cases s
  · simp; omega
  · simp; omega
theorem exact_diff {a b : Nat} (ha : a < 18446744073709551616) (hb : b < 18446744073709551616) (fa : fld a < 2047) (fb : fld b < 2047) (na : ng a = false) (nb : ng b = false)
    (c1 : cmpQ (dq a) (dq b + dq b) ≤ 0) (c2 : cmpQ (dq b) (dq a + dq a) ≤ 0) : fld (fsub a b) < 2047 ∧ dq (fsub a b) = dq a - dq b := by
  have hK : 2 ^ K74 ≠ 0 := by have := Nat.two_pow_pos K74; omega
  rw [dq_pos na, dq_pos nb] at c1 c2 ⊢
  have l1 := cmp_twice hK c1
  have l2 := cmp_twice hK c2
  have hE := near_exact (mant_lt fa) (mant_lt fb) l1 l2
  obtain ⟨v1, v2⟩ := ex_val hE
  have ka := (kd_cases a).2.2 fa
  have kb := (kd_cases b).2.2 fb
  have e1 : fsub a b = fsumF a (flp b) := by
    unfold fsub
    rw [show flc b = flp b by unfold flc; rw [if_neg (by omega)]]
    unfold fadd
    rw [flp_kind hb, if_neg (by omega), if_neg (by omega), if_neg (by omega)]
  have hv : vl a = fv (mant a) := rfl
  have hw : vl b = fv (mant b) := rfl
  rw [← hv, ← hw] at v1 v2
  rw [e1]
  unfold fsumF
  rw [flp_ng hb, flp_vl, na, nb, if_neg (by decide)]
  generalize vl a = p at *
  generalize vl b = q at *
  rw [sub_same hK]
  by_cases h : p = q
  · rw [if_pos h]
    refine ⟨by decide, ?_⟩
    rw [h, Int.sub_self, Rat.zero_mkRat]
    unfold dq
    rw [show mant 0 = 0 from rfl, fv_zero]
    unfold rq
    rw [sI_zero, Rat.zero_mkRat]
  · rw [if_neg h]
    by_cases h2 : q < p
    · rw [if_pos h2]
      rw [show dist p q = p - q by unfold dist; omega] at v1 v2
      obtain ⟨g1, g2, g3⟩ := inf_fld v2 false
      refine ⟨g1, ?_⟩
      unfold dq rq
      rw [g2, g3, v1, show sI false (p - q) = (p : Int) - q by unfold sI; rw [if_neg (by decide)]; omega]
    · rw [if_neg h2]
      rw [show dist p q = q - p by unfold dist; omega] at v1 v2
      obtain ⟨g1, g2, g3⟩ := inf_fld v2 true
      refine ⟨g1, ?_⟩
      unfold dq rq
      rw [show (!false) = true from rfl, g2, g3, v1, show sI true (q - p) = (p : Int) - q by unfold sI; rw [if_pos rfl]; omega]

set_option maxRecDepth 100000 in
set_option maxHeartbeats 16000000 in
theorem fsumExact_walk (a b : Int) (w0 : (Lit.int .u64 a).wf = true) (w1 : (Lit.int .u64 b).wf = true) (w : World) :
    Calls Try.prog 5 #[.int .u64 a, .int .u64 b] w fun e w' => e = .returned (.bool true) ∧ Below w.heap.size w w' := by
  obtain ⟨a, rfl, ha⟩ := u64_wf w0
  obtain ⟨b, rfl, hb⟩ := u64_wf w1
  clear w0 w1
  have F1 := rf_finite ha w
  have F2 := rf_finite hb w
  have N1 := rf_neg ha w
  have N2 := rf_neg hb w
  unfold fin at F1 F2
  have H11 := Lib.hid (fun w1 => same11 w1)
  by_cases fa : fld a < 2047
  rotate_left
  · rw [decide_eq_false fa] at F1
    have HF1 := Lib.hid F1
    clear F1 F2 N1 N2
    go_enter Try.func5, Try.ntmps5
    go_wp2_with fail
    refine HF1.out.mono ?_
    rintro _ _ ⟨rfl, rfl⟩
    go_wp2_with fail
    refine (H11.out _).mono ?_
    rintro _ w5 ⟨rfl, b5⟩
    go_wp2_with fail
    go_ret
    exact ⟨rfl, b5⟩
  · rw [decide_eq_true fa] at F1
    have HF1 := Lib.hid F1
    by_cases fb : fld b < 2047
    rotate_left
    · rw [decide_eq_false fb] at F2
      have HF2 := Lib.hid F2
      clear F1 F2 N1 N2
      go_enter Try.func5, Try.ntmps5
      go_wp2_with fail
      refine HF1.out.mono ?_
      rintro _ _ ⟨rfl, rfl⟩
      go_wp2_with fail
      refine HF2.out.mono ?_
      rintro _ _ ⟨rfl, rfl⟩
      go_wp2_with fail
      refine (H11.out _).mono ?_
      rintro _ w5 ⟨rfl, b5⟩
      go_wp2_with fail
      go_ret
      exact ⟨rfl, b5⟩
    · rw [decide_eq_true fb] at F2
      have HF2 := Lib.hid F2
      by_cases na : ng a = false
      rotate_left
      · rw [show ng a = true by simpa using na] at N1
        have HN1 := Lib.hid N1
        clear F1 F2 N1 N2
        go_enter Try.func5, Try.ntmps5
        go_wp2_with fail
        refine HF1.out.mono ?_
        rintro _ _ ⟨rfl, rfl⟩
        go_wp2_with fail
        refine HF2.out.mono ?_
        rintro _ _ ⟨rfl, rfl⟩
        go_wp2_with fail
        refine HN1.out.mono ?_
        rintro _ _ ⟨rfl, rfl⟩
        go_wp2_with fail
        refine (H11.out _).mono ?_
        rintro _ w5 ⟨rfl, b5⟩
        go_wp2_with fail
        go_ret
        exact ⟨rfl, b5⟩
      · rw [na] at N1
        have HN1 := Lib.hid N1
        by_cases nb : ng b = false
        rotate_left
        · rw [show ng b = true by simpa using nb] at N2
          have HN2 := Lib.hid N2
          clear F1 F2 N1 N2
          go_enter Try.func5, Try.ntmps5
          go_wp2_with fail
          refine HF1.out.mono ?_
          rintro _ _ ⟨rfl, rfl⟩
          go_wp2_with fail
          refine HF2.out.mono ?_
          rintro _ _ ⟨rfl, rfl⟩
          go_wp2_with fail
          refine HN1.out.mono ?_
          rintro _ _ ⟨rfl, rfl⟩
          go_wp2_with fail
          refine HN2.out.mono ?_
          rintro _ _ ⟨rfl, rfl⟩
          go_wp2_with fail
          refine (H11.out _).mono ?_
          rintro _ w5 ⟨rfl, b5⟩
          go_wp2_with fail
          go_ret
          exact ⟨rfl, b5⟩
        · rw [nb] at N2
          have HN2 := Lib.hid N2
          have T1 := Lib.hid (fun w1 => rf_torat ha fa w1)
          have T2 := Lib.hid (fun w1 => rf_torat hb fb w1)
          have zx := (dq_sz fa).mono (show 18 ≤ 40 by omega)
          have zy := (dq_sz fb).mono (show 18 ≤ 40 by omega)
          have zxx := ((dq_sz fa).add (dq_sz fa)).mono (show 18 + 18 + 1 ≤ 40 by omega)
          have zyy := ((dq_sz fb).add (dq_sz fb)).mono (show 18 + 18 + 1 ≤ 40 by omega)
          have zd := ((dq_sz fa).sub (dq_sz fb)).mono (show 18 + 18 + 1 ≤ 40 by omega)
          have ED := exact_diff ha hb fa fb na nb
          have SUB := Lib.hid (fun w1 => fs_sub ha hb w1)
          have hl : fsub a b < 18446744073709551616 := fadd_lt ha (flc_lt b)
          have FD := fun w1 => rf_finite hl w1
          unfold fin at FD
          have TD := fun (h : fld (fsub a b) < 2047) w1 => rf_torat hl h w1
          have zD := fun (h : fld (fsub a b) < 2047) => (dq_sz h).mono (show 18 ≤ 40 by omega)
          obtain ⟨c1, e1⟩ : ∃ c1, cmpQ (dq a) (dq b + dq b) = c1 := ⟨_, rfl⟩
          obtain ⟨c2, e2⟩ : ∃ c2, cmpQ (dq b) (dq a + dq a) = c2 := ⟨_, rfl⟩
          have r1 := cmpQ_range (dq a) (dq b + dq b)
          have r2 := cmpQ_range (dq b) (dq a + dq a)
          rw [e1] at r1 ED
          rw [e2] at r2 ED
          generalize dq (fsub a b) = DD at *
          generalize dq a = X at *
          generalize dq b = Y at *
          generalize fsub a b = d at *
          have HE1 := Lib.hid e1
          have HE2 := Lib.hid e2
          have HED := Lib.hid ED
          have HTD := Lib.hid TD
          have HZD := Lib.hid zD
          have HFD := Lib.hid FD
          clear F1 F2 N1 N2 e1 e2 ED TD zD FD fa fb na nb
          by_cases h1 : 0 < c1
          · obtain rfl : c1 = 1 := by omega
            go_enter Try.func5, Try.ntmps5
            go_wp2_with fail
            refine HF1.out.mono ?_
            rintro _ _ ⟨rfl, rfl⟩
            go_wp2_with fail
            refine HF2.out.mono ?_
            rintro _ _ ⟨rfl, rfl⟩
            go_wp2_with fail
            refine HN1.out.mono ?_
            rintro _ _ ⟨rfl, rfl⟩
            go_wp2_with fail
            refine HN2.out.mono ?_
            rintro _ _ ⟨rfl, rfl⟩
            go_wp2_with fail
            refine (T1.out _).mono ?_
            rintro _ v1 ⟨s4, A4, n4, a4, D4, m4, d4, rfl, qx0, bx0⟩
            go_wp2_with fail
            refine (T2.out _).mono ?_
            rintro _ v2 ⟨s5, A5, n5, a5, D5, m5, d5, rfl, qy0, by0⟩
            obtain ⟨V, hV, B1, B2, bv⟩ := boxes1 31 v2 #[.bool s4, .slice A4 n4 a4, .slice D4 m4 d4] #[.bool s5, .slice A5 n5 a5, .slice D5 m5 d5]
            have hb0 := bb bx0 (bb by0 bv)
            have qx := (qx0.below by0).below bv
            have qy := qy0.below bv
            have HS := Lib.hid (fun (w' : World) (hb : Below V.heap.size V w') => And.intro (B1.below' hb).three.1 (B2.below' hb).three.1)
            have HV := Lib.hid hV
            clear hV B1 B2 qx0 qy0 bx0 by0 bv T1 T2 HF1 HF2 HN1 HN2
            go_wp2_with fail
            rw [HV.out]
            clear HV
            have y0_0 : Below V.heap.size V V := Below.refl _ _
            obtain ⟨⟨k0_0_0_0, k0_0_0_1, k0_0_0_2⟩, ⟨k0_0_1_0, k0_0_1_1, k0_0_1_2⟩⟩ := HS.out _ y0_0
            refine wp_region_held_drew (S := fun w' => (w'.cell? ⟨v2.heap.size, 0, none⟩ = some (.bool s4) ∧ w'.cell? ⟨v2.heap.size, 1, none⟩ = some (.slice A4 n4 a4) ∧ w'.cell? ⟨v2.heap.size, 2, none⟩ = some (.slice D4 m4 d4)) ∧ (w'.cell? ⟨v2.heap.size + 1, 0, none⟩ = some (.bool s5) ∧ w'.cell? ⟨v2.heap.size + 1, 1, none⟩ = some (.slice A5 n5 a5) ∧ w'.cell? ⟨v2.heap.size + 1, 2, none⟩ = some (.slice D5 m5 d5))) (by kernel_rfl) ?_ (fun hHeld => ?_)
            · exact HS.out _ y0_0.drew
            refine wpAnyH_take (i := 0) (v := ?_) rfl (by kernel_rfl) (by kernel_rfl) (by kernel_rfl) (fun _ _ _ h => h) (Or.inl ⟨by kernel_rfl, ?_⟩) (by assumption) ?_
            rotate_left
            · intro w hSw
              (try dsimp only at hSw)
              go_simp
              (try with_reducible rfl)
            try simp only [Act.put, List.setIfInBounds_toArray, List.set_cons_zero, List.set_cons_succ, List.getElem_toArray, List.getElem_cons_zero, List.getElem_cons_succ]
            refine wpAnyH_take (i := 1) (v := ?_) rfl (by kernel_rfl) (by kernel_rfl) (by kernel_rfl) (fun _ _ _ h => h) (Or.inl ⟨by kernel_rfl, ?_⟩) (by assumption) ?_
            rotate_left
            · intro w hSw
              (try dsimp only at hSw)
              go_simp
              (try with_reducible rfl)
            try simp only [Act.put, List.setIfInBounds_toArray, List.set_cons_zero, List.set_cons_succ, List.getElem_toArray, List.getElem_cons_zero, List.getElem_cons_succ]
            refine wpAnyH_take (i := 2) (v := ?_) rfl (by kernel_rfl) (by kernel_rfl) (by kernel_rfl) (fun _ _ _ h => h) (Or.inl ⟨by kernel_rfl, ?_⟩) (by assumption) ?_
            rotate_left
            · intro w hSw
              (try dsimp only at hSw)
              go_simp
              (try with_reducible rfl)
            try simp only [Act.put, List.setIfInBounds_toArray, List.set_cons_zero, List.set_cons_succ, List.getElem_toArray, List.getElem_cons_zero, List.getElem_cons_succ]
            refine wpAnyH_ready (rs := [3]) (by kernel_rfl) (by simp) ?_
            refine AllReadyH.cons rfl (fun K hK => ?_) AllReadyH.nil
            go_simp
            refine (ref_qadd ?hq1 ?hq2 zy zy (by omega)).mono ?_
            case hq1 => (have hh := qy; exact hh)
            case hq2 => (have hh := qy; exact hh)
            rintro _ w1 ⟨rs1, rA1, rn1, rc1, rD1, rm1, rd1, rfl, u1, b1⟩
            have b1 := Below.undrew b1
            have y0_1 := bb y0_0 b1
            (try go_wp2_with fail)
            refine hK.out _ _ ?_ (fun hHeld => ?_)
            · exact HS.out _ y0_1
            clear hK K
            try simp only [Act.put, List.setIfInBounds_toArray, List.set_cons_zero, List.set_cons_succ, List.getElem_toArray, List.getElem_cons_zero, List.getElem_cons_succ]
            refine wpAnyH_ready (rs := [4]) (by kernel_rfl) (by simp) ?_
            refine AllReadyH.cons rfl (fun K hK => ?_) AllReadyH.nil
            go_simp
            refine (ref_cmpE (qx.below y0_1) u1 zx zyy (by omega) 1 HE1.out).mono ?_
            rintro _ w2 ⟨rfl, b2⟩
            have y0_2 := bb y0_1 b2
            (try go_wp2_with fail)
            refine hK.out _ _ ?_ (fun hHeld => ?_)
            · exact HS.out _ y0_2
            clear hK K
            try simp only [Act.put, List.setIfInBounds_toArray, List.set_cons_zero, List.set_cons_succ, List.getElem_toArray, List.getElem_cons_zero, List.getElem_cons_succ]
            refine wpAnyH_take (i := 5) (v := ?_) rfl (by kernel_rfl) (by kernel_rfl) (by kernel_rfl) (fun _ _ _ h => h) (Or.inl ⟨by kernel_rfl, ?_⟩) (by assumption) ?_
            rotate_left
            · intro w hSw
              (try dsimp only at hSw)
              go_simp
              (try with_reducible rfl)
            try simp only [Act.put, List.setIfInBounds_toArray, List.set_cons_zero, List.set_cons_succ, List.getElem_toArray, List.getElem_cons_zero, List.getElem_cons_succ]
            refine wpAnyH_take (i := 6) (v := ?_) rfl (by kernel_rfl) (by kernel_rfl) (by kernel_rfl) (fun _ _ _ h => h) (Or.inl ⟨by kernel_rfl, ?_⟩) (by assumption) ?_
            rotate_left
            · intro w hSw
              (try dsimp only at hSw)
              go_simp
              (try with_reducible rfl)
            try simp only [Act.put, List.setIfInBounds_toArray, List.set_cons_zero, List.set_cons_succ, List.getElem_toArray, List.getElem_cons_zero, List.getElem_cons_succ]
            refine wpAnyH_take (i := 7) (v := undef) rfl (by kernel_rfl) (by kernel_rfl) (by kernel_rfl) (fun _ _ _ h => h) (Or.inr ⟨by kernel_rfl, rfl⟩) (by assumption) ?_
            try simp only [Act.put, List.setIfInBounds_toArray, List.set_cons_zero, List.set_cons_succ, List.getElem_toArray, List.getElem_cons_zero, List.getElem_cons_succ]
            refine wpAnyH_take (i := 8) (v := undef) rfl (by kernel_rfl) (by kernel_rfl) (by kernel_rfl) (fun _ _ _ h => h) (Or.inr ⟨by kernel_rfl, rfl⟩) (by assumption) ?_
            try simp only [Act.put, List.setIfInBounds_toArray, List.set_cons_zero, List.set_cons_succ, List.getElem_toArray, List.getElem_cons_zero, List.getElem_cons_succ]
            refine wpAnyH_take (i := 9) (v := undef) rfl (by kernel_rfl) (by kernel_rfl) (by kernel_rfl) (fun _ _ _ h => h) (Or.inr ⟨by kernel_rfl, rfl⟩) (by assumption) ?_
            try simp only [Act.put, List.setIfInBounds_toArray, List.set_cons_zero, List.set_cons_succ, List.getElem_toArray, List.getElem_cons_zero, List.getElem_cons_succ]
            refine wpAnyH_take (i := 10) (v := undef) rfl (by kernel_rfl) (by kernel_rfl) (by kernel_rfl) (fun _ _ _ h => h) (Or.inr ⟨by kernel_rfl, rfl⟩) (by assumption) ?_
            try simp only [Act.put, List.setIfInBounds_toArray, List.set_cons_zero, List.set_cons_succ, List.getElem_toArray, List.getElem_cons_zero, List.getElem_cons_succ]
            refine wpAnyH_take (i := 11) (v := undef) rfl (by kernel_rfl) (by kernel_rfl) (by kernel_rfl) (fun _ _ _ h => h) (Or.inr ⟨by kernel_rfl, rfl⟩) (by assumption) ?_
            try simp only [Act.put, List.setIfInBounds_toArray, List.set_cons_zero, List.set_cons_succ, List.getElem_toArray, List.getElem_cons_zero, List.getElem_cons_succ]
            refine wpAnyH_take (i := 12) (v := undef) rfl (by kernel_rfl) (by kernel_rfl) (by kernel_rfl) (fun _ _ _ h => h) (Or.inr ⟨by kernel_rfl, rfl⟩) (by assumption) ?_
            try simp only [Act.put, List.setIfInBounds_toArray, List.set_cons_zero, List.set_cons_succ, List.getElem_toArray, List.getElem_cons_zero, List.getElem_cons_succ]
            refine wpAnyH_take (i := 13) (v := ?_) rfl (by kernel_rfl) (by kernel_rfl) (by kernel_rfl) (fun _ _ _ h => h) (Or.inl ⟨by kernel_rfl, ?_⟩) (by assumption) ?_
            rotate_left
            · intro w hSw
              (try dsimp only at hSw)
              go_simp
              (try with_reducible rfl)
            try simp only [Act.put, List.setIfInBounds_toArray, List.set_cons_zero, List.set_cons_succ, List.getElem_toArray, List.getElem_cons_zero, List.getElem_cons_succ]
            refine wpAnyH_done (by kernel_rfl) ?_ _
            obtain ⟨⟨k2_0_0_0, k2_0_0_1, k2_0_0_2⟩, ⟨k2_0_1_0, k2_0_1_1, k2_0_1_2⟩⟩ := HS.out _ y0_2
            go_wp2_with fail
            refine (same11 _).mono ?_
            rintro _ w3 ⟨rfl, b3⟩
            have y0_3 := bb y0_2 b3
            clear k2_0_0_0 k2_0_0_1 k2_0_0_2 k2_0_1_0 k2_0_1_1 k2_0_1_2
            obtain ⟨⟨k3_0_0_0, k3_0_0_1, k3_0_0_2⟩, ⟨k3_0_1_0, k3_0_1_1, k3_0_1_2⟩⟩ := HS.out _ y0_3
            go_wp2_with fail
            go_ret
            exact ⟨rfl, bb hb0 y0_3⟩
          · have d1 : decide (0 < c1) = false := decide_eq_false h1
            by_cases h2 : 0 < c2
            · have d2 : decide (0 < c2) = true := decide_eq_true h2
              go_enter Try.func5, Try.ntmps5
              go_wp2_with fail
              refine HF1.out.mono ?_
              rintro _ _ ⟨rfl, rfl⟩
              go_wp2_with fail
              refine HF2.out.mono ?_
              rintro _ _ ⟨rfl, rfl⟩
              go_wp2_with fail
              refine HN1.out.mono ?_
              rintro _ _ ⟨rfl, rfl⟩
              go_wp2_with fail
              refine HN2.out.mono ?_
              rintro _ _ ⟨rfl, rfl⟩
              go_wp2_with fail
              refine (T1.out _).mono ?_
              rintro _ v1 ⟨s4, A4, n4, a4, D4, m4, d4, rfl, qx0, bx0⟩
              go_wp2_with fail
              refine (T2.out _).mono ?_
              rintro _ v2 ⟨s5, A5, n5, a5, D5, m5, d5, rfl, qy0, by0⟩
              obtain ⟨V, hV, B1, B2, bv⟩ := boxes1 31 v2 #[.bool s4, .slice A4 n4 a4, .slice D4 m4 d4] #[.bool s5, .slice A5 n5 a5, .slice D5 m5 d5]
              have hb0 := bb bx0 (bb by0 bv)
              have qx := (qx0.below by0).below bv
              have qy := qy0.below bv
              have HS := Lib.hid (fun (w' : World) (hb : Below V.heap.size V w') => And.intro (B1.below' hb).three.1 (B2.below' hb).three.1)
              have HV := Lib.hid hV
              clear hV B1 B2 qx0 qy0 bx0 by0 bv T1 T2 HF1 HF2 HN1 HN2
              go_wp2_with fail
              rw [HV.out]
              clear HV
              have y0_0 : Below V.heap.size V V := Below.refl _ _
              obtain ⟨⟨k0_0_0_0, k0_0_0_1, k0_0_0_2⟩, ⟨k0_0_1_0, k0_0_1_1, k0_0_1_2⟩⟩ := HS.out _ y0_0
              go_region_held3 (fun w' => (w'.cell? ⟨v2.heap.size, 0, none⟩ = some (.bool s4) ∧ w'.cell? ⟨v2.heap.size, 1, none⟩ = some (.slice A4 n4 a4) ∧ w'.cell? ⟨v2.heap.size, 2, none⟩ = some (.slice D4 m4 d4)) ∧ (w'.cell? ⟨v2.heap.size + 1, 0, none⟩ = some (.bool s5) ∧ w'.cell? ⟨v2.heap.size + 1, 1, none⟩ = some (.slice A5 n5 a5) ∧ w'.cell? ⟨v2.heap.size + 1, 2, none⟩ = some (.slice D5 m5 d5))) (first | exact HS.out _ y0_0.drew | exact HS.out _ y0_4 | exact HS.out _ y0_3 | exact HS.out _ y0_2 | exact HS.out _ y0_1 | fail)
                (first
                  | (go_at_call 21; (with_reducible refine (ref_qadd ?hq1 ?hq2 zy zy (by omega)).mono ?_); (case hq1 => (have hh := qy; exact hh)); (case hq2 => (have hh := qy; exact hh)); rintro _ w1 ⟨rs1, rA1, rn1, rc1, rD1, rm1, rd1, rfl, u1, b1⟩; have b1 := Below.undrew b1; have y0_1 := bb y0_0 b1)
                  | (go_at_call 20; (with_reducible refine (ref_cmpE (qx.below y0_1) u1 zx zyy (by omega) c1 HE1.out).mono ?_); rintro _ w2 ⟨rfl, b2⟩; have y0_2 := bb y0_1 b2)
                  | (go_at_call 21; (with_reducible refine (ref_qadd (qx.below y0_2) (qx.below y0_2) zx zx (by omega)).mono ?_); rintro _ w3 ⟨rs3, rA3, rn3, rc3, rD3, rm3, rd3, rfl, u2, b3⟩; have y0_3 := bb y0_2 b3)
                  | (go_at_call 20; (with_reducible refine (ref_cmpE (qy.below y0_3) u2 zy zxx (by omega) c2 HE2.out).mono ?_); rintro _ w4 ⟨rfl, b4⟩; have y0_4 := bb y0_3 b4))
              obtain ⟨⟨k4_0_0_0, k4_0_0_1, k4_0_0_2⟩, ⟨k4_0_1_0, k4_0_1_1, k4_0_1_2⟩⟩ := HS.out _ y0_4
              go_wp2_with fail
              refine (same11 _).mono ?_
              rintro _ w5 ⟨rfl, b5⟩
              have y0_5 := bb y0_4 b5
              clear k4_0_0_0 k4_0_0_1 k4_0_0_2 k4_0_1_0 k4_0_1_1 k4_0_1_2
              obtain ⟨⟨k5_0_0_0, k5_0_0_1, k5_0_0_2⟩, ⟨k5_0_1_0, k5_0_1_1, k5_0_1_2⟩⟩ := HS.out _ y0_5
              go_wp2_with fail
              go_ret
              exact ⟨rfl, bb hb0 y0_5⟩
            · have d2 : decide (0 < c2) = false := decide_eq_false h2
              obtain ⟨hf, hD⟩ := HED.out (by omega) (by omega)
              have TD := Lib.hid (HTD.out hf)
              have zD := HZD.out hf
              have FD := HFD.out
              rw [decide_eq_true hf] at FD
              have HFD2 := Lib.hid FD
              have HD := Lib.hid hD
              clear HED HTD HZD HFD FD hf hD
              go_enter Try.func5, Try.ntmps5
              go_wp2_with fail
              refine HF1.out.mono ?_
              rintro _ _ ⟨rfl, rfl⟩
              go_wp2_with fail
              refine HF2.out.mono ?_
              rintro _ _ ⟨rfl, rfl⟩
              go_wp2_with fail
              refine HN1.out.mono ?_
              rintro _ _ ⟨rfl, rfl⟩
              go_wp2_with fail
              refine HN2.out.mono ?_
              rintro _ _ ⟨rfl, rfl⟩
              go_wp2_with fail
              refine (T1.out _).mono ?_
              rintro _ v1 ⟨s4, A4, n4, a4, D4, m4, d4, rfl, qx0, bx0⟩
              go_wp2_with fail
              refine (T2.out _).mono ?_
              rintro _ v2 ⟨s5, A5, n5, a5, D5, m5, d5, rfl, qy0, by0⟩
              obtain ⟨V, hV, B1, B2, bv⟩ := boxes1 31 v2 #[.bool s4, .slice A4 n4 a4, .slice D4 m4 d4] #[.bool s5, .slice A5 n5 a5, .slice D5 m5 d5]
              have hb0 := bb bx0 (bb by0 bv)
              have qx := (qx0.below by0).below bv
              have qy := qy0.below bv
              have HS := Lib.hid (fun (w' : World) (hb : Below V.heap.size V w') => And.intro (B1.below' hb).three.1 (B2.below' hb).three.1)
              have HV := Lib.hid hV
              clear hV B1 B2 qx0 qy0 bx0 by0 bv T1 T2 HF1 HF2 HN1 HN2
              go_wp2_with fail
              rw [HV.out]
              clear HV
              have y0_0 : Below V.heap.size V V := Below.refl _ _
              obtain ⟨⟨k0_0_0_0, k0_0_0_1, k0_0_0_2⟩, ⟨k0_0_1_0, k0_0_1_1, k0_0_1_2⟩⟩ := HS.out _ y0_0
              go_region_held3 (fun w' => (w'.cell? ⟨v2.heap.size, 0, none⟩ = some (.bool s4) ∧ w'.cell? ⟨v2.heap.size, 1, none⟩ = some (.slice A4 n4 a4) ∧ w'.cell? ⟨v2.heap.size, 2, none⟩ = some (.slice D4 m4 d4)) ∧ (w'.cell? ⟨v2.heap.size + 1, 0, none⟩ = some (.bool s5) ∧ w'.cell? ⟨v2.heap.size + 1, 1, none⟩ = some (.slice A5 n5 a5) ∧ w'.cell? ⟨v2.heap.size + 1, 2, none⟩ = some (.slice D5 m5 d5))) (first | exact HS.out _ y0_0.drew | exact HS.out _ y0_4 | exact HS.out _ y0_3 | exact HS.out _ y0_2 | exact HS.out _ y0_1 | fail)
                (first
                  | (go_at_call 21; (with_reducible refine (ref_qadd ?hq1 ?hq2 zy zy (by omega)).mono ?_); (case hq1 => (have hh := qy; exact hh)); (case hq2 => (have hh := qy; exact hh)); rintro _ w1 ⟨rs1, rA1, rn1, rc1, rD1, rm1, rd1, rfl, u1, b1⟩; have b1 := Below.undrew b1; have y0_1 := bb y0_0 b1)
                  | (go_at_call 20; (with_reducible refine (ref_cmpE (qx.below y0_1) u1 zx zyy (by omega) c1 HE1.out).mono ?_); rintro _ w2 ⟨rfl, b2⟩; have y0_2 := bb y0_1 b2)
                  | (go_at_call 21; (with_reducible refine (ref_qadd (qx.below y0_2) (qx.below y0_2) zx zx (by omega)).mono ?_); rintro _ w3 ⟨rs3, rA3, rn3, rc3, rD3, rm3, rd3, rfl, u2, b3⟩; have y0_3 := bb y0_2 b3)
                  | (go_at_call 20; (with_reducible refine (ref_cmpE (qy.below y0_3) u2 zy zxx (by omega) c2 HE2.out).mono ?_); rintro _ w4 ⟨rfl, b4⟩; have y0_4 := bb y0_3 b4))
              obtain ⟨⟨k4_0_0_0, k4_0_0_1, k4_0_0_2⟩, ⟨k4_0_1_0, k4_0_1_1, k4_0_1_2⟩⟩ := HS.out _ y0_4
              go_wp2_with fail
              refine (SUB.out _).mono ?_
              rintro _ w5 ⟨rfl, b5⟩
              have y0_5 := bb y0_4 b5
              clear k4_0_0_0 k4_0_0_1 k4_0_0_2 k4_0_1_0 k4_0_1_1 k4_0_1_2
              obtain ⟨⟨k5_0_0_0, k5_0_0_1, k5_0_0_2⟩, ⟨k5_0_1_0, k5_0_1_1, k5_0_1_2⟩⟩ := HS.out _ y0_5
              go_wp2_with fail
              go_region_held3 (fun w' => (w'.cell? ⟨v2.heap.size, 0, none⟩ = some (.bool s4) ∧ w'.cell? ⟨v2.heap.size, 1, none⟩ = some (.slice A4 n4 a4) ∧ w'.cell? ⟨v2.heap.size, 2, none⟩ = some (.slice D4 m4 d4)) ∧ (w'.cell? ⟨v2.heap.size + 1, 0, none⟩ = some (.bool s5) ∧ w'.cell? ⟨v2.heap.size + 1, 1, none⟩ = some (.slice A5 n5 a5) ∧ w'.cell? ⟨v2.heap.size + 1, 2, none⟩ = some (.slice D5 m5 d5))) (first | exact HS.out _ y0_5.drew | exact HS.out _ y0_9 | exact HS.out _ y0_8 | exact HS.out _ y0_7 | exact HS.out _ y0_6 | fail)
                (first
                  | (go_at_call 17; (with_reducible refine (HFD2.out _).mono ?_); rintro _ _ ⟨rfl, rfl⟩)
                  | (go_at_call 19; (with_reducible refine (TD.out _).mono ?_); rintro _ w6 ⟨rs6, rA6, rn6, rc6, rD6, rm6, rd6, rfl, u3, b6⟩; have b6 := Below.undrew b6; have y0_6 := bb y0_5 b6)
                  | (go_at_call 23; (with_reducible refine (ref_qsub (qx.below y0_6) (qy.below y0_6) zx zy (by omega)).mono ?_); rintro _ w7 ⟨rs7, rA7, rn7, rc7, rD7, rm7, rd7, rfl, u4, b7⟩; have y0_7 := bb y0_6 b7)
                  | (go_at_call 22; (with_reducible refine (ref_sameT (u3.below b7) u4 zD zd (by omega) HD.out).mono ?_); rintro _ w8 ⟨rfl, b8⟩; have y0_8 := bb y0_7 b8)
                  | (go_at_call 14; (with_reducible refine (same11 _).mono ?_); rintro _ w9 ⟨rfl, b9⟩; have y0_9 := bb y0_8 b9))
              obtain ⟨⟨k9_0_0_0, k9_0_0_1, k9_0_0_2⟩, ⟨k9_0_1_0, k9_0_1_1, k9_0_1_2⟩⟩ := HS.out _ y0_9
              go_wp2_with fail
              go_ret
              exact ⟨rfl, bb hb0 y0_9⟩

end Go.Proofs.Ytidjacgifdpcmaa
