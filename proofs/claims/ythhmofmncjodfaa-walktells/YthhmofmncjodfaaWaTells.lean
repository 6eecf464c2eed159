/-
  The law WalkTells: places by number, numbers by place, the next place, all places. Conditions: the slices read as lists of ints.
-/
import Derived.Test.YthhmofmncjodfaaWaG
import Derived.Test.YthhmofmncjodfaaWaBack
namespace Go.Proofs.Ythhmofmncjodfaa
open Go.RowKit
set_option linter.unusedVariables false
set_option linter.unusedSimpArgs false

/-- the number of the element at a place, or -1 -/
def refP (d a : List Int) : Int := if plB d a then plR d a else -1
theorem plc_of {d a : List Int} (h : plB d a = true) : ∃ k, k < nE d ∧ plc d k = a ∧ plR d a = k := by
  obtain ⟨h0, h1⟩ := plB_ok h
  have hv := vd_of h0
  obtain ⟨h2, h3⟩ := in_val hv.pos h1
  have h4 := numN_lt h2
  have hn : nE d = prodN (nat_ d) := by have := prod_nat hv.pos; unfold nE; rw [cntZ_ok h0]; omega
  refine ⟨numN (nat_ d) (nat_ a), by omega, ?_, plR_ok h⟩
  unfold plc
  rw [place_num h2, h3]
theorem refP_at {d : List Int} {k : Nat} (h : k < nE d) : refP d (plc d k) = k := by
  obtain ⟨h1, h2⟩ := plc_place h
  unfold refP
  rw [h1, h2]
  rfl
theorem refP_none {d a : List Int} (h : ∀ k, k < nE d → plc d k ≠ a) : refP d a = -1 := by
  unfold refP
  cases hp : plB d a
  · rfl
  · obtain ⟨k, h1, h2, _⟩ := plc_of hp
    exact absurd h2 (h k h1)
theorem plcs_at {d : List Int} {k : Nat} (h : k < nE d) : (plcs d)[k]? = some (plc d k) := by simp [plcs, h]
theorem sll_at {w : World} {A : Option Addr} {n c : Nat} {xs : List ZS} {d : List Int} (h : SlL w A n c xs) (hz : xs.map ZS.z = plcs d) {j : Nat} (hj : j < nE d) :
    ∃ (b off : Nat) (x : ZS), A = some ⟨b, off, none⟩ ∧ b < w.heap.size ∧ SlZ w x.A x.n x.c (plc d j) ∧ w.cell? ⟨b, off + j, none⟩ = some (.slice x.A x.n x.c) := by
  have hl : n = nE d := by rw [← h.len, ← plcs_len, ← hz, List.length_map]
  obtain ⟨b, off, x, hx, e, hlt, hok, hc⟩ := h.get (j := j) (by omega)
  have h1 : (xs.map ZS.z)[j]? = some x.z := by rw [List.getElem?_map, hx]; rfl
  rw [hz, plcs_at hj] at h1
  injection h1 with h1
  have := hok.1
  rw [← h1] at this
  exact ⟨b, off, x, e, hlt, this, hc⟩
theorem sll_n {w : World} {A : Option Addr} {n c : Nat} {xs : List ZS} {d : List Int} (h : SlL w A n c xs) (hz : xs.map ZS.z = plcs d) : n = nE d := by rw [← h.len, ← plcs_len, ← hz, List.length_map]

set_option maxRecDepth 100000 in
set_option maxHeartbeats 2000000 in
theorem ref_place20 {w : World} {A B : Option Addr} {n c m e : Nat} {d a : List Int} (h : SlZ w A n c d) (h' : SlZ w B m e a) : Calls Try.prog 36 #[.slice A n c, .slice B m e] w (RetI (refP d a) w) := by
  have AL := Lib.hid (ref_all20 h)
  have hne := nE_le d
  go_enter Try.func36, Try.ntmps36
  go_wp2_with fail
  refine AL.out.mono ?_
  rintro _ w1 ⟨A1, n1, c1, xs, rfl, hl, hz, _, b1⟩
  have hn1 := sll_n hl hz
  subst n1
  have HLL := Lib.hid hl
  have HZ := Lib.hid hz
  clear hl hz AL
  go_wp2_with fail
  go_loopw [11] (fun iv wr => ∃ k : Nat, k ≤ nE d ∧ iv = .int .i64 k ∧ Hid (∀ j, j < k → plc d j ≠ a) ∧ Below w1.heap.size w1 wr) (fun iv _ => nE d - mes iv)
  case atStart => exact ⟨0, by omega, rfl, Lib.hid (fun j hj => by omega), Below.refl _ _⟩
  case round =>
    obtain ⟨k, hk, rfl, HP, hb⟩ := hrel
    by_cases hk2 : k < nE d
    · obtain ⟨g, off, x, rfl, hlt, hxs, hxc⟩ := sll_at (HLL.out.below hb) HZ.out hk2
      have SM := ref_same19 hxs (h'.below (bb b1 hb))
      by_cases heq : plc d k = a
      · rw [decide_eq_true heq] at SM
        have HS := Lib.hid SM
        have HE := Lib.hid heq
        obtain ⟨xA, xn, xc, xz⟩ := x
        simp only at hxc HS
        clear SM heq hxs
        go_wp2_with fail
        refine HS.out.mono ?_
        rintro _ _ ⟨rfl, k1, rfl⟩
        go_wp2_with fail
        go_ret
        refine ⟨ret1 ?_, Below.drewN' (bb b1 hb) _⟩
        rw [← HE.out, refP_at hk2]
      · rw [decide_eq_false heq] at SM
        have HS := Lib.hid SM
        have HE := Lib.hid heq
        obtain ⟨xA, xn, xc, xz⟩ := x
        simp only at hxc HS
        clear SM heq hxs
        go_wp2_with fail
        refine HS.out.mono ?_
        rintro _ _ ⟨rfl, k1, rfl⟩
        go_wp2_with fail
        go_roundw
        case rel =>
          refine ⟨k + 1, by omega, by go_num, Lib.hid (fun j hj => ?_), Below.drewN' hb _⟩
          rcases Nat.lt_or_ge j k with h9 | h9
          · exact HP.out j h9
          · rw [show j = k by omega]; exact HE.out
        case measure => simp [mes, intOf]; omega
    · obtain rfl : k = nE d := by omega
      have HF := Lib.hid (refP_none HP.out)
      clear HP
      go_wp2_with fail
      go_ret
      exact ⟨ret1 HF.out.symm, bb b1 hb⟩

theorem atB_small {d : List Int} {t : Nat} : atB d (t : Int) = decide (t < nE d) := atB_nat d t
theorem atB_neg {d : List Int} {z : Int} (h : z < 0) : atB d z = false := atB_no (by omega)
theorem nx_no {d a : List Int} (h : plB d a = false) : nxB d a = false ∧ nxR d a = [] := by unfold nxB nxR; rw [h]; exact ⟨rfl, rfl⟩

set_option maxRecDepth 100000 in
set_option maxHeartbeats 8000000 in
theorem walkTells_walk (A : Option Addr) (n c : Nat) (d : List Int) (B : Option Addr) (m e : Nat) (a : List Int) (z : Int) (hz : (Lit.int .i64 z).wf = true) (w : World) (h : SlZ w A n c d) (h' : SlZ w B m e a) :
    Calls Try.prog 7 #[.slice A n c, .slice B m e, .int .i64 z] w (RetBl true w) := by
  have M := law_many19 (w := w) (A := A) (B := B) (c := c) (e := e) h.small h'.small
  generalize (decide (100 < n) || decide (100 < m)) = b at M
  have HM := Lib.hid M
  have HS := fun w1 (h9 : Below w.heap.size w w1) => Lib.hid (same20_from h9)
  clear M
  cases b
  case true =>
    go_enter Try.func7, Try.ntmps7
    go_wp2_with fail
    refine HM.out.mono ?_
    rintro _ _ ⟨rfl, rfl⟩
    go_wp2_with fail
    refine (HS _ (Below.refl _ _)).out.mono ?_
    rintro _ w2 ⟨rfl, hb⟩
    go_wp2_with fail
    go_ret
    exact ⟨rfl, hb⟩
  case false =>
    have R1 := Lib.hid (ref_all20 h)
    have R2 := Lib.hid (fun w1 (h9 : Below w.heap.size w w1) => wa_all (h.below h9))
    have T1 := Lib.hid (fun w1 (h9 : Below w.heap.size w w1) => wa_at (h.below h9) z)
    have T2 := Lib.hid (fun w1 (h9 : Below w.heap.size w w1) => wa_place (h.below h9) (h'.below h9))
    have T3 := Lib.hid (fun w1 (h9 : Below w.heap.size w w1) => wa_next (h.below h9) (h'.below h9))
    have T4 := Lib.hid (fun w1 (h9 : Below w.heap.size w w1) => ref_place20 (h.below h9) (h'.below h9))
    have hne := nE_le d
    obtain ⟨N, hN⟩ : ∃ N, nE d = N := ⟨_, rfl⟩
    have HNE := Lib.hid hN
    rw [hN] at hne
    have hNN : (N != N) = false := by simp
    have hNN2 : ((N : Int) != (N : Int)) = false := by simp
    clear hN
    go_enter Try.func7, Try.ntmps7
    go_wp2_with fail
    refine HM.out.mono ?_
    rintro _ _ ⟨rfl, rfl⟩
    go_wp2_with fail
    refine R1.out.mono ?_
    rintro _ w1 ⟨A1, n1, c1, xs, rfl, l1, z1, _, b1⟩
    have hn1 := sll_n l1 z1
    rw [HNE.out] at hn1
    subst n1
    have L1 := Lib.hid l1
    have Z1 := Lib.hid z1
    clear l1 z1 R1
    go_wp2_with fail
    refine (R2.out w1 b1).mono ?_
    rintro _ w2 ⟨A2, n2, c2, ys, rfl, l2, z2, _, b2⟩
    have hn2 := sll_n l2 z2
    rw [HNE.out] at hn2
    subst n2
    have B2 := bb b1 b2
    have L1' := Lib.hid (L1.out.below b2)
    have L2 := Lib.hid l2
    have Z2 := Lib.hid z2
    clear l2 z2 R2 L1 b1 b2
    go_wp2_with fail
    go_loopw [32] (fun iv wr => ∃ k : Nat, k ≤ N ∧ iv = .int .i64 k ∧ Below w2.heap.size w2 wr) (fun iv _ => N - mes iv)
    case atStart => exact ⟨0, by omega, rfl, Below.refl _ _⟩
    case round =>
      obtain ⟨k, hk, rfl, hb⟩ := hrel
      by_cases hk2 : k < N
      · obtain ⟨g1, o1, x, rfl, _, hx, hxc⟩ := sll_at (L1'.out.below hb) Z1.out (j := k) (by rw [HNE.out]; exact hk2)
        obtain ⟨g2, o2, y, rfl, _, hy, hyc⟩ := sll_at (L2.out.below hb) Z2.out (j := k) (by rw [HNE.out]; exact hk2)
        have HP := fun j => pl_ints (hy.drewN j) (hx.drewN j)
        simp only [decide_true] at HP
        obtain ⟨xA, xn, xc, xz⟩ := x
        obtain ⟨yA, yn, yc, yz⟩ := y
        simp only at HP hxc hyc
        have HPP := fun j => Lib.hid (HP j)
        clear HP hx hy
        go_wp2_with fail
        go_quiet ((go_at_call 16; exact quiet_justN (HPP _).out))
        all_goals (go_wp2_with fail)
        go_roundw
        case rel => exact ⟨k + 1, by omega, by go_num, Below.drewN' hb _⟩
        case measure => simp [mes, intOf]; omega
      · obtain rfl : k = N := by omega
        obtain ⟨w3, hw3⟩ : ∃ w3, w3 = wr := ⟨wr, rfl⟩
        subst hw3
        have B3 := bb B2 hb
        have L1 := Lib.hid (L1'.out.below hb)
        clear L1' L2 Z2 hb B2
        have TA := T1.out _ B3
        have TP := fun w9 (h9 : Below w3.heap.size w3 w9) => T2.out w9 (bb B3 h9)
        have TX := fun w9 (h9 : Below w3.heap.size w3 w9) => T3.out w9 (bb B3 h9)
        have TR := fun w9 (h9 : Below w3.heap.size w3 w9) => T4.out w9 (bb B3 h9)
        clear T1 T2 T3 T4
        by_cases hz0 : z < 0
        · skip
          cases hp : plB d a
          case false =>
            rw [atB_neg hz0, atR_no (atB_neg hz0)] at TA
            have dz : decide (0 ≤ z) = false := by rw [decide_eq_false_iff_not]; omega
            have hx9 := nx_no hp
            have hr9 : refP d a = -1 := by unfold refP; rw [hp]; rfl
            simp only [hp, plR_no hp] at TP
            simp only [hx9.1, hx9.2] at TX
            simp only [hr9] at TR
            clear hx9 hr9 hp
            have HTA := Lib.hid TA
            have HTP := Lib.hid TP
            have HTX := Lib.hid TX
            have HTR := Lib.hid TR
            clear TA TP TX TR
            go_wp2_with fail
            refine HTA.out.mono ?_
            rintro _ w4 ⟨A3, n3, c3, rfl, s3, _, _, b4⟩
            obtain rfl : n3 = 0 := by have := s3.len; exact this.symm
            have S3 := Lib.hid s3
            clear s3
            go_wp2_with fail
            refine (HTP.out w4 b4).mono ?_
            rintro _ w5 ⟨rfl, b5⟩
            have B5 := bb b4 b5
            have S3' := Lib.hid (S3.out.below b5)
            clear S3 b5
            go_wp2_with fail
            refine (HTX.out w5 B5).mono ?_
            rintro _ w6 ⟨A4, n4, c4, rfl, s4, _, _, b6⟩
            obtain rfl : n4 = 0 := by have := s4.len; exact this.symm
            have B6 := bb B5 b6
            have S3 := Lib.hid (S3'.out.below b6)
            have S4 := Lib.hid s4
            clear s4 S3' b6 B5
            go_wp2_with fail
            refine (HTR.out w6 B6).mono ?_
            rintro _ w7 ⟨rfl, b7⟩
            have B7 := bb B6 b7
            have S3' := Lib.hid (S3.out.below b7)
            have S4' := Lib.hid (S4.out.below b7)
            have L7 := Lib.hid (L1.out.below B7)
            have B9 := bb B3 B7
            clear S3 S4 L1 B6 b7 b4 HTA HTP HTX HTR
            clear L7 S3' S4'
            go_wp2_with fail
            have B10 := B9
            refine (HS _ B10).out.mono ?_
            rintro _ w9 ⟨rfl, b9⟩
            go_wp2_with fail
            go_ret
            exact ⟨rfl, b9⟩
          case true =>
            obtain ⟨j0, hj0, hja0, hjr0⟩ := plc_of hp
            rw [HNE.out] at hj0
            by_cases hlast0 : j0 + 1 < k
            · rw [atB_neg hz0, atR_no (atB_neg hz0)] at TA
              have dz : decide (0 ≤ z) = false := by rw [decide_eq_false_iff_not]; omega
              have hj : j0 < nE d := by rw [HNE.out]; exact hj0
              obtain ⟨j, hjj⟩ : ∃ j, j = j0 := ⟨j0, rfl⟩
              subst hjj
              have hja := hja0
              have hjr := hjr0
              have hx9 := nx_plc hj
              have hlast : _ := hlast0
              have hr9 := refP_at hj
              rw [hja] at hx9 hr9
              rw [HNE.out] at hj hx9
              simp only [hp, hjr] at TP
              rw [decide_eq_true hlast, atR_nat (by rw [HNE.out]; exact hlast)] at hx9
              simp only [hx9.1, hx9.2] at TX
              simp only [hr9] at TR
              have dj0 : decide ((j : Int) < 0) = false := by rw [decide_eq_false_iff_not]; omega
              have dj1 : decide ((j : Int) < (k : Int) - 1) = true := by rw [decide_eq_true_eq]; omega
              have djj : ((j : Int) != (j : Int)) = false := by simp
              have djk : (j != j) = false := by simp
              clear hx9 hr9 hp hja hjr
              have HTA := Lib.hid TA
              have HTP := Lib.hid TP
              have HTX := Lib.hid TX
              have HTR := Lib.hid TR
              clear TA TP TX TR
              go_wp2_with fail
              refine HTA.out.mono ?_
              rintro _ w4 ⟨A3, n3, c3, rfl, s3, _, _, b4⟩
              obtain rfl : n3 = 0 := by have := s3.len; exact this.symm
              have S3 := Lib.hid s3
              clear s3
              go_wp2_with fail
              refine (HTP.out w4 b4).mono ?_
              rintro _ w5 ⟨rfl, b5⟩
              have B5 := bb b4 b5
              have S3' := Lib.hid (S3.out.below b5)
              clear S3 b5
              go_wp2_with fail
              refine (HTX.out w5 B5).mono ?_
              rintro _ w6 ⟨A4, n4, c4, rfl, s4, _, _, b6⟩
              have B6 := bb B5 b6
              have S3 := Lib.hid (S3'.out.below b6)
              have S4 := Lib.hid s4
              clear s4 S3' b6 B5
              go_wp2_with fail
              refine (HTR.out w6 B6).mono ?_
              rintro _ w7 ⟨rfl, b7⟩
              have B7 := bb B6 b7
              have S3' := Lib.hid (S3.out.below b7)
              have S4' := Lib.hid (S4.out.below b7)
              have L7 := Lib.hid (L1.out.below B7)
              have B9 := bb B3 B7
              clear S3 S4 L1 B6 b7 b4 HTA HTP HTX HTR
              obtain ⟨g2, o2, y, e2, _, hy, hyc⟩ := sll_at L7.out Z1.out (j := j + 1) (by rw [HNE.out]; exact hlast)
              have P2 := fun q => pl_ints (S4'.out.drewN q) (hy.drewN q)
              simp only [decide_true] at P2
              obtain ⟨yA, yn, yc, yz⟩ := y
              simp only at P2 hyc
              have HP2 := Lib.hid P2
              clear P2 hy
              subst e2
              clear L7 S3' S4'
              go_wp2_with fail
              refine (HP2.out 0).mono ?_
              rintro _ _ ⟨rfl, q2, rfl⟩
              have B10 : Below w.heap.size w ((w7.drewN 0).drewN q2) := Below.drewN' (Below.drewN' B9 0) q2
              generalize (w7.drewN 0).drewN q2 = w8 at B10 ⊢
              go_wp2_with fail
              refine (HS _ B10).out.mono ?_
              rintro _ w9 ⟨rfl, b9⟩
              go_wp2_with fail
              go_ret
              exact ⟨rfl, b9⟩
            · rw [atB_neg hz0, atR_no (atB_neg hz0)] at TA
              have dz : decide (0 ≤ z) = false := by rw [decide_eq_false_iff_not]; omega
              have hj : j0 < nE d := by rw [HNE.out]; exact hj0
              obtain ⟨j, hjj⟩ : ∃ j, j = j0 := ⟨j0, rfl⟩
              subst hjj
              have hja := hja0
              have hjr := hjr0
              have hx9 := nx_plc hj
              have hlast : _ := hlast0
              have hr9 := refP_at hj
              rw [hja] at hx9 hr9
              rw [HNE.out] at hj hx9
              simp only [hp, hjr] at TP
              rw [decide_eq_false hlast, atR_no (by rw [atB_nat, HNE.out, decide_eq_false hlast])] at hx9
              simp only [hx9.1, hx9.2] at TX
              simp only [hr9] at TR
              have dj0 : decide ((j : Int) < 0) = false := by rw [decide_eq_false_iff_not]; omega
              have dj1 : decide ((j : Int) < (k : Int) - 1) = false := by rw [decide_eq_false_iff_not]; omega
              have djj : ((j : Int) != (j : Int)) = false := by simp
              have djk : (j != j) = false := by simp
              clear hx9 hr9 hp hja hjr
              have HTA := Lib.hid TA
              have HTP := Lib.hid TP
              have HTX := Lib.hid TX
              have HTR := Lib.hid TR
              clear TA TP TX TR
              go_wp2_with fail
              refine HTA.out.mono ?_
              rintro _ w4 ⟨A3, n3, c3, rfl, s3, _, _, b4⟩
              obtain rfl : n3 = 0 := by have := s3.len; exact this.symm
              have S3 := Lib.hid s3
              clear s3
              go_wp2_with fail
              refine (HTP.out w4 b4).mono ?_
              rintro _ w5 ⟨rfl, b5⟩
              have B5 := bb b4 b5
              have S3' := Lib.hid (S3.out.below b5)
              clear S3 b5
              go_wp2_with fail
              refine (HTX.out w5 B5).mono ?_
              rintro _ w6 ⟨A4, n4, c4, rfl, s4, _, _, b6⟩
              obtain rfl : n4 = 0 := by have := s4.len; exact this.symm
              have B6 := bb B5 b6
              have S3 := Lib.hid (S3'.out.below b6)
              have S4 := Lib.hid s4
              clear s4 S3' b6 B5
              go_wp2_with fail
              refine (HTR.out w6 B6).mono ?_
              rintro _ w7 ⟨rfl, b7⟩
              have B7 := bb B6 b7
              have S3' := Lib.hid (S3.out.below b7)
              have S4' := Lib.hid (S4.out.below b7)
              have L7 := Lib.hid (L1.out.below B7)
              have B9 := bb B3 B7
              clear S3 S4 L1 B6 b7 b4 HTA HTP HTX HTR
              clear L7 S3' S4'
              go_wp2_with fail
              have B10 := B9
              refine (HS _ B10).out.mono ?_
              rintro _ w9 ⟨rfl, b9⟩
              go_wp2_with fail
              go_ret
              exact ⟨rfl, b9⟩
        · obtain ⟨t, rfl⟩ : ∃ t : Nat, z = (t : Int) := ⟨z.toNat, by omega⟩
          by_cases hz1 : t < k
          · skip
            cases hp : plB d a
            case false =>
              have hb9 : atB d (t : Int) = true := by rw [atB_small, HNE.out, decide_eq_true hz1]
              rw [hb9, atR_nat (by rw [HNE.out]; exact hz1)] at TA
              have dz : decide (t < k) = true := decide_eq_true hz1
              clear hb9
              have hx9 := nx_no hp
              have hr9 : refP d a = -1 := by unfold refP; rw [hp]; rfl
              simp only [hp, plR_no hp] at TP
              simp only [hx9.1, hx9.2] at TX
              simp only [hr9] at TR
              clear hx9 hr9 hp
              have HTA := Lib.hid TA
              have HTP := Lib.hid TP
              have HTX := Lib.hid TX
              have HTR := Lib.hid TR
              clear TA TP TX TR
              go_wp2_with fail
              refine HTA.out.mono ?_
              rintro _ w4 ⟨A3, n3, c3, rfl, s3, _, _, b4⟩
              have S3 := Lib.hid s3
              clear s3
              go_wp2_with fail
              refine (HTP.out w4 b4).mono ?_
              rintro _ w5 ⟨rfl, b5⟩
              have B5 := bb b4 b5
              have S3' := Lib.hid (S3.out.below b5)
              clear S3 b5
              go_wp2_with fail
              refine (HTX.out w5 B5).mono ?_
              rintro _ w6 ⟨A4, n4, c4, rfl, s4, _, _, b6⟩
              obtain rfl : n4 = 0 := by have := s4.len; exact this.symm
              have B6 := bb B5 b6
              have S3 := Lib.hid (S3'.out.below b6)
              have S4 := Lib.hid s4
              clear s4 S3' b6 B5
              go_wp2_with fail
              refine (HTR.out w6 B6).mono ?_
              rintro _ w7 ⟨rfl, b7⟩
              have B7 := bb B6 b7
              have S3' := Lib.hid (S3.out.below b7)
              have S4' := Lib.hid (S4.out.below b7)
              have L7 := Lib.hid (L1.out.below B7)
              have B9 := bb B3 B7
              clear S3 S4 L1 B6 b7 b4 HTA HTP HTX HTR
              obtain ⟨g1, o1, x, e1, _, hx, hxc⟩ := sll_at L7.out Z1.out (j := t) (by rw [HNE.out]; exact hz1)
              have P1 := pl_ints S3'.out hx
              simp only [decide_true] at P1
              obtain ⟨xA, xn, xc, xz⟩ := x
              simp only at P1 hxc
              have HP1 := Lib.hid P1
              clear P1 hx
              subst e1
              clear L7 S3' S4'
              go_wp2_with fail
              refine HP1.out.mono ?_
              rintro _ _ ⟨rfl, q1, rfl⟩
              go_wp2_with fail
              have B10 : Below w.heap.size w (w7.drewN q1) := Below.drewN' B9 q1
              generalize w7.drewN q1 = w8 at B10 ⊢
              refine (HS _ B10).out.mono ?_
              rintro _ w9 ⟨rfl, b9⟩
              go_wp2_with fail
              go_ret
              exact ⟨rfl, b9⟩
            case true =>
              obtain ⟨j0, hj0, hja0, hjr0⟩ := plc_of hp
              rw [HNE.out] at hj0
              by_cases hlast0 : j0 + 1 < k
              · have hb9 : atB d (t : Int) = true := by rw [atB_small, HNE.out, decide_eq_true hz1]
                rw [hb9, atR_nat (by rw [HNE.out]; exact hz1)] at TA
                have dz : decide (t < k) = true := decide_eq_true hz1
                clear hb9
                have hj : j0 < nE d := by rw [HNE.out]; exact hj0
                obtain ⟨j, hjj⟩ : ∃ j, j = j0 := ⟨j0, rfl⟩
                subst hjj
                have hja := hja0
                have hjr := hjr0
                have hx9 := nx_plc hj
                have hlast : _ := hlast0
                have hr9 := refP_at hj
                rw [hja] at hx9 hr9
                rw [HNE.out] at hj hx9
                simp only [hp, hjr] at TP
                rw [decide_eq_true hlast, atR_nat (by rw [HNE.out]; exact hlast)] at hx9
                simp only [hx9.1, hx9.2] at TX
                simp only [hr9] at TR
                have dj0 : decide ((j : Int) < 0) = false := by rw [decide_eq_false_iff_not]; omega
                have dj1 : decide ((j : Int) < (k : Int) - 1) = true := by rw [decide_eq_true_eq]; omega
                have djj : ((j : Int) != (j : Int)) = false := by simp
                have djk : (j != j) = false := by simp
                clear hx9 hr9 hp hja hjr
                have HTA := Lib.hid TA
                have HTP := Lib.hid TP
                have HTX := Lib.hid TX
                have HTR := Lib.hid TR
                clear TA TP TX TR
                go_wp2_with fail
                refine HTA.out.mono ?_
                rintro _ w4 ⟨A3, n3, c3, rfl, s3, _, _, b4⟩
                have S3 := Lib.hid s3
                clear s3
                go_wp2_with fail
                refine (HTP.out w4 b4).mono ?_
                rintro _ w5 ⟨rfl, b5⟩
                have B5 := bb b4 b5
                have S3' := Lib.hid (S3.out.below b5)
                clear S3 b5
                go_wp2_with fail
                refine (HTX.out w5 B5).mono ?_
                rintro _ w6 ⟨A4, n4, c4, rfl, s4, _, _, b6⟩
                have B6 := bb B5 b6
                have S3 := Lib.hid (S3'.out.below b6)
                have S4 := Lib.hid s4
                clear s4 S3' b6 B5
                go_wp2_with fail
                refine (HTR.out w6 B6).mono ?_
                rintro _ w7 ⟨rfl, b7⟩
                have B7 := bb B6 b7
                have S3' := Lib.hid (S3.out.below b7)
                have S4' := Lib.hid (S4.out.below b7)
                have L7 := Lib.hid (L1.out.below B7)
                have B9 := bb B3 B7
                clear S3 S4 L1 B6 b7 b4 HTA HTP HTX HTR
                obtain ⟨g1, o1, x, e1, _, hx, hxc⟩ := sll_at L7.out Z1.out (j := t) (by rw [HNE.out]; exact hz1)
                have P1 := pl_ints S3'.out hx
                simp only [decide_true] at P1
                obtain ⟨xA, xn, xc, xz⟩ := x
                simp only at P1 hxc
                have HP1 := Lib.hid P1
                clear P1 hx
                obtain ⟨g2, o2, y, e2, _, hy, hyc⟩ := sll_at L7.out Z1.out (j := j + 1) (by rw [HNE.out]; exact hlast)
                have P2 := fun q => pl_ints (S4'.out.drewN q) (hy.drewN q)
                simp only [decide_true] at P2
                obtain ⟨yA, yn, yc, yz⟩ := y
                simp only at P2 hyc
                have HP2 := Lib.hid P2
                clear P2 hy
                rw [e1] at e2
                injection e2 with e2
                injection e2 with e3 e4
                subst e3 e4 e1
                clear L7 S3' S4'
                go_wp2_with fail
                refine HP1.out.mono ?_
                rintro _ _ ⟨rfl, q1, rfl⟩
                go_wp2_with fail
                refine (HP2.out q1).mono ?_
                rintro _ _ ⟨rfl, q2, rfl⟩
                have B10 : Below w.heap.size w ((w7.drewN q1).drewN q2) := Below.drewN' (Below.drewN' B9 q1) q2
                generalize (w7.drewN q1).drewN q2 = w8 at B10 ⊢
                go_wp2_with fail
                refine (HS _ B10).out.mono ?_
                rintro _ w9 ⟨rfl, b9⟩
                go_wp2_with fail
                go_ret
                exact ⟨rfl, b9⟩
              · have hb9 : atB d (t : Int) = true := by rw [atB_small, HNE.out, decide_eq_true hz1]
                rw [hb9, atR_nat (by rw [HNE.out]; exact hz1)] at TA
                have dz : decide (t < k) = true := decide_eq_true hz1
                clear hb9
                have hj : j0 < nE d := by rw [HNE.out]; exact hj0
                obtain ⟨j, hjj⟩ : ∃ j, j = j0 := ⟨j0, rfl⟩
                subst hjj
                have hja := hja0
                have hjr := hjr0
                have hx9 := nx_plc hj
                have hlast : _ := hlast0
                have hr9 := refP_at hj
                rw [hja] at hx9 hr9
                rw [HNE.out] at hj hx9
                simp only [hp, hjr] at TP
                rw [decide_eq_false hlast, atR_no (by rw [atB_nat, HNE.out, decide_eq_false hlast])] at hx9
                simp only [hx9.1, hx9.2] at TX
                simp only [hr9] at TR
                have dj0 : decide ((j : Int) < 0) = false := by rw [decide_eq_false_iff_not]; omega
                have dj1 : decide ((j : Int) < (k : Int) - 1) = false := by rw [decide_eq_false_iff_not]; omega
                have djj : ((j : Int) != (j : Int)) = false := by simp
                have djk : (j != j) = false := by simp
                clear hx9 hr9 hp hja hjr
                have HTA := Lib.hid TA
                have HTP := Lib.hid TP
                have HTX := Lib.hid TX
                have HTR := Lib.hid TR
                clear TA TP TX TR
                go_wp2_with fail
                refine HTA.out.mono ?_
                rintro _ w4 ⟨A3, n3, c3, rfl, s3, _, _, b4⟩
                have S3 := Lib.hid s3
                clear s3
                go_wp2_with fail
                refine (HTP.out w4 b4).mono ?_
                rintro _ w5 ⟨rfl, b5⟩
                have B5 := bb b4 b5
                have S3' := Lib.hid (S3.out.below b5)
                clear S3 b5
                go_wp2_with fail
                refine (HTX.out w5 B5).mono ?_
                rintro _ w6 ⟨A4, n4, c4, rfl, s4, _, _, b6⟩
                obtain rfl : n4 = 0 := by have := s4.len; exact this.symm
                have B6 := bb B5 b6
                have S3 := Lib.hid (S3'.out.below b6)
                have S4 := Lib.hid s4
                clear s4 S3' b6 B5
                go_wp2_with fail
                refine (HTR.out w6 B6).mono ?_
                rintro _ w7 ⟨rfl, b7⟩
                have B7 := bb B6 b7
                have S3' := Lib.hid (S3.out.below b7)
                have S4' := Lib.hid (S4.out.below b7)
                have L7 := Lib.hid (L1.out.below B7)
                have B9 := bb B3 B7
                clear S3 S4 L1 B6 b7 b4 HTA HTP HTX HTR
                obtain ⟨g1, o1, x, e1, _, hx, hxc⟩ := sll_at L7.out Z1.out (j := t) (by rw [HNE.out]; exact hz1)
                have P1 := pl_ints S3'.out hx
                simp only [decide_true] at P1
                obtain ⟨xA, xn, xc, xz⟩ := x
                simp only at P1 hxc
                have HP1 := Lib.hid P1
                clear P1 hx
                subst e1
                clear L7 S3' S4'
                go_wp2_with fail
                refine HP1.out.mono ?_
                rintro _ _ ⟨rfl, q1, rfl⟩
                go_wp2_with fail
                have B10 : Below w.heap.size w (w7.drewN q1) := Below.drewN' B9 q1
                generalize w7.drewN q1 = w8 at B10 ⊢
                refine (HS _ B10).out.mono ?_
                rintro _ w9 ⟨rfl, b9⟩
                go_wp2_with fail
                go_ret
                exact ⟨rfl, b9⟩
          · skip
            cases hp : plB d a
            case false =>
              have hb9 : atB d (t : Int) = false := by rw [atB_small, HNE.out, decide_eq_false hz1]
              rw [hb9, atR_no hb9] at TA
              have dz : decide (t < k) = false := decide_eq_false hz1
              clear hb9
              have hx9 := nx_no hp
              have hr9 : refP d a = -1 := by unfold refP; rw [hp]; rfl
              simp only [hp, plR_no hp] at TP
              simp only [hx9.1, hx9.2] at TX
              simp only [hr9] at TR
              clear hx9 hr9 hp
              have HTA := Lib.hid TA
              have HTP := Lib.hid TP
              have HTX := Lib.hid TX
              have HTR := Lib.hid TR
              clear TA TP TX TR
              go_wp2_with fail
              refine HTA.out.mono ?_
              rintro _ w4 ⟨A3, n3, c3, rfl, s3, _, _, b4⟩
              obtain rfl : n3 = 0 := by have := s3.len; exact this.symm
              have S3 := Lib.hid s3
              clear s3
              go_wp2_with fail
              refine (HTP.out w4 b4).mono ?_
              rintro _ w5 ⟨rfl, b5⟩
              have B5 := bb b4 b5
              have S3' := Lib.hid (S3.out.below b5)
              clear S3 b5
              go_wp2_with fail
              refine (HTX.out w5 B5).mono ?_
              rintro _ w6 ⟨A4, n4, c4, rfl, s4, _, _, b6⟩
              obtain rfl : n4 = 0 := by have := s4.len; exact this.symm
              have B6 := bb B5 b6
              have S3 := Lib.hid (S3'.out.below b6)
              have S4 := Lib.hid s4
              clear s4 S3' b6 B5
              go_wp2_with fail
              refine (HTR.out w6 B6).mono ?_
              rintro _ w7 ⟨rfl, b7⟩
              have B7 := bb B6 b7
              have S3' := Lib.hid (S3.out.below b7)
              have S4' := Lib.hid (S4.out.below b7)
              have L7 := Lib.hid (L1.out.below B7)
              have B9 := bb B3 B7
              clear S3 S4 L1 B6 b7 b4 HTA HTP HTX HTR
              clear L7 S3' S4'
              go_wp2_with fail
              have B10 := B9
              refine (HS _ B10).out.mono ?_
              rintro _ w9 ⟨rfl, b9⟩
              go_wp2_with fail
              go_ret
              exact ⟨rfl, b9⟩
            case true =>
              obtain ⟨j0, hj0, hja0, hjr0⟩ := plc_of hp
              rw [HNE.out] at hj0
              by_cases hlast0 : j0 + 1 < k
              · have hb9 : atB d (t : Int) = false := by rw [atB_small, HNE.out, decide_eq_false hz1]
                rw [hb9, atR_no hb9] at TA
                have dz : decide (t < k) = false := decide_eq_false hz1
                clear hb9
                have hj : j0 < nE d := by rw [HNE.out]; exact hj0
                obtain ⟨j, hjj⟩ : ∃ j, j = j0 := ⟨j0, rfl⟩
                subst hjj
                have hja := hja0
                have hjr := hjr0
                have hx9 := nx_plc hj
                have hlast : _ := hlast0
                have hr9 := refP_at hj
                rw [hja] at hx9 hr9
                rw [HNE.out] at hj hx9
                simp only [hp, hjr] at TP
                rw [decide_eq_true hlast, atR_nat (by rw [HNE.out]; exact hlast)] at hx9
                simp only [hx9.1, hx9.2] at TX
                simp only [hr9] at TR
                have dj0 : decide ((j : Int) < 0) = false := by rw [decide_eq_false_iff_not]; omega
                have dj1 : decide ((j : Int) < (k : Int) - 1) = true := by rw [decide_eq_true_eq]; omega
                have djj : ((j : Int) != (j : Int)) = false := by simp
                have djk : (j != j) = false := by simp
                clear hx9 hr9 hp hja hjr
                have HTA := Lib.hid TA
                have HTP := Lib.hid TP
                have HTX := Lib.hid TX
                have HTR := Lib.hid TR
                clear TA TP TX TR
                go_wp2_with fail
                refine HTA.out.mono ?_
                rintro _ w4 ⟨A3, n3, c3, rfl, s3, _, _, b4⟩
                obtain rfl : n3 = 0 := by have := s3.len; exact this.symm
                have S3 := Lib.hid s3
                clear s3
                go_wp2_with fail
                refine (HTP.out w4 b4).mono ?_
                rintro _ w5 ⟨rfl, b5⟩
                have B5 := bb b4 b5
                have S3' := Lib.hid (S3.out.below b5)
                clear S3 b5
                go_wp2_with fail
                refine (HTX.out w5 B5).mono ?_
                rintro _ w6 ⟨A4, n4, c4, rfl, s4, _, _, b6⟩
                have B6 := bb B5 b6
                have S3 := Lib.hid (S3'.out.below b6)
                have S4 := Lib.hid s4
                clear s4 S3' b6 B5
                go_wp2_with fail
                refine (HTR.out w6 B6).mono ?_
                rintro _ w7 ⟨rfl, b7⟩
                have B7 := bb B6 b7
                have S3' := Lib.hid (S3.out.below b7)
                have S4' := Lib.hid (S4.out.below b7)
                have L7 := Lib.hid (L1.out.below B7)
                have B9 := bb B3 B7
                clear S3 S4 L1 B6 b7 b4 HTA HTP HTX HTR
                obtain ⟨g2, o2, y, e2, _, hy, hyc⟩ := sll_at L7.out Z1.out (j := j + 1) (by rw [HNE.out]; exact hlast)
                have P2 := fun q => pl_ints (S4'.out.drewN q) (hy.drewN q)
                simp only [decide_true] at P2
                obtain ⟨yA, yn, yc, yz⟩ := y
                simp only at P2 hyc
                have HP2 := Lib.hid P2
                clear P2 hy
                subst e2
                clear L7 S3' S4'
                go_wp2_with fail
                refine (HP2.out 0).mono ?_
                rintro _ _ ⟨rfl, q2, rfl⟩
                have B10 : Below w.heap.size w ((w7.drewN 0).drewN q2) := Below.drewN' (Below.drewN' B9 0) q2
                generalize (w7.drewN 0).drewN q2 = w8 at B10 ⊢
                go_wp2_with fail
                refine (HS _ B10).out.mono ?_
                rintro _ w9 ⟨rfl, b9⟩
                go_wp2_with fail
                go_ret
                exact ⟨rfl, b9⟩
              · have hb9 : atB d (t : Int) = false := by rw [atB_small, HNE.out, decide_eq_false hz1]
                rw [hb9, atR_no hb9] at TA
                have dz : decide (t < k) = false := decide_eq_false hz1
                clear hb9
                have hj : j0 < nE d := by rw [HNE.out]; exact hj0
                obtain ⟨j, hjj⟩ : ∃ j, j = j0 := ⟨j0, rfl⟩
                subst hjj
                have hja := hja0
                have hjr := hjr0
                have hx9 := nx_plc hj
                have hlast : _ := hlast0
                have hr9 := refP_at hj
                rw [hja] at hx9 hr9
                rw [HNE.out] at hj hx9
                simp only [hp, hjr] at TP
                rw [decide_eq_false hlast, atR_no (by rw [atB_nat, HNE.out, decide_eq_false hlast])] at hx9
                simp only [hx9.1, hx9.2] at TX
                simp only [hr9] at TR
                have dj0 : decide ((j : Int) < 0) = false := by rw [decide_eq_false_iff_not]; omega
                have dj1 : decide ((j : Int) < (k : Int) - 1) = false := by rw [decide_eq_false_iff_not]; omega
                have djj : ((j : Int) != (j : Int)) = false := by simp
                have djk : (j != j) = false := by simp
                clear hx9 hr9 hp hja hjr
                have HTA := Lib.hid TA
                have HTP := Lib.hid TP
                have HTX := Lib.hid TX
                have HTR := Lib.hid TR
                clear TA TP TX TR
                go_wp2_with fail
                refine HTA.out.mono ?_
                rintro _ w4 ⟨A3, n3, c3, rfl, s3, _, _, b4⟩
                obtain rfl : n3 = 0 := by have := s3.len; exact this.symm
                have S3 := Lib.hid s3
                clear s3
                go_wp2_with fail
                refine (HTP.out w4 b4).mono ?_
                rintro _ w5 ⟨rfl, b5⟩
                have B5 := bb b4 b5
                have S3' := Lib.hid (S3.out.below b5)
                clear S3 b5
                go_wp2_with fail
                refine (HTX.out w5 B5).mono ?_
                rintro _ w6 ⟨A4, n4, c4, rfl, s4, _, _, b6⟩
                obtain rfl : n4 = 0 := by have := s4.len; exact this.symm
                have B6 := bb B5 b6
                have S3 := Lib.hid (S3'.out.below b6)
                have S4 := Lib.hid s4
                clear s4 S3' b6 B5
                go_wp2_with fail
                refine (HTR.out w6 B6).mono ?_
                rintro _ w7 ⟨rfl, b7⟩
                have B7 := bb B6 b7
                have S3' := Lib.hid (S3.out.below b7)
                have S4' := Lib.hid (S4.out.below b7)
                have L7 := Lib.hid (L1.out.below B7)
                have B9 := bb B3 B7
                clear S3 S4 L1 B6 b7 b4 HTA HTP HTX HTR
                clear L7 S3' S4'
                go_wp2_with fail
                have B10 := B9
                refine (HS _ B10).out.mono ?_
                rintro _ w9 ⟨rfl, b9⟩
                go_wp2_with fail
                go_ret
                exact ⟨rfl, b9⟩

end Go.Proofs.Ythhmofmncjodfaa
