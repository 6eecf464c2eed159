/-
  What inside, Place and At of package walk return. Conditions: the slices read as lists of ints.
-/
import Derived.Test.YthhmofmncjodfaaWaMath
import Derived.Test.YthhmofmncjodfaaShJ
namespace Go.Proofs.Ythhmofmncjodfaa
open Go.RowKit
set_option linter.unusedVariables false
set_option linter.unusedSimpArgs false

theorem inB_len {d a : List Int} (h : ¬ a.length = d.length) : inB d a = false := by
  rw [Bool.eq_false_iff]
  intro h9
  exact h ((inB_iff d a).1 h9).1
theorem inB_no {d a : List Int} {k : Nat} (hk : k < d.length) (h : ¬ (0 ≤ a.getD k 0 ∧ a.getD k 0 < d.getD k 0)) : inB d a = false := by
  rw [Bool.eq_false_iff]
  intro h9
  exact h (((inB_iff d a).1 h9).2 k hk)

set_option maxHeartbeats 1000000 in
theorem wa_inside {w : World} {A B : Option Addr} {n c m e : Nat} {d a : List Int} (h : SlZ w A n c d) (h' : SlZ w B m e a) : Calls Try.prog 46 #[.slice A n c, .slice B m e] w (Just (.bool (inB d a)) w) := by
  have hn := h.small
  have hm := h'.small
  have HL := Lib.hid h.len
  have HL' := Lib.hid h'.len
  by_cases hmn : m = n
  · subst hmn
    go_enter Try.func46, Try.ntmps46
    go_wp2_with fail
    go_loop [14] (fun iv => ∃ k : Nat, k ≤ m ∧ iv = .int .i64 k ∧ Hid (∀ j, j < k → 0 ≤ a.getD j 0 ∧ a.getD j 0 < d.getD j 0)) (fun iv => m - mes iv)
    case atStart => exact ⟨0, by omega, rfl, Lib.hid (fun j hj => by omega)⟩
    case round =>
      obtain ⟨k, hk, rfl, HP⟩ := hrel
      by_cases hk2 : k < m
      · obtain ⟨b, off, x, hx, rfl, hlt, hi, hc⟩ := h'.get hk2
        obtain ⟨b', off', y, hy, rfl, hlt', hi', hc'⟩ := h.get hk2
        have HX := Lib.hid hx
        have HY := Lib.hid hy
        clear hx hy
        by_cases hneg : x < 0
        · have hd : decide (x < 0) = true := by simpa using hneg
          have HF := Lib.hid (inB_no (a := a) (k := k) (by rw [HL.out]; exact hk2) (by rw [HX.out]; omega))
          go_wp2_with fail
          go_ret
          exact ⟨retB HF.out.symm, rfl⟩
        · have hd : decide (x < 0) = false := by simpa using hneg
          by_cases hbig : y ≤ x
          · have hd2 : decide (y ≤ x) = true := by simpa using hbig
            have HF := Lib.hid (inB_no (a := a) (k := k) (by rw [HL.out]; exact hk2) (by rw [HX.out, HY.out]; omega))
            go_wp2_with fail
            go_ret
            exact ⟨retB HF.out.symm, rfl⟩
          · have hd2 : decide (y ≤ x) = false := by simpa using hbig
            go_wp2_with fail
            go_round
            case rel =>
              refine ⟨k + 1, by omega, by go_num, Lib.hid (fun j hj => ?_)⟩
              rcases Nat.lt_or_ge j k with hl | hl
              · exact HP.out j hl
              · rw [show j = k by omega, HX.out, HY.out]; omega
            case measure => simp [mes, intOf]; omega
      · obtain rfl : k = m := by omega
        have HF := Lib.hid ((inB_iff d a).2 ⟨by rw [HL.out, HL'.out], fun i hi => HP.out i (by rw [HL.out] at hi; exact hi)⟩)
        go_wp2_with fail
        go_ret
        exact ⟨retB HF.out.symm, rfl⟩
  · have hne : decide (m = n) = false := by simpa using hmn
    have hne2 : ((m : Int) != (n : Int)) = true := by simp; omega
    have HF := Lib.hid (inB_len (d := d) (a := a) (by rw [HL.out, HL'.out]; exact hmn))
    clear hmn
    go_enter Try.func46, Try.ntmps46
    go_wp2_with fail
    go_ret
    exact ⟨retB HF.out.symm, rfl⟩

/-- an int and a truth -/
def RetIB (z : Int) (b : Bool) (w : World) (e : Ending) (w' : World) : Prop := e = .returned (.tuple #[.int .i64 z, .bool b]) ∧ Below w.heap.size w w'
/-- is it a place in valid dims, and which number has its element? -/
def plB (d a : List Int) : Bool := decide (chk d = 0) && inB d a
def plR (d a : List Int) : Int := if plB d a then (numN (nat_ d) (nat_ a) : Int) else 0
theorem plB_ok {d a : List Int} (h : plB d a = true) : chk d = 0 ∧ inB d a = true := by
  unfold plB at h
  rw [Bool.and_eq_true, decide_eq_true_eq] at h
  exact h
theorem plR_ok {d a : List Int} (h : plB d a = true) : plR d a = (numN (nat_ d) (nat_ a) : Int) := by unfold plR; rw [h]; rfl
theorem plR_no {d a : List Int} (h : plB d a = false) : plR d a = 0 := by unfold plR; rw [h]; rfl
theorem sumTo_next (ds us : List Nat) (k : Nat) : ((List.range (k + 1)).map fun i => us.getD i 0 * prodN (ds.drop (i + 1))).sum = ((List.range k).map fun i => us.getD i 0 * prodN (ds.drop (i + 1))).sum + us.getD k 0 * prodN (ds.drop (k + 1)) := by
  rw [List.range_succ, List.map_append, List.sum_append]
  simp
theorem nat_at {a : List Int} {i : Nat} (hi : i < a.length) : (nat_ a).getD i 0 = (a.getD i 0).toNat := by simp [nat_, hi]
theorem drop_prod {d : List Int} (hp : Pos1 d) (k : Nat) : (prodN ((nat_ d).drop k) : Int) = prodZ (d.drop k) := by rw [← nat_drop, prod_nat (hp.drop k)]

set_option maxRecDepth 100000 in
set_option maxHeartbeats 4000000 in
theorem wa_place {w : World} {A B : Option Addr} {n c m e : Nat} {d a : List Int} (h : SlZ w A n c d) (h' : SlZ w B m e a) : Calls Try.prog 34 #[.slice A n c, .slice B m e] w (RetIB (plR d a) (plB d a) w) := by
  have hn := h.small
  have CK := sh_check h
  have IN := wa_inside h h'
  have HL := Lib.hid h.len
  have HL' := Lib.hid h'.len
  by_cases h0 : chk d = 0
  · rw [h0] at CK
    have HC := Lib.hid CK
    have HV := Lib.hid (vd_of h0)
    clear CK
    cases hin : inB d a
    case false =>
      have hb : plB d a = false := by unfold plB; rw [hin, Bool.and_false]
      rw [hb, plR_no hb]
      rw [hin] at IN
      have HI := Lib.hid IN
      clear IN hin hb h0
      go_enter Try.func34, Try.ntmps34
      go_wp2_with fail
      refine HC.out.mono ?_
      rintro _ _ ⟨rfl, rfl⟩
      go_wp2_with fail
      refine HI.out.mono ?_
      rintro _ _ ⟨rfl, rfl⟩
      go_wp2_with fail
      go_ret2
      exact ⟨rfl, Below.refl _ _⟩
    case true =>
      have hb : plB d a = true := by unfold plB; rw [hin, decide_eq_true h0]; rfl
      rw [hb, plR_ok hb]
      rw [hin] at IN
      have HI := Lib.hid IN
      have ST := sh_steps h
      rw [stps_ok h0] at ST
      have HS := Lib.hid ST
      obtain ⟨hlen, hall⟩ := (inB_iff d a).1 hin
      have hval := (in_val (vd_of h0).pos hin).1
      have HALL := Lib.hid hall
      have HVAL := Lib.hid hval
      obtain ⟨N, hN⟩ : ∃ N, numN (nat_ d) (nat_ a) = N := ⟨_, rfl⟩
      have hN64 : N < 65 := by
        have h1 := numN_lt hval
        have h2 := prod_nat (vd_of h0).pos
        have h3 := (vd_of h0).prod
        omega
      have HN := Lib.hid hN
      obtain rfl : m = n := by rw [← HL'.out, hlen, HL.out]
      clear IN hin hb h0 ST hlen hall hval hN
      go_enter Try.func34, Try.ntmps34
      go_wp2_with fail
      refine HC.out.mono ?_
      rintro _ _ ⟨rfl, rfl⟩
      go_wp2_with fail
      refine HI.out.mono ?_
      rintro _ _ ⟨rfl, rfl⟩
      go_wp2_with fail
      refine HS.out.mono ?_
      rintro _ w1 ⟨A1, n1, c1, rfl, s1, _, b1⟩
      have hn1 : n1 = m := by rw [← s1.len, length_stepsZ, HL.out]
      subst n1
      have ha1 := h'.below b1
      clear HC HI HS
      go_wp2_with fail
      go_loop [6, 21] (fun v iv => ∃ (k : Nat) (z : Nat), k ≤ m ∧ iv = .int .i64 k ∧ v = .int .i64 z ∧ Hid (z = ((List.range k).map fun i => (nat_ a).getD i 0 * prodN ((nat_ d).drop (i + 1))).sum) ∧ z ≤ 65) (fun _ iv => m - mes iv)
      case atStart => exact ⟨0, 0, by omega, rfl, rfl, Lib.hid (by simp), by omega⟩
      case round =>
        obtain ⟨k, z, hk, rfl, rfl, HZ, hz⟩ := hrel
        by_cases hk2 : k < m
        · obtain ⟨g1, o1, x, hx, rfl, _, hi, k1⟩ := ha1.get hk2
          obtain ⟨g2, o2, y, hy, rfl, _, _, k2⟩ := s1.get hk2
          have h2 := HALL.out k (by rw [HL.out]; exact hk2)
          rw [hx] at h2
          rw [stepsZ_at (by rw [HL.out]; exact hk2)] at hy
          have hp := drop_prod HV.out.pos (k + 1)
          rw [hy] at hp
          have hto := @numN_to (nat_ d) (nat_ a) (by rw [length_nat, length_nat, HL.out, HL'.out]) (k + 1) (by rw [length_nat, HL.out]; exact hk2)
          rw [sumTo_next, ← HZ.out, HN.out, nat_at (by rw [HL'.out]; exact hk2), hx] at hto
          have hst : z + x.toNat * prodN ((nat_ d).drop (k + 1)) = ((List.range (k + 1)).map fun i => (nat_ a).getD i 0 * prodN ((nat_ d).drop (i + 1))).sum := by
            rw [sumTo_next, ← HZ.out, nat_at (by rw [HL'.out]; exact hk2), hx]
          generalize prodN ((nat_ d).drop (k + 1)) = q at hp hto hst
          obtain ⟨t, rfl⟩ : ∃ t : Nat, x = (t : Int) := ⟨x.toNat, by omega⟩
          rw [Int.toNat_natCast] at hto hst
          subst hp
          obtain ⟨tq, htq⟩ : ∃ tq, t * q = tq := ⟨_, rfl⟩
          rw [htq] at hto hst
          have e1 : (t : Int) * (q : Int) = (tq : Int) := by rw [← htq, Int.natCast_mul]
          have hs65 : z + tq ≤ 65 := by omega
          have HST := Lib.hid hst
          have HYH := Lib.hid hy
          clear hst hy hx hto htq h2
          go_wp2_with fail
          go_round
          case rel => exact ⟨k + 1, z + tq, by omega, by go_num, by go_num, HST, hs65⟩
          case measure => simp [mes, intOf]; omega
        · obtain rfl : k = m := by omega
          have hto := @numN_to (nat_ d) (nat_ a) (by rw [length_nat, length_nat, HL.out, HL'.out]) k (by rw [length_nat, HL.out]; exact Nat.le_refl _)
          rw [← HZ.out, List.drop_eq_nil_of_le (by rw [length_nat, HL.out]; exact Nat.le_refl _), HN.out] at hto
          simp only [numN, Nat.add_zero] at hto
          have HT := Lib.hid hto
          clear hto HZ
          go_wp2_with fail
          go_ret2
          rw [HN.out, HT.out]
          exact ⟨rfl, b1⟩
  · have hz : (chk d != 0) = true := by simpa using h0
    have hb : plB d a = false := by unfold plB; rw [decide_eq_false h0, Bool.false_and]
    rw [hb, plR_no hb]
    have HC := Lib.hid CK
    clear CK h0 IN hb
    go_enter Try.func34, Try.ntmps34
    go_wp2_with fail
    refine HC.out.mono ?_
    rintro _ _ ⟨rfl, rfl⟩
    go_wp2_with fail
    go_ret2
    exact ⟨rfl, Below.refl _ _⟩

end Go.Proofs.Ythhmofmncjodfaa
