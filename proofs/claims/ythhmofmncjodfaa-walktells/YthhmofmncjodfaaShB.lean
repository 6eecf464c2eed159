/-
  What Check and Count of package shape, and of the document's answer, return for any dims. Conditions: the slices read as lists of ints.
-/
import Derived.Test.YthhmofmncjodfaaShA
namespace Go.Proofs.Ythhmofmncjodfaa
open Go.RowKit
set_option linter.unusedVariables false
set_option linter.unusedSimpArgs false

theorem pv_no {d : List Int} (h : 64 < prodZ d) : pv d = .tuple #[.int .i64 0, .bool false] := by unfold pv; rw [if_pos h]
theorem pv_ok {d : List Int} (h : ¬ 64 < prodZ d) : pv d = .tuple #[.int .i64 (prodZ d), .bool true] := by unfold pv; rw [if_neg h]
/-- all of the first k dims are at least 1 -/
def PosTo (d : List Int) (k : Nat) : Prop := ∀ j, j < k → 1 ≤ d.getD j 0
theorem PosTo.step {d : List Int} {k : Nat} (h : PosTo d k) (h1 : 1 ≤ d.getD k 0) : PosTo d (k + 1) := fun j hj => by
  rcases Nat.lt_or_ge j k with hl | hl
  · exact h j hl
  · rw [show j = k by omega]; exact h1

set_option maxHeartbeats 1000000 in
theorem sh_check {w : World} {A : Option Addr} {n c : Nat} {d : List Int} (h : SlZ w A n c d) : Calls Try.prog 12 #[.slice A n c] w (Just (.int .i64 (chk d)) w) := by
  have hn := h.small
  have HL := Lib.hid h.len
  by_cases h6 : 6 < n
  · have hg : decide (6 < n) = true := by simpa using h6
    have HK := Lib.hid (chk_rank (d := d) (by rw [HL.out]; exact h6))
    go_enter Try.func12, Try.ntmps12
    go_wp2_with fail
    go_ret
    exact ⟨ret1 HK.out.symm, rfl⟩
  · have hg : decide (6 < n) = false := by simpa using h6
    go_enter Try.func12, Try.ntmps12
    go_wp2_with fail
    go_loop [12] (fun iv => ∃ k : Nat, k ≤ n ∧ iv = .int .i64 k ∧ Hid (PosTo d k)) (fun iv => n - mes iv)
    case atStart => exact ⟨0, by omega, rfl, Lib.hid (fun j hj => by omega)⟩
    case round =>
      obtain ⟨k, hk, rfl, HP⟩ := hrel
      by_cases hk2 : k < n
      · obtain ⟨b, off, x, hx, rfl, hlt, hi, hc⟩ := h.get hk2
        have HX := Lib.hid hx
        clear hx
        by_cases h1 : x < 1
        · have HK := Lib.hid (chk_shape (d := d) (by rw [HL.out]; exact h6) (pos1_no (k := k) (by rw [HL.out]; exact hk2) (by rw [HX.out]; exact h1)))
          go_wp2_with fail
          go_ret
          exact ⟨ret1 HK.out.symm, rfl⟩
        · go_wp2_with fail
          go_round
          case rel => exact ⟨k + 1, by omega, by go_num, Lib.hid (HP.out.step (by rw [HX.out]; omega))⟩
          case measure => simp [mes, intOf]; omega
      · obtain rfl : k = n := by omega
        have hp : pos1 d = true := pos1_of (fun j hj => HP.out j (by rw [← HL.out]; exact hj))
        have P := sh_product h ((pos1_iff d).1 hp)
        by_cases hm : 64 < prodZ d
        · rw [pv_no hm] at P
          have HK := Lib.hid (chk_many (d := d) (by rw [HL.out]; exact h6) hp hm)
          have HPr := Lib.hid P
          clear P hp hm
          go_wp2_with fail
          refine HPr.out.mono ?_
          rintro _ _ ⟨rfl, rfl⟩
          go_wp2_with fail
          go_ret
          exact ⟨ret1 HK.out.symm, rfl⟩
        · rw [pv_ok hm] at P
          have HK := Lib.hid (chk_ok (d := d) (by rw [HL.out]; exact h6) hp hm)
          have HPr := Lib.hid P
          clear P hp hm
          go_wp2_with fail
          refine HPr.out.mono ?_
          rintro _ _ ⟨rfl, rfl⟩
          go_wp2_with fail
          go_ret
          exact ⟨ret1 HK.out.symm, rfl⟩

set_option maxHeartbeats 1000000 in
theorem sh_count {w : World} {A : Option Addr} {n c : Nat} {d : List Int} (h : SlZ w A n c d) : Calls Try.prog 14 #[.slice A n c] w (Just (.int .i64 (cntZ d)) w) := by
  have CK := sh_check h
  by_cases h0 : chk d = 0
  · have hv := vd_of h0
    have P := sh_product h hv.pos
    rw [pv_ok (by have := hv.prod; omega)] at P
    have HE := Lib.hid (cntZ_ok h0)
    rw [h0] at CK
    have HC := Lib.hid CK
    have HP := Lib.hid P
    clear h0 hv P CK
    go_enter Try.func14, Try.ntmps14
    go_wp2_with fail
    refine HC.out.mono ?_
    rintro _ _ ⟨rfl, rfl⟩
    go_wp2_with fail
    refine HP.out.mono ?_
    rintro _ _ ⟨rfl, rfl⟩
    go_wp2_with fail
    go_ret
    exact ⟨ret1 HE.out.symm, rfl⟩
  · have HE := Lib.hid (cntZ_no h0)
    have hz : (chk d != 0) = true := by simpa using h0
    have HC := Lib.hid CK
    clear h0 CK
    go_enter Try.func14, Try.ntmps14
    go_wp2_with fail
    refine HC.out.mono ?_
    rintro _ _ ⟨rfl, rfl⟩
    go_wp2_with fail
    go_ret
    exact ⟨ret1 HE.out.symm, rfl⟩

theorem prodZ_big {d : List Int} {k : Nat} (hp : Pos1 d) (hk : k < d.length) {p : Int} (hP : p = prodZ (d.take k)) (hp1 : 1 ≤ p) (h : 64 < d.getD k 0 ∨ 64 < p * d.getD k 0) : 64 < prodZ d := by
  have h1 := prodZ_take hk
  have h2 := prodZ_take_le hp (k + 1)
  have h3 := (mul_ge_one hp1 (hp.at hk)).2.2
  rw [← hP] at h1
  omega

set_option maxHeartbeats 2000000 in
theorem ref_check19 {w : World} {A : Option Addr} {n c : Nat} {d : List Int} (h : SlZ w A n c d) : Calls Try.prog 13 #[.slice A n c] w (Just (.int .i64 (chk d)) w) := by
  have hn := h.small
  have HL := Lib.hid h.len
  by_cases h6 : 6 < n
  · have hg : decide (6 < n) = true := by simpa using h6
    have HK := Lib.hid (chk_rank (d := d) (by rw [HL.out]; exact h6))
    go_enter Try.func13, Try.ntmps13
    go_wp2_with fail
    go_ret
    exact ⟨ret1 HK.out.symm, rfl⟩
  · have hg : decide (6 < n) = false := by simpa using h6
    go_enter Try.func13, Try.ntmps13
    go_wp2_with fail
    go_loop [11] (fun iv => ∃ k : Nat, k ≤ n ∧ iv = .int .i64 k ∧ Hid (PosTo d k)) (fun iv => n - mes iv)
    case atStart => exact ⟨0, by omega, rfl, Lib.hid (fun j hj => by omega)⟩
    case round =>
      obtain ⟨k, hk, rfl, HP⟩ := hrel
      by_cases hk2 : k < n
      · obtain ⟨b, off, x, hx, rfl, hlt, hi, hc⟩ := h.get hk2
        have HX := Lib.hid hx
        clear hx
        by_cases h1 : x < 1
        · have HK := Lib.hid (chk_shape (d := d) (by rw [HL.out]; exact h6) (pos1_no (k := k) (by rw [HL.out]; exact hk2) (by rw [HX.out]; exact h1)))
          go_wp2_with fail
          go_ret
          exact ⟨ret1 HK.out.symm, rfl⟩
        · go_wp2_with fail
          go_round
          case rel => exact ⟨k + 1, by omega, by go_num, Lib.hid (HP.out.step (by rw [HX.out]; omega))⟩
          case measure => simp [mes, intOf]; omega
      · obtain rfl : k = n := by omega
        have HPos := Lib.hid (pos1_of (d := d) (fun j hj => HP.out j (by rw [← HL.out]; exact hj)))
        clear HP
        go_wp2_with fail
        go_loop [4, 22] (fun pv iv => ∃ (i : Nat) (p : Int), i ≤ k ∧ iv = .int .i64 i ∧ pv = .int .i64 p ∧ 1 ≤ p ∧ p ≤ 64 ∧ Hid (p = prodZ (d.take i))) (fun _ iv => k - mes iv)
        case atStart => exact ⟨0, 1, by omega, rfl, rfl, by omega, by omega, Lib.hid (by simp [prodZ])⟩
        case round =>
          obtain ⟨i, p, hi, rfl, rfl, hp1, hp2, HQ⟩ := hrel
          have hp := (pos1_iff d).1 HPos.out
          by_cases hk2 : i < k
          · obtain ⟨b, off, x, hx, rfl, hlt, hi, hc⟩ := h.get hk2
            have hx1 : 1 ≤ x := by rw [← hx]; exact hp.at (by rw [HL.out]; exact hk2)
            have hs : prodZ (d.take (i + 1)) = p * x := by rw [prodZ_take (by rw [HL.out]; exact hk2), HQ.out, hx]
            have HS := Lib.hid hs
            have hbig := prodZ_big hp (by rw [HL.out]; exact hk2) HQ.out hp1
            rw [hx] at hbig
            have HB := Lib.hid hbig
            have hge := (mul_ge_one hp1 hx1).1
            clear hs hx hbig hp
            by_cases h64 : 64 < x
            · have HK := Lib.hid (chk_many (d := d) (by rw [HL.out]; exact h6) HPos.out (HB.out (.inl h64)))
              go_wp2_with fail
              go_ret
              exact ⟨ret1 HK.out.symm, rfl⟩
            · have hm1 : p * x ≤ 4096 := by
                have h1 : p * x ≤ 64 * x := Int.mul_le_mul_of_nonneg_right hp2 (by omega)
                omega
              by_cases hm : 64 < p * x
              · have HK := Lib.hid (chk_many (d := d) (by rw [HL.out]; exact h6) HPos.out (HB.out (.inr hm)))
                go_wp2_with fail
                go_ret
                exact ⟨ret1 HK.out.symm, rfl⟩
              · go_wp2_with fail
                go_round
                case rel => exact ⟨i + 1, p * x, by omega, by go_num, rfl, hge, by omega, Lib.hid HS.out.symm⟩
                case measure => simp [mes, intOf]; omega
          · obtain rfl : i = k := by omega
            have ht : d.take i = d := List.take_of_length_le (by rw [HL.out]; exact Nat.le_refl _)
            have hP := HQ.out
            rw [ht] at hP
            have HK := Lib.hid (chk_ok (d := d) (by rw [HL.out]; exact h6) HPos.out (by omega))
            clear ht hP HQ hp
            go_wp2_with fail
            go_ret
            exact ⟨ret1 HK.out.symm, rfl⟩

set_option maxHeartbeats 1000000 in
theorem ref_count19 {w : World} {A : Option Addr} {n c : Nat} {d : List Int} (h : SlZ w A n c d) : Calls Try.prog 15 #[.slice A n c] w (Just (.int .i64 (cntZ d)) w) := by
  have hn := h.small
  have HL := Lib.hid h.len
  have CK := ref_check19 h
  by_cases h0 : chk d = 0
  · have HV := Lib.hid (vd_of h0)
    have HE := Lib.hid (cntZ_ok h0)
    rw [h0] at CK
    have HC := Lib.hid CK
    clear h0 CK
    go_enter Try.func15, Try.ntmps15
    go_wp2_with fail
    refine HC.out.mono ?_
    rintro _ _ ⟨rfl, rfl⟩
    go_wp2_with fail
    go_loop [3, 10] (fun pv iv => ∃ (i : Nat) (p : Int), i ≤ n ∧ iv = .int .i64 i ∧ pv = .int .i64 p ∧ 1 ≤ p ∧ p ≤ 64 ∧ Hid (p = prodZ (d.take i))) (fun _ iv => n - mes iv)
    case atStart => exact ⟨0, 1, by omega, rfl, rfl, by omega, by omega, Lib.hid (by simp [prodZ])⟩
    case round =>
      obtain ⟨i, p, hi, rfl, rfl, hp1, hp2, HQ⟩ := hrel
      by_cases hk2 : i < n
      · obtain ⟨b, off, x, hx, rfl, hlt, hi, hc⟩ := h.get hk2
        have hx1 : 1 ≤ x := by rw [← hx]; exact HV.out.pos.at (by rw [HL.out]; exact hk2)
        have hs : prodZ (d.take (i + 1)) = p * x := by rw [prodZ_take (by rw [HL.out]; exact hk2), HQ.out, hx]
        have hle := prodZ_take_le HV.out.pos (i + 1)
        rw [hs] at hle
        have hge := (mul_ge_one hp1 hx1).1
        have hv := HV.out.prod
        have HS := Lib.hid hs
        have hm1 : p * x ≤ 64 := by omega
        clear hs hx hle hv
        go_wp2_with fail
        go_round
        case rel => exact ⟨i + 1, p * x, by omega, by go_num, rfl, hge, by omega, Lib.hid HS.out.symm⟩
        case measure => simp [mes, intOf]; omega
      · obtain rfl : i = n := by omega
        have ht : d.take i = d := List.take_of_length_le (by rw [HL.out]; exact Nat.le_refl _)
        have hP := HQ.out
        rw [ht] at hP
        have HK := Lib.hid hP
        clear ht hP HQ
        go_wp2_with fail
        go_ret
        exact ⟨ret1 (by rw [HK.out, HE.out]), rfl⟩
  · have HE := Lib.hid (cntZ_no h0)
    have hz : (chk d != 0) = true := by simpa using h0
    have HC := Lib.hid CK
    clear h0 CK
    go_enter Try.func15, Try.ntmps15
    go_wp2_with fail
    refine HC.out.mono ?_
    rintro _ _ ⟨rfl, rfl⟩
    go_wp2_with fail
    go_ret
    exact ⟨ret1 HE.out.symm, rfl⟩

end Go.Proofs.Ythhmofmncjodfaa
