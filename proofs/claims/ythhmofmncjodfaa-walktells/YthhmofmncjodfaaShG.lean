/-
  What Axes of the document returns, for any rank and any list. Conditions: the slice reads as a list of ints.
-/
import Derived.Test.YthhmofmncjodfaaShF
import Derived.Deep.QuietTactic
import Derived.BigQuiet
namespace Go.Proofs.Ythhmofmncjodfaa
open Go.RowKit
set_option linter.unusedVariables false
set_option linter.unusedSimpArgs false

theorem SlZ.take' {w : World} {b off n c k : Nat} {xs : List Int} (h : SlZ w (some ⟨b, off, none⟩) n c xs) (hk : k ≤ n) : SlZ w (some ⟨b, off, none⟩) k c (xs.take k) := h.take hk
theorem OwnC.retb {B : Nat} {w : World} {v : Value} {zs : List Bool} (h : OwnC 1 bc 4 B w v zs) : ∃ A n c, v = .slice A n c ∧ SlB w A n c zs := by
  obtain ⟨A, c, e, _, _⟩ := h.form
  subst e
  exact ⟨A, _, c, rfl, h.slc (ok := fun _ _ => True) (fun _ _ => trivial)⟩

set_option maxRecDepth 100000 in
set_option maxHeartbeats 400000 in
theorem ref_axes19 {w : World} {A : Option Addr} {n c : Nat} {l : List Int} (h : SlZ w A n c l) (r : Int) : Calls Try.prog 22 #[.int .i64 r, .slice A n c] w (RetBE (axR r l) (axE r l) w) := by
  have hn := h.small
  have HL := Lib.hid h.len
  by_cases hr : r < 0 ∨ 6 < r
  · have he := axE_rank l hr
    rw [axR_no (by rw [he]; decide), he]
    rcases hr with hr | hr
    · go_enter Try.func22, Try.ntmps22
      go_wp2_with fail
      go_ret2
      exact retBE_no _ (Below.refl _ _)
    · have hr0 : ¬ r < 0 := by omega
      go_enter Try.func22, Try.ntmps22
      go_wp2_with fail
      go_ret2
      exact retBE_no _ (Below.refl _ _)
  · obtain ⟨m, rfl⟩ : ∃ m : Nat, r = (m : Int) := ⟨r.toNat, by omega⟩
    have hm : m ≤ 6 := by omega
    clear hr
    go_enter Try.func22, Try.ntmps22
    go_wp2_with fail
    go_loopw [17] (fun iv wr => ∃ (k : Nat), k ≤ n ∧ iv = .int .i64 k ∧ Hid (AxTo m l k) ∧ Below w.heap.size w wr) (fun iv _ => n - mes iv)
    case atStart => exact ⟨0, by omega, rfl, Lib.hid (fun j hj => by omega), Below.refl _ _⟩
    case round =>
      obtain ⟨k, hk, rfl, HX, hb0⟩ := hrel
      have hr := h.below hb0
      by_cases hk2 : k < n
      · obtain ⟨b, off, x, hx, rfl, hlt, hi, hc⟩ := hr.get hk2
        have HXX := Lib.hid hx
        clear hx
        by_cases hneg : x < 0
        · have HE := Lib.hid (axE_bad hm (k := k) (by rw [HL.out]; exact hk2) (.inl (by rw [HXX.out]; omega)))
          go_wp2_with fail
          go_quiet ((fail))
          all_goals (go_wp2_with fail)
          go_ret2
          rw [axR_no (by rw [HE.out]; decide), HE.out]
          exact retBE_no _ (Below.drewN' hb0 _)
        · have d1 : decide (x < 0) = false := by simpa using hneg
          by_cases hbig : (m : Int) ≤ x
          · have d2 : decide ((m : Int) ≤ x) = true := by simpa using hbig
            have HE := Lib.hid (axE_bad hm (k := k) (by rw [HL.out]; exact hk2) (.inl (by rw [HXX.out]; omega)))
            go_wp2_with fail
            go_quiet ((fail))
            all_goals (go_wp2_with fail)
            go_ret2
            rw [axR_no (by rw [HE.out]; decide), HE.out]
            exact retBE_no _ (Below.drewN' hb0 _)
          · have d2 : decide ((m : Int) ≤ x) = false := by simpa using hbig
            have hs := hr.take (k := k) (by omega)
            obtain ⟨t, rfl⟩ : ∃ t : Nat, x = (t : Int) := ⟨x.toNat, by omega⟩
            have hkc : k ≤ c := by have := h.cap; omega
            have d3 : decide (m ≤ t) = false := by rw [decide_eq_false_iff_not]; omega
            by_cases hmem : (t : Int) ∈ l.take k
            · have HE := Lib.hid (axE_bad hm (k := k) (by rw [HL.out]; exact hk2) (.inr (by rw [HXX.out]; exact hmem)))
              have HS := fun (j : Nat) => Lib.hid (ref_has19 (w := wr.drewN j) (SlZ.drewN hs j) (t : Int))
              rw [decide_eq_true hmem] at HS
              clear hmem
              go_wp2_with fail
              go_quiet ((go_at_call 43; exact quiet_just (HS _).out))
              all_goals (go_wp2_with fail)
              go_ret2
              rw [axR_no (by rw [HE.out]; decide), HE.out]
              exact retBE_no _ (Below.drewN' hb0 _)
            · have HS := fun (j : Nat) => Lib.hid (ref_has19 (w := wr.drewN j) (SlZ.drewN hs j) (t : Int))
              rw [decide_eq_false hmem] at HS
              have HMEM := Lib.hid hmem
              clear hmem
              go_wp2_with fail
              go_quiet ((go_at_call 43; exact quiet_just (HS _).out))
              all_goals (go_wp2_with fail)
              go_roundw
              case rel => exact ⟨k + 1, by omega, by go_num, Lib.hid (HX.out.step (by rw [HXX.out]; omega) (by rw [HXX.out]; exact HMEM.out)), Below.drewN' hb0 _⟩
              case measure => simp [mes, intOf]; omega
      · obtain rfl : k = n := by omega
        have hX := HX.out
        have HX2 := Lib.hid (show AxTo m l l.length by rw [HL.out]; exact hX)
        have HE := Lib.hid (axE_ok hm HX2.out)
        clear hX HX
        have hd0 := hr
        go_wp2_with fail
        go_loopw [7, 45] (fun kv iv wr => ∃ (j : Nat) (zs : List Bool), j ≤ m ∧ iv = .int .i64 j ∧ Hid (OwnC 1 bc 4 w.heap.size wr kv zs) ∧ Hid (zs = (axM m l).take j) ∧ Below w.heap.size w wr) (fun _ iv _ => m - mes iv)
        case atStart => exact ⟨0, [], by omega, rfl, Lib.hid OwnC.nil, Lib.hid (by simp), hb0⟩
        case round =>
          clear hb0 hd0 hr
          obtain ⟨j, zs, hj, rfl, HO, HZ, hb⟩ := hrel
          have hzl : zs.length = j := by rw [HZ.out, List.length_take, length_axM]; omega
          have hwr := hb.size
          by_cases hj2 : j < m
          · have hnext := axM_next (l := l) hj2
            have HAS := ref_has19 (h.below hb) (j : Int)
            have HZL := Lib.hid hzl
            clear hzl
            by_cases h0 : k = 0
            · have h2 : ((k : Int) == 0) = true := by simpa using h0
              have hnil : l = [] := List.eq_nil_of_length_eq_zero (by rw [HL.out, h0])
              clear h0
              rw [decide_eq_true hnil, Bool.true_or, ← HZ.out] at hnext
              have HN := Lib.hid hnext
              clear hnext hnil HAS
              go_wp2_with (at_builtin; refine wpList_append_b rfl _ _ rfl w.heap.size _ zs rfl HO.out 1 true rfl (by have := HZL.out; omega) hwr ?_)
              intro av2 w3 hown hb4
              have hb3 := hb.trans hb4
              rw [HN.out.symm] at hown
              have HO3 := Lib.hid hown
              clear hown hb4 HO HZ
              go_wp2_with fail
              go_roundw
              case rel => exact ⟨j + 1, _, by omega, by go_num, HO3, Lib.hid rfl, hb3⟩
              case measure => simp [mes, intOf]; omega
            · have h2 : ((k : Int) == 0) = false := by simpa using h0
              have hnil : ¬ l = [] := fun e => h0 (by rw [← HL.out, e]; rfl)
              rw [decide_eq_false hnil, Bool.false_or, ← HZ.out] at hnext
              generalize decide ((j : Int) ∈ l) = bv at HAS hnext
              have HN := Lib.hid hnext
              have HH := Lib.hid HAS
              clear hnext hnil HAS h0
              go_wp2_with fail
              refine HH.out.mono ?_
              rintro _ _ ⟨rfl, rfl⟩
              go_wp2_with (at_builtin; refine wpList_append_b rfl _ _ rfl w.heap.size _ zs rfl HO.out 1 bv rfl (by have := HZL.out; omega) hwr ?_)
              intro av2 w3 hown hb4
              have hb3 := hb.trans hb4
              rw [HN.out.symm] at hown
              have HO3 := Lib.hid hown
              clear hown hb4 HO HZ
              go_wp2_with fail
              go_roundw
              case rel => exact ⟨j + 1, _, by omega, by go_num, HO3, Lib.hid rfl, hb3⟩
              case measure => simp [mes, intOf]; omega
          · obtain rfl : j = m := by omega
            have hz := HZ.out
            rw [List.take_of_length_le (by rw [length_axM]; exact Nat.le_refl _)] at hz
            subst hz
            obtain ⟨A2, n2, c2, rfl, hs2⟩ := HO.out.retb
            have HS2 := Lib.hid hs2
            clear HO HZ hs2 hzl
            go_wp2_with fail
            go_ret2
            rw [axR_ok HE.out, HE.out]
            exact ⟨_, _, _, rfl, HS2.out, hb⟩

end Go.Proofs.Ythhmofmncjodfaa
