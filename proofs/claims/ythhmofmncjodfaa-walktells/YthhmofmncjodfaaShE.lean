/-
  What the document's Steps, and Axes of package shape and of the document, return. Conditions: the slices read as lists of ints.
-/
import Derived.Test.YthhmofmncjodfaaShC
import Derived.Test.YthhmofmncjodfaaShD
import Derived.Deep.QuietTactic
import Derived.BigQuiet
namespace Go.Proofs.Ythhmofmncjodfaa
open Go.RowKit
set_option linter.unusedVariables false
set_option linter.unusedSimpArgs false

theorem stepsTo_next {d : List Int} {k : Nat} (hk : k < d.length) : (stepsZ d).take (k + 1) = (stepsZ d).take k ++ [prodZ (d.drop (k + 1))] := by
  rw [take_snocZ (by rw [length_stepsZ]; exact hk), stepsZ_at hk]
theorem stepsZ_ok {d : List Int} (hv : Vd d) : ∀ x ∈ stepsZ d, I64 x := fun x hx => by
  obtain ⟨j, hj, rfl⟩ := List.getElem_of_mem hx
  have hj2 : j < d.length := by rw [length_stepsZ] at hj; exact hj
  rw [← getD_eq hj, stepsZ_at hj2]
  have k1 := prodZ_drop_le hv.pos (j + 1)
  have k2 := prodZ_pos (hv.pos.drop (j + 1))
  have k3 := hv.prod
  unfold I64
  omega
set_option maxRecDepth 100000 in
set_option maxHeartbeats 4000000 in
theorem ref_steps19 {w : World} {A : Option Addr} {n c : Nat} {d : List Int} (h : SlZ w A n c d) : Calls Try.prog 18 #[.slice A n c] w (RetZs (stps d) w) := by
  have CK := ref_check19 h
  by_cases h0 : chk d = 0
  · have hv := vd_of h0
    have hlen := h.len
    have hcap := h.cap
    have hn6 : n ≤ 6 := by have := hv.len; omega
    have HE := Lib.hid (stps_ok h0)
    rw [h0] at CK
    have HC := Lib.hid CK
    have HL := Lib.hid hlen
    have HV := Lib.hid hv
    clear h0 CK hv hlen
    have hcm : c ≤ 9223372036854775807 := by have := hcap.2; unfold maxLen at this; omega
    have hnc := hcap.1
    clear hcap
    go_enter Try.func18, Try.ntmps18
    go_wp2_with fail
    refine HC.out.mono ?_
    rintro _ _ ⟨rfl, rfl⟩
    go_wp2_with fail
    go_loopw [3, 10] (fun kv iv wr => ∃ (k : Nat) (zs : List Int), k ≤ n ∧ iv = .int .i64 k ∧ Hid (OwnC 1 zc 3 w.heap.size wr kv zs) ∧ Hid (zs = (stepsZ d).take k) ∧ Below w.heap.size w wr) (fun _ iv _ => n - mes iv)
    case atStart => exact ⟨0, [], by omega, rfl, Lib.hid OwnC.nil, Lib.hid (by simp), Below.refl _ _⟩
    case round =>
      obtain ⟨k, zs, hk, rfl, HO, HZ, hb⟩ := hrel
      have hzl : zs.length = k := by rw [HZ.out, List.length_take, length_stepsZ, HL.out]; omega
      have hwr := hb.size
      by_cases hk2 : k < n
      · have h2 := h.below hb
        obtain ⟨b, off, x, hx, rfl, hlt, hi, hc⟩ := h2.get hk2
        have hs := h2.drop (k := k + 1) (by omega)
        have hch : chk (d.drop (k + 1)) = 0 := (HV.out.drop (k + 1)).chk
        have CT : ∀ A', SlZ wr A' (n - (k + 1)) (c - (k + 1)) (d.drop (k + 1)) → Calls Try.prog 15 #[.slice A' (n - (k + 1)) (c - (k + 1))] wr (Just (.int .i64 (prodZ (d.drop (k + 1)))) wr) := fun A' h9 => by
          have := ref_count19 h9
          rw [cntZ_ok hch] at this
          exact this
        have hA' : ∀ A', k + 1 = c → SlZ wr A' (n - (k + 1)) (c - (k + 1)) (d.drop (k + 1)) := fun A' e => by
          have e1 : n - (k + 1) = 0 := by omega
          rw [List.drop_eq_nil_of_le (by rw [HL.out]; omega), e1]
          exact SlZ.nil _ _ _ (by unfold maxLen; omega)
        have hpi : I64 (prodZ (d.drop (k + 1))) := by
          have k1 := prodZ_drop_le HV.out.pos (k + 1)
          have k2 := prodZ_pos (HV.out.pos.drop (k + 1))
          have k3 := HV.out.prod
          unfold I64
          omega
        have hnext : zs ++ [prodZ (d.drop (k + 1))] = (stepsZ d).take (k + 1) := by rw [stepsTo_next (by rw [HL.out]; exact hk2), HZ.out]
        generalize prodZ (d.drop (k + 1)) = p at CT hpi hnext
        have HN := Lib.hid hnext
        have HZL := Lib.hid hzl
        clear hx hi hc hch hnext hzl HZ
        by_cases hck : k + 1 = c
        · obtain rfl : c = n := by omega
          have hct := fun A' => CT A' (hA' A' hck)
          rw [hck, Nat.sub_self] at hct
          have HCT := Lib.hid hct
          clear hct
          clear hs CT hA'
          go_wp2_with fail
          refine (HCT.out _).mono ?_
          rintro _ _ ⟨rfl, rfl⟩
          go_wp2_with (at_builtin; refine wpList_append_z rfl _ _ rfl w.heap.size _ zs rfl HO.out 1 p rfl (by have := HZL.out; omega) hwr ?_)
          intro av2 w3 hown hb4
          have hb3 := hb.trans hb4
          rw [HN.out] at hown
          have HO3 := Lib.hid hown
          clear hown hb4 HO
          go_wp2_with fail
          go_roundw
          case rel => exact ⟨k + 1, _, by omega, by go_num, HO3, Lib.hid rfl, hb3⟩
          case measure => simp [mes, intOf]; omega
        · have HCT := Lib.hid (CT _ hs)
          clear hs CT hA'
          go_wp2_with fail
          refine (HCT.out).mono ?_
          rintro _ _ ⟨rfl, rfl⟩
          go_wp2_with (at_builtin; refine wpList_append_z rfl _ _ rfl w.heap.size _ zs rfl HO.out 1 p rfl (by have := HZL.out; omega) hwr ?_)
          intro av2 w3 hown hb4
          have hb3 := hb.trans hb4
          rw [HN.out] at hown
          have HO3 := Lib.hid hown
          clear hown hb4 HO
          go_wp2_with fail
          go_roundw
          case rel => exact ⟨k + 1, _, by omega, by go_num, HO3, Lib.hid rfl, hb3⟩
          case measure => simp [mes, intOf]; omega
      · obtain rfl : k = n := by omega
        have hz := HZ.out
        rw [List.take_of_length_le (by rw [length_stepsZ, HL.out]; exact Nat.le_refl _)] at hz
        subst hz
        obtain ⟨A2, n2, c2, rfl, hs2, hn2⟩ := HO.out.retz (stepsZ_ok HV.out)
        have HS2 := Lib.hid hs2
        clear HO HZ hs2 hzl
        go_wp2_with fail
        go_ret
        exact ⟨_, _, _, rfl, by rw [HE.out]; exact HS2.out, fun h9 b off e => hn2 h9 b off e, hb⟩
  · have HE := Lib.hid (stps_no h0)
    have hz : (chk d != 0) = true := by simpa using h0
    have HC := Lib.hid CK
    clear h0 CK
    go_enter Try.func18, Try.ntmps18
    go_wp2_with fail
    refine HC.out.mono ?_
    rintro _ _ ⟨rfl, rfl⟩
    go_wp2_with fail
    go_ret
    exact ⟨none, 0, 0, rfl, by rw [HE.out]; exact SlZ.nil _ _ _ (by unfold maxLen; omega), fun h => absurd h (by omega), Below.refl _ _⟩

end Go.Proofs.Ythhmofmncjodfaa
