/-
  The law PowerTexts: any number's text, and any text's number, or why it is none.
-/
import Derived.Test.YtnheefhbchkbdaaGreatDoorRefReadOne
import Derived.Test.YtnheefhbchkbdaaGreatDoorPowShowAll
namespace Go.Proofs.YtnheefhbchkbdaaGreatDoor
set_option maxRecDepth 100000
open Go.RowKit
set_option linter.unusedVariables false
set_option linter.unusedSimpArgs false

theorem read_sz (l : List UInt8) (h : rqe l = 0) : Sz (rqv l) 400 := by
  obtain ⟨K1, h1, k1⟩ := rdv_small (above (bare l))
  obtain ⟨K2, h2, k2⟩ := rdv_small (behind (bare l))
  have hz : rdv (behind (bare l)) ≠ 0 := by
    intro e
    unfold rqe at h
    by_cases a : rde (above (bare l)) = 0
    · by_cases b : rde (behind (bare l)) = 0
      · rw [if_neg (by omega), if_neg (by omega), if_pos e] at h; omega
      · rw [if_neg (by omega), if_pos b] at h; exact b h
    · rw [if_pos a] at h; exact a h
  unfold rqv
  generalize 400 = M at *
  exact rq_sz hz (Nat.lt_of_lt_of_le k1 (Nat.pow_le_pow_right W_pos h1)) (Nat.lt_of_lt_of_le k2 (Nat.pow_le_pow_right W_pos h2))
/-- the document's text of a number is this one -/
def RetT (t : ByteArray) (w : World) (e : Ending) (w' : World) : Prop := e = .returned (.string t) ∧ Below w.heap.size w w'
theorem ref_showE {w : World} {s : Bool} {A A' : Option Addr} {n n' c c' : Nat} {X : Rat} {t : ByteArray} {l : List UInt8} (ht : t = str (txtQ X)) (h : Q w s A n c A' n' c' X) (hX : Sz X 20) :
    Calls Tryz.prog 19 #[.agg #[.bool s, .slice A n c, .slice A' n' c']] w (RetT t w) := by
  refine (ref_pshow h hX).mono ?_
  rintro e w' ⟨u, he, hu, hb⟩
  refine ⟨?_, hb⟩
  rw [he, ht, str_eq hu]
theorem retRQ_yes {E : Int} {Y : Rat} {w w' : World} {e : Ending} (h0 : E = 0) (h : RetRQ E Y w e w') : RetQE Y 0 w e w' := by
  rcases h with ⟨_, h⟩ | ⟨hne, _⟩
  · exact h
  · exact absurd h0 hne
theorem retRQ_no {E : Int} {Y : Rat} {w w' : World} {e : Ending} (h0 : E ≠ 0) (h : RetRQ E Y w e w') : RetNo E w e w' := by
  rcases h with ⟨he, _⟩ | ⟨_, h⟩
  · exact absurd he h0
  · exact h

set_option maxRecDepth 100000 in
set_option maxHeartbeats 8000000 in
theorem powerTexts_walk (s0 : Bool) (a0 : Option Addr) (len0 cap0 : Nat) (z0 : List Int) (e0 : Option Addr) (lem0 cab0 : Nat) (y0 : List Int) (s : ByteArray) (w : World) (w0 : IsRow .u64 w a0 len0 cap0 z0) (v0 : IsRow .u64 w e0 lem0 cab0 y0) (hs : s.size ≤ maxLen) :
    Calls Tryz.prog 4 #[.agg #[.bool s0, .slice a0 len0 cap0, .slice e0 lem0 cab0], .string s] w fun e w' => e = .returned (.bool true) ∧ Below w.heap.size w w' := by
  unfold maxLen at hs
  obtain ⟨p0, _⟩ := w0.sl
  obtain ⟨r0, _⟩ := v0.sl
  generalize z0.take len0 = xs at p0
  generalize y0.take lem0 = ys at r0
  clear w0 v0
  obtain ⟨V, hV, B0, hb0⟩ := box0 24 w #[.bool s0, .slice a0 len0 cap0, .slice e0 lem0 cab0]
  have R := fun w1 (hb : Below w.heap.size w w1) => right08 (s := s0) 8 (by omega) (p0.below hb) (r0.below hb)
  simp only [show ((8 : Nat) : Int) = 8 from rfl] at R
  have HS := Lib.hid (fun (w' : World) (hb : Below V.heap.size V w') => (B0.below' hb).three.1)
  have HL := Lib.hid (fun (w' : World) (hb : Below V.heap.size V w') => (B0.below' hb).lt)
  have HV := Lib.hid hV
  clear hV B0
  obtain ⟨t0, et0⟩ : ∃ t, (decide (len0 ≤ 8 ∧ lem0 ≤ 8) && rightB s0 xs ys) = t := ⟨_, rfl⟩
  rw [et0] at R
  have HR := Lib.hid R
  clear R
  cases t0
  · clear et0
    go_enter Tryz.func4, Tryz.ntmps4
    go_wp2_with fail
    rw [HV.out]
    clear HV
    have y0_0 : Below V.heap.size V V := Below.refl _ _
    obtain ⟨k0_0_0_0, k0_0_0_1, k0_0_0_2⟩ := HS.out _ y0_0
    refine (HR.out _ (bb hb0 y0_0)).mono ?_
    rintro _ w1 ⟨rfl, b1⟩
    have y0_1 := bb y0_0 b1
    clear k0_0_0_0 k0_0_0_1 k0_0_0_2
    obtain ⟨k1_0_0_0, k1_0_0_1, k1_0_0_2⟩ := HS.out _ y0_1
    go_wp2_with fail
    refine (same08 _).mono ?_
    rintro _ w2 ⟨rfl, b2⟩
    have y0_2 := bb y0_1 b2
    clear k1_0_0_0 k1_0_0_1 k1_0_0_2
    obtain ⟨k2_0_0_0, k2_0_0_1, k2_0_0_2⟩ := HS.out _ y0_2
    go_wp2_with fail
    go_ret
    exact ⟨rfl, bb hb0 y0_2⟩
  · obtain ⟨X, g0, n0⟩ := right08_Q p0 r0 et0
    have qx := g0.below hb0
    have zx20 : Sz X 20 := n0.mono (by omega)
    clear g0 et0 p0 r0
    by_cases hl : 1000 < s.size
    · have hl2 : (1000 : Int) < (s.size : Int) := by omega
      have hl3 : decide ((1000 : Int) < (s.size : Int)) = true := decide_eq_true hl2
      go_enter Tryz.func4, Tryz.ntmps4
      go_wp2_with fail
      rw [HV.out]
      clear HV
      have y0_0 : Below V.heap.size V V := Below.refl _ _
      obtain ⟨k0_0_0_0, k0_0_0_1, k0_0_0_2⟩ := HS.out _ y0_0
      refine (HR.out _ (bb hb0 y0_0)).mono ?_
      rintro _ w1 ⟨rfl, b1⟩
      have y0_1 := bb y0_0 b1
      clear k0_0_0_0 k0_0_0_1 k0_0_0_2
      obtain ⟨k1_0_0_0, k1_0_0_1, k1_0_0_2⟩ := HS.out _ y0_1
      go_wp2_with fail
      refine (same08 _).mono ?_
      rintro _ w2 ⟨rfl, b2⟩
      have y0_2 := bb y0_1 b2
      clear k1_0_0_0 k1_0_0_1 k1_0_0_2
      obtain ⟨k2_0_0_0, k2_0_0_1, k2_0_0_2⟩ := HS.out _ y0_2
      go_wp2_with fail
      go_ret
      exact ⟨rfl, bb hb0 y0_2⟩
    have hl2 : ¬ (1000 : Int) < (s.size : Int) := by omega
    have hl3 : decide ((1000 : Int) < (s.size : Int)) = false := decide_eq_false hl2
    have hl4 : decide (1000 < s.size) = false := decide_eq_false hl
    have R1 := fun w1 => pw_read s (by omega) w1
    have R2 := fun w1 => ref_pread s (by omega) w1
    by_cases hE : rqe (by_ s) = 0
    · have zy := read_sz (by_ s) hE
      have P1 := Lib.hid (fun (w1 : World) => (R1 w1).mono fun e w' H => retRQ_yes hE H)
      have P2 := Lib.hid (fun (w1 : World) => (R2 w1).mono fun e w' H => retRQ_yes hE H)
      clear R1 R2 hE
      generalize rqv (by_ s) = Y at *
      go_enter Tryz.func4, Tryz.ntmps4
      go_wp2_with fail
      rw [HV.out]
      clear HV
      have y0_0 : Below V.heap.size V V := Below.refl _ _
      obtain ⟨k0_0_0_0, k0_0_0_1, k0_0_0_2⟩ := HS.out _ y0_0
      refine (HR.out _ (bb hb0 y0_0)).mono ?_
      rintro _ w1 ⟨rfl, b1⟩
      have y0_1 := bb y0_0 b1
      clear k0_0_0_0 k0_0_0_1 k0_0_0_2
      obtain ⟨k1_0_0_0, k1_0_0_1, k1_0_0_2⟩ := HS.out _ y0_1
      go_wp2_with fail
      refine (P1.out _).mono ?_
      rintro _ w2 ⟨rs2, rA2, rn2, rc2, rD2, rm2, rd2, rfl, u1, b2⟩
      have y0_2 := bb y0_1 b2
      clear k1_0_0_0 k1_0_0_1 k1_0_0_2
      obtain ⟨k2_0_0_0, k2_0_0_1, k2_0_0_2⟩ := HS.out _ y0_2
      have z2_HL := HL.out _ y0_2
      obtain ⟨w3, hV3, B3, b3⟩ := box0 24 w2 #[.bool rs2, .slice rA2 rn2 rc2, .slice rD2 rm2 rd2]
      have HV3 := Lib.hid hV3
      clear hV3
      go_wp2_with fail
      rw [HV3.out]
      clear HV3
      have y0_3 := bb y0_2 b3
      clear z2_HL
      have HQ1 := Lib.hid (fun (w' : World) (hb : Below w3.heap.size w3 w') => (B3.below' hb).three.1)
      have HQ1l := Lib.hid (fun (w' : World) (hb : Below w3.heap.size w3 w') => (B3.below' hb).lt)
      clear B3
      have y3_3 : Below w3.heap.size w3 w3 := Below.refl _ _
      clear k2_0_0_0 k2_0_0_1 k2_0_0_2
      obtain ⟨k3_0_0_0, k3_0_0_1, k3_0_0_2⟩ := HS.out _ y0_3
      obtain ⟨k3_1_0_0, k3_1_0_1, k3_1_0_2⟩ := HQ1.out _ y3_3
      refine (P2.out _).mono ?_
      rintro _ w4 ⟨rs4, rA4, rn4, rc4, rD4, rm4, rd4, rfl, u2, b4⟩
      have y0_4 := bb y0_3 b4
      have y3_4 := bb y3_3 b4
      clear k3_0_0_0 k3_0_0_1 k3_0_0_2 k3_1_0_0 k3_1_0_1 k3_1_0_2
      obtain ⟨k4_0_0_0, k4_0_0_1, k4_0_0_2⟩ := HS.out _ y0_4
      obtain ⟨k4_1_0_0, k4_1_0_1, k4_1_0_2⟩ := HQ1.out _ y3_4
      have z4_HL := HL.out _ y0_4
      have z4_HQ1l := HQ1l.out _ y3_4
      obtain ⟨w5, hV5, B5, b5⟩ := box0 24 w4 #[.bool rs4, .slice rA4 rn4 rc4, .slice rD4 rm4 rd4]
      have HV5 := Lib.hid hV5
      clear hV5
      go_wp2_with fail
      rw [HV5.out]
      clear HV5
      have y0_5 := bb y0_4 b5
      have y3_5 := bb y3_4 b5
      clear z4_HL
      clear z4_HQ1l
      have HQ2 := Lib.hid (fun (w' : World) (hb : Below w5.heap.size w5 w') => (B5.below' hb).three.1)
      have HQ2l := Lib.hid (fun (w' : World) (hb : Below w5.heap.size w5 w') => (B5.below' hb).lt)
      clear B5
      have y5_5 : Below w5.heap.size w5 w5 := Below.refl _ _
      clear k4_0_0_0 k4_0_0_1 k4_0_0_2 k4_1_0_0 k4_1_0_1 k4_1_0_2
      obtain ⟨k5_0_0_0, k5_0_0_1, k5_0_0_2⟩ := HS.out _ y0_5
      obtain ⟨k5_1_0_0, k5_1_0_1, k5_1_0_2⟩ := HQ1.out _ y3_5
      obtain ⟨k5_2_0_0, k5_2_0_1, k5_2_0_2⟩ := HQ2.out _ y5_5
      go_region_held3 (fun w' => (w'.cell? ⟨w.heap.size, 0, none⟩ = some (.bool s0) ∧ w'.cell? ⟨w.heap.size, 1, none⟩ = some (.slice a0 len0 cap0) ∧ w'.cell? ⟨w.heap.size, 2, none⟩ = some (.slice e0 lem0 cab0)) ∧ (w'.cell? ⟨w2.heap.size, 0, none⟩ = some (.bool rs2) ∧ w'.cell? ⟨w2.heap.size, 1, none⟩ = some (.slice rA2 rn2 rc2) ∧ w'.cell? ⟨w2.heap.size, 2, none⟩ = some (.slice rD2 rm2 rd2)) ∧ (w'.cell? ⟨w4.heap.size, 0, none⟩ = some (.bool rs4) ∧ w'.cell? ⟨w4.heap.size, 1, none⟩ = some (.slice rA4 rn4 rc4) ∧ w'.cell? ⟨w4.heap.size, 2, none⟩ = some (.slice rD4 rm4 rd4))) (first | exact ⟨HS.out _ y0_5.drew, HQ1.out _ y3_5.drew, HQ2.out _ y5_5.drew⟩ | exact ⟨HS.out _ y0_9, HQ1.out _ y3_9, HQ2.out _ y5_9⟩ | exact ⟨HS.out _ y0_8, HQ1.out _ y3_8, HQ2.out _ y5_8⟩ | exact ⟨HS.out _ y0_7, HQ1.out _ y3_7, HQ2.out _ y5_7⟩ | exact ⟨HS.out _ y0_6, HQ1.out _ y3_6, HQ2.out _ y5_6⟩ | fail)
        (first
          | (go_at_call 18; (with_reducible refine (pw_show ?hq1 zx20).mono ?_); (case hq1 => (have hh := (qx.below y0_5); exact hh)); rintro _ w6 ⟨t6, rfl, et1, b6⟩; have b6 := Below.undrew b6; have y0_6 := bb y0_5 b6; have y3_6 := bb y3_5 b6; have y5_6 := bb y5_5 b6)
          | (go_at_call 19; (with_reducible refine (ref_showE (l := txtQ X) (str_eq et1) (qx.below y0_6) zx20).mono ?_); rintro _ w7 ⟨rfl, b7⟩; have y0_7 := bb y0_6 b7; have y3_7 := bb y3_6 b7; have y5_7 := bb y5_6 b7)
          | (go_at_call 9; (with_reducible refine (ref_sameT (((((u1.below b3).below b4).below b5).below b6).below b7) (((u2.below b5).below b6).below b7) zy zy (by omega) rfl).mono ?_); rintro _ w8 ⟨rfl, b8⟩; have y0_8 := bb y0_7 b8; have y3_8 := bb y3_7 b8; have y5_8 := bb y5_7 b8)
          | (go_at_call 6; (with_reducible refine (same08 _).mono ?_); rintro _ w9 ⟨rfl, b9⟩; have y0_9 := bb y0_8 b9; have y3_9 := bb y3_8 b9; have y5_9 := bb y5_8 b9))
      obtain ⟨k9_0_0_0, k9_0_0_1, k9_0_0_2⟩ := HS.out _ y0_9
      obtain ⟨k9_1_0_0, k9_1_0_1, k9_1_0_2⟩ := HQ1.out _ y3_9
      obtain ⟨k9_2_0_0, k9_2_0_1, k9_2_0_2⟩ := HQ2.out _ y5_9
      go_wp2_with fail
      go_ret
      exact ⟨rfl, bb hb0 y0_9⟩
    · have P1 := Lib.hid (fun (w1 : World) => (R1 w1).mono fun e w' H => retRQ_no hE H)
      have P2 := Lib.hid (fun (w1 : World) => (R2 w1).mono fun e w' H => retRQ_no hE H)
      clear R1 R2 hE
      generalize rqe (by_ s) = E at *
      go_enter Tryz.func4, Tryz.ntmps4
      go_wp2_with fail
      rw [HV.out]
      clear HV
      have y0_0 : Below V.heap.size V V := Below.refl _ _
      obtain ⟨k0_0_0_0, k0_0_0_1, k0_0_0_2⟩ := HS.out _ y0_0
      refine (HR.out _ (bb hb0 y0_0)).mono ?_
      rintro _ w1 ⟨rfl, b1⟩
      have y0_1 := bb y0_0 b1
      clear k0_0_0_0 k0_0_0_1 k0_0_0_2
      obtain ⟨k1_0_0_0, k1_0_0_1, k1_0_0_2⟩ := HS.out _ y0_1
      go_wp2_with fail
      refine (P1.out _).mono ?_
      rintro _ w2 ⟨rfl, b2⟩
      have y0_2 := bb y0_1 b2
      clear k1_0_0_0 k1_0_0_1 k1_0_0_2
      obtain ⟨k2_0_0_0, k2_0_0_1, k2_0_0_2⟩ := HS.out _ y0_2
      have z2_HL := HL.out _ y0_2
      obtain ⟨w3, hV3, B3, b3⟩ := box0 24 w2 #[.bool false, .slice none 0 0, .slice none 0 0]
      have HV3 := Lib.hid hV3
      clear hV3
      go_wp2_with fail
      rw [HV3.out]
      clear HV3
      have y0_3 := bb y0_2 b3
      clear z2_HL
      have HQ1 := Lib.hid (fun (w' : World) (hb : Below w3.heap.size w3 w') => (B3.below' hb).three.1)
      have HQ1l := Lib.hid (fun (w' : World) (hb : Below w3.heap.size w3 w') => (B3.below' hb).lt)
      clear B3
      have y3_3 : Below w3.heap.size w3 w3 := Below.refl _ _
      clear k2_0_0_0 k2_0_0_1 k2_0_0_2
      obtain ⟨k3_0_0_0, k3_0_0_1, k3_0_0_2⟩ := HS.out _ y0_3
      obtain ⟨k3_1_0_0, k3_1_0_1, k3_1_0_2⟩ := HQ1.out _ y3_3
      refine (P2.out _).mono ?_
      rintro _ w4 ⟨rfl, b4⟩
      have y0_4 := bb y0_3 b4
      have y3_4 := bb y3_3 b4
      clear k3_0_0_0 k3_0_0_1 k3_0_0_2 k3_1_0_0 k3_1_0_1 k3_1_0_2
      obtain ⟨k4_0_0_0, k4_0_0_1, k4_0_0_2⟩ := HS.out _ y0_4
      obtain ⟨k4_1_0_0, k4_1_0_1, k4_1_0_2⟩ := HQ1.out _ y3_4
      have z4_HL := HL.out _ y0_4
      have z4_HQ1l := HQ1l.out _ y3_4
      obtain ⟨w5, hV5, B5, b5⟩ := box0 24 w4 #[.bool false, .slice none 0 0, .slice none 0 0]
      have HV5 := Lib.hid hV5
      clear hV5
      go_wp2_with fail
      rw [HV5.out]
      clear HV5
      have y0_5 := bb y0_4 b5
      have y3_5 := bb y3_4 b5
      clear z4_HL
      clear z4_HQ1l
      have HQ2 := Lib.hid (fun (w' : World) (hb : Below w5.heap.size w5 w') => (B5.below' hb).three.1)
      have HQ2l := Lib.hid (fun (w' : World) (hb : Below w5.heap.size w5 w') => (B5.below' hb).lt)
      clear B5
      have y5_5 : Below w5.heap.size w5 w5 := Below.refl _ _
      clear k4_0_0_0 k4_0_0_1 k4_0_0_2 k4_1_0_0 k4_1_0_1 k4_1_0_2
      obtain ⟨k5_0_0_0, k5_0_0_1, k5_0_0_2⟩ := HS.out _ y0_5
      obtain ⟨k5_1_0_0, k5_1_0_1, k5_1_0_2⟩ := HQ1.out _ y3_5
      obtain ⟨k5_2_0_0, k5_2_0_1, k5_2_0_2⟩ := HQ2.out _ y5_5
      go_region_held3 (fun w' => (w'.cell? ⟨w.heap.size, 0, none⟩ = some (.bool s0) ∧ w'.cell? ⟨w.heap.size, 1, none⟩ = some (.slice a0 len0 cap0) ∧ w'.cell? ⟨w.heap.size, 2, none⟩ = some (.slice e0 lem0 cab0)) ∧ (w'.cell? ⟨w2.heap.size, 0, none⟩ = some (.bool false) ∧ w'.cell? ⟨w2.heap.size, 1, none⟩ = some (.slice none 0 0) ∧ w'.cell? ⟨w2.heap.size, 2, none⟩ = some (.slice none 0 0)) ∧ (w'.cell? ⟨w4.heap.size, 0, none⟩ = some (.bool false) ∧ w'.cell? ⟨w4.heap.size, 1, none⟩ = some (.slice none 0 0) ∧ w'.cell? ⟨w4.heap.size, 2, none⟩ = some (.slice none 0 0))) (first | exact ⟨HS.out _ y0_5.drew, HQ1.out _ y3_5.drew, HQ2.out _ y5_5.drew⟩ | exact ⟨HS.out _ y0_9, HQ1.out _ y3_9, HQ2.out _ y5_9⟩ | exact ⟨HS.out _ y0_8, HQ1.out _ y3_8, HQ2.out _ y5_8⟩ | exact ⟨HS.out _ y0_7, HQ1.out _ y3_7, HQ2.out _ y5_7⟩ | exact ⟨HS.out _ y0_6, HQ1.out _ y3_6, HQ2.out _ y5_6⟩ | fail)
        (first
          | (go_at_call 18; (with_reducible refine (pw_show ?hq1 zx20).mono ?_); (case hq1 => (have hh := (qx.below y0_5); exact hh)); rintro _ w6 ⟨t6, rfl, et1, b6⟩; have b6 := Below.undrew b6; have y0_6 := bb y0_5 b6; have y3_6 := bb y3_5 b6; have y5_6 := bb y5_5 b6)
          | (go_at_call 19; (with_reducible refine (ref_showE (l := txtQ X) (str_eq et1) (qx.below y0_6) zx20).mono ?_); rintro _ w7 ⟨rfl, b7⟩; have y0_7 := bb y0_6 b7; have y3_7 := bb y3_6 b7; have y5_7 := bb y5_6 b7)
          | (go_at_call 9; (with_reducible refine (ref_sameZ _).mono ?_); rintro _ w8 ⟨rfl, b8⟩; have y0_8 := bb y0_7 b8; have y3_8 := bb y3_7 b8; have y5_8 := bb y5_7 b8)
          | (go_at_call 6; (with_reducible refine (same08 _).mono ?_); rintro _ w9 ⟨rfl, b9⟩; have y0_9 := bb y0_8 b9; have y3_9 := bb y3_8 b9; have y5_9 := bb y5_8 b9))
      obtain ⟨k9_0_0_0, k9_0_0_1, k9_0_0_2⟩ := HS.out _ y0_9
      obtain ⟨k9_1_0_0, k9_1_0_1, k9_1_0_2⟩ := HQ1.out _ y3_9
      obtain ⟨k9_2_0_0, k9_2_0_1, k9_2_0_2⟩ := HQ2.out _ y5_9
      go_wp2_with fail
      go_ret
      exact ⟨rfl, bb hb0 y0_9⟩

end Go.Proofs.YtnheefhbchkbdaaGreatDoor
