/-
  What power.Read does: the number of a text, or the error's number. Conditions: a text of at most 1000000 bytes.
-/
import Derived.Test.YtnheefhbchkbdaaDoorPowRead
namespace Go.Proofs.YtnheefhbchkbdaaDoor
set_option maxRecDepth 100000
open Go.RowKit
set_option linter.unusedVariables false
set_option linter.unusedSimpArgs false

theorem rdv_small (l : List UInt8) : ∃ K, K ≤ 400 ∧ rdv l < W ^ K := by
  by_cases h : l.length ≤ 400 ∧ IsNum l
  · refine ⟨l.length, h.1, ?_⟩
    rw [(rd_good h.1 h.2).1]
    have := rd_take_lt h.2 l.length (Nat.le_refl _)
    rw [List.take_length] at this
    exact this
  · refine ⟨1, by omega, ?_⟩
    have hz : rdv l = 0 := by
      by_cases h1 : 400 < l.length
      · exact (rd_long h1).1
      · exact (rd_form (by omega) (fun h2 => h ⟨by omega, h2⟩)).1
    rw [hz, Nat.pow_one]; unfold W; omega
theorem bare_len (l : List UInt8) : (bare l).length ≤ l.length := by
  unfold bare; split
  · rw [List.length_drop]; omega
  · omega
theorem above_len (l : List UInt8) : (above l).length ≤ l.length := by
  unfold above
  have := congrArg List.length (List.takeWhile_append_dropWhile (p := (· != 47)) (l := l))
  rw [List.length_append] at this; omega
theorem behind_len (l : List UInt8) : (behind l).length ≤ l.length + 1 := by
  unfold behind; split
  · have := congrArg List.length (List.takeWhile_append_dropWhile (p := (· != 47)) (l := l))
    rw [List.length_append] at this
    rw [List.length_drop]; omega
  · simp
/-- the number of a text, or the error's number -/
def RetRQ (E : Int) (Y : Rat) (w : World) (e : Ending) (w' : World) : Prop :=
  (E = 0 ∧ RetQE Y 0 w e w') ∨ (E ≠ 0 ∧ RetNo E w e w')
theorem rqe_a {l : List UInt8} (h : rde (above (bare l)) ≠ 0) : rqe l = rde (above (bare l)) := by unfold rqe; rw [if_pos h]
theorem rqe_b {l : List UInt8} (h0 : rde (above (bare l)) = 0) (h : rde (behind (bare l)) ≠ 0) : rqe l = rde (behind (bare l)) := by
  unfold rqe; rw [if_neg (by omega), if_pos h]
theorem rqe_c {l : List UInt8} (h0 : rde (above (bare l)) = 0) (h1 : rde (behind (bare l)) = 0) (h : rdv (behind (bare l)) = 0) : rqe l = 4 := by
  unfold rqe; rw [if_neg (by omega), if_neg (by omega), if_pos h]
theorem rqe_d {l : List UInt8} (h0 : rde (above (bare l)) = 0) (h1 : rde (behind (bare l)) = 0) (h : rdv (behind (bare l)) ≠ 0) : rqe l = 0 := by
  unfold rqe; rw [if_neg (by omega), if_neg (by omega), if_neg h]

set_option maxRecDepth 100000 in
set_option maxHeartbeats 4000000 in
theorem pw_read (s : ByteArray) (hs : s.size ≤ 1000000) (w : World) :
    Calls Tryd.prog 11 #[.string s] w (RetRQ (rqe (by_ s)) (rqv (by_ s)) w) := by
  obtain ⟨V, hW, Br, hb0⟩ := box0 24 w #[.bool false, .slice none 0 0, .slice none 0 0]
  have CP := fun w1 => cut_prefix s (by omega) w1
  have hlen := by_length s
  have lb := bare_len (by_ s)
  have la1 := above_len (bare (by_ s))
  have lb1 := behind_len (bare (by_ s))
  have SP := fun (t : ByteArray) (ht : by_ t = bare (by_ s)) w1 => pw_split t (by rw [← by_length, ht]; omega) w1
  have SP' : ∀ (t : ByteArray) (ht : by_ t = bare (by_ s)) (w1 : World), Calls Tryd.prog 29 #[.string t] w1 (RetTwo (above (bare (by_ s))) (behind (bare (by_ s))) w1) := fun t ht w1 => by have := SP t ht w1; rw [ht] at this; exact this
  have R1 : ∀ (t : ByteArray) (ht : by_ t = above (bare (by_ s))) (w1 : World), Calls Tryd.prog 30 #[.string t] w1 (RetRd (above (bare (by_ s))) w1) := fun t ht w1 => by have := digit_read t (by rw [← by_length, ht]; omega) w1; rw [ht] at this; exact this
  have R2 : ∀ (t : ByteArray) (ht : by_ t = behind (bare (by_ s))) (w1 : World), Calls Tryd.prog 30 #[.string t] w1 (RetRd (behind (bare (by_ s))) w1) := fun t ht w1 => by have := digit_read t (by rw [← by_length, ht]; omega) w1; rw [ht] at this; exact this
  obtain ⟨K1, hK1, k1⟩ := rdv_small (above (bare (by_ s)))
  obtain ⟨K2, hK2, k2⟩ := rdv_small (behind (bare (by_ s)))
  have MK := fun (w1 : World) (C C' : Option Addr) (a b a' b' : Nat) (x : Sl w1 C a b (words (rdv (above (bare (by_ s)))))) (y : Sl w1 C' a' b' (words (rdv (behind (bare (by_ s)))))) (h0 : rdv (behind (bare (by_ s))) ≠ 0) => rat_make (isNeg (by_ s)) x y (by have := x.small k1; omega) (by have := y.small k2; omega) (by rw [val_words]; exact h0)
  have MZ := fun (w1 : World) (C C' : Option Addr) (a b a' b' : Nat) (y : Sl w1 C' a' b' (words (rdv (behind (bare (by_ s)))))) (h0 : rdv (behind (bare (by_ s))) = 0) => rat_make_zero (A := C) (n := a) (c := b) (xs := []) (isNeg (by_ s)) y (by have := y.small k2; omega) (by rw [val_words]; exact h0)
  simp only [val_words] at MK
  have hv : rqv (by_ s) = rq (isNeg (by_ s)) (rdv (above (bare (by_ s)))) (rdv (behind (bare (by_ s)))) := rfl
  rw [← hv] at MK
  have HA := Lib.hid (@rqe_a (by_ s))
  have HB := Lib.hid (@rqe_b (by_ s))
  have HC := Lib.hid (@rqe_c (by_ s))
  have HD := Lib.hid (@rqe_d (by_ s))
  clear hv lb la1 lb1 hlen SP k1 k2
  generalize rqe (by_ s) = E at *
  generalize rqv (by_ s) = Y at *
  generalize hl : by_ s = l at *
  clear hl
  generalize above (bare l) = la at *
  generalize behind (bare l) = lb at *
  have HCP := Lib.hid CP
  have HSP := Lib.hid SP'
  have HR1 := Lib.hid R1
  have HR2 := Lib.hid R2
  have HMK := Lib.hid MK
  have HMZ := Lib.hid MZ
  have HBr := Lib.hid Br
  have HW := Lib.hid hW
  clear CP SP' R1 R2 MK MZ Br hW
  by_cases ea : rde la = 0
  · rw [ea] at HA
    by_cases eb : rde lb = 0
    · rw [eb] at HB
      by_cases ez : rdv lb = 0
      · have hE := HC.out ea eb ez
        have HE := Lib.hid hE
        have HEA := Lib.hid ea
        have HEB := Lib.hid eb
        have HEZ := Lib.hid ez
        clear hE ea eb ez HA HB HC HD
        go_enter Tryd.func11, Tryd.ntmps11
        go_wp2_with fail
        rw [HW.out]
        refine (HCP.out _).mono ?_
        rintro _ _ ⟨t, rfl, ht, _, rfl⟩
        have HT := Lib.hid ht
        clear ht
        go_wp2_with fail
        refine (HSP.out t HT.out _).mono ?_
        rintro _ _ ⟨t1, t2, rfl, h1, h2, kk, rfl⟩
        have HT1 := Lib.hid h1
        have HT2 := Lib.hid h2
        have b1 := below_drewN V kk
        clear h1 h2
        generalize V.drewN kk = w1 at b1 ⊢
        go_wp2_with fail
        refine (HR1.out t1 HT1.out _).mono ?_
        rintro _ w2 ⟨A2, n2, c2, rfl, s2, b2⟩
        rw [HEA.out]
        go_wp2_with fail
        refine (HR2.out t2 HT2.out _).mono ?_
        rintro _ w3 ⟨A3, n3, c3, rfl, s3, b3⟩
        rw [HEB.out]
        go_wp2_with fail
        refine (HMZ.out _ _ _ _ _ _ _ s3 HEZ.out).mono ?_
        rintro _ w4 ⟨rfl, b4⟩
        have x4 := bb b1 (bb b2 (bb b3 b4))
        have B9 := HBr.out.below' x4
        obtain ⟨⟨r0, r1, r2⟩, f0, f1, f2⟩ := B9.three
        go_wp2_with fail
        refine bodyPost_ret (v := .tuple #[.agg #[.bool false, .slice none 0 0, .slice none 0 0], .int .i64 4]) (by simp [results, Tryd.results11, go_sem, r0, r1, r2]) rfl ?_
        right
        rw [HE.out]
        exact ⟨by omega, rfl, below_put3 (bb hb0 x4) (by omega) (Nat.le_refl _) (.bool false) (.slice none 0 0) (.slice none 0 0)⟩
      · have hE := HD.out ea eb ez
        have HE := Lib.hid hE
        have HEA := Lib.hid ea
        have HEB := Lib.hid eb
        have HEZ := Lib.hid ez
        clear hE ea eb ez HA HB HC HD
        go_enter Tryd.func11, Tryd.ntmps11
        go_wp2_with fail
        rw [HW.out]
        refine (HCP.out _).mono ?_
        rintro _ _ ⟨t, rfl, ht, _, rfl⟩
        have HT := Lib.hid ht
        clear ht
        go_wp2_with fail
        refine (HSP.out t HT.out _).mono ?_
        rintro _ _ ⟨t1, t2, rfl, h1, h2, kk, rfl⟩
        have HT1 := Lib.hid h1
        have HT2 := Lib.hid h2
        have b1 := below_drewN V kk
        clear h1 h2
        generalize V.drewN kk = w1 at b1 ⊢
        go_wp2_with fail
        refine (HR1.out t1 HT1.out _).mono ?_
        rintro _ w2 ⟨A2, n2, c2, rfl, s2, b2⟩
        rw [HEA.out]
        go_wp2_with fail
        refine (HR2.out t2 HT2.out _).mono ?_
        rintro _ w3 ⟨A3, n3, c3, rfl, s3, b3⟩
        rw [HEB.out]
        go_wp2_with fail
        refine (HMK.out _ _ _ _ _ _ _ (s2.below b3) s3 HEZ.out).mono ?_
        rintro _ w4 ⟨s7, A7, n7, c7, A8, n8, c8, rfl, q7, b4⟩
        have x4 := bb b1 (bb b2 (bb b3 b4))
        have B9 := HBr.out.below' x4
        obtain ⟨⟨r0, r1, r2⟩, f0, f1, f2⟩ := B9.three
        go_wp2_with fail
        refine bodyPost_ret (v := .tuple #[.agg #[.bool s7, .slice A7 n7 c7, .slice A8 n8 c8], .int .i64 0]) (by simp [results, Tryd.results11, go_sem, r0, r1, r2]) rfl ?_
        left
        exact ⟨HE.out, _, _, _, _, _, _, _, rfl, q7.put3 ⟨_, _, _, _, _, _, _, B9⟩, below_put3 (bb hb0 x4) (by omega) (Nat.le_refl _) _ _ _⟩
    · have hE := HB.out ea eb
      have HEB := Lib.hid hE.symm
      rw [← hE] at eb
      have hne : (E != 0) = true := by simpa using eb
      have HNE := Lib.hid eb
      have HEA := Lib.hid ea
      clear hE eb ea HA HB HC HD HMK HMZ
      go_enter Tryd.func11, Tryd.ntmps11
      go_wp2_with fail
      rw [HW.out]
      refine (HCP.out _).mono ?_
      rintro _ _ ⟨t, rfl, ht, _, rfl⟩
      have HT := Lib.hid ht
      clear ht
      go_wp2_with fail
      refine (HSP.out t HT.out _).mono ?_
      rintro _ _ ⟨t1, t2, rfl, h1, h2, kk, rfl⟩
      have HT1 := Lib.hid h1
      have HT2 := Lib.hid h2
      have b1 := below_drewN V kk
      clear h1 h2
      generalize V.drewN kk = w1 at b1 ⊢
      go_wp2_with fail
      refine (HR1.out t1 HT1.out _).mono ?_
      rintro _ w2 ⟨A2, n2, c2, rfl, s2, b2⟩
      rw [HEA.out]
      go_wp2_with fail
      refine (HR2.out t2 HT2.out _).mono ?_
      rintro _ w3 ⟨A3, n3, c3, rfl, s3, b3⟩
      rw [HEB.out]
      have x4 := bb b1 (bb b2 b3)
      have B9 := HBr.out.below' x4
      obtain ⟨⟨r0, r1, r2⟩, f0, f1, f2⟩ := B9.three
      go_wp2_with fail
      refine bodyPost_ret (v := .tuple #[.agg #[.bool false, .slice none 0 0, .slice none 0 0], .int .i64 E]) (by simp [results, Tryd.results11, go_sem, r0, r1, r2]) rfl ?_
      right
      exact ⟨HNE.out, rfl, below_put3 (bb hb0 x4) (by omega) (Nat.le_refl _) (.bool false) (.slice none 0 0) (.slice none 0 0)⟩
  · have hE := HA.out ea
    have HEA := Lib.hid hE.symm
    rw [← hE] at ea
    have hne : (E != 0) = true := by simpa using ea
    have HNE := Lib.hid ea
    clear hE ea HA HB HC HD HMK HMZ
    go_enter Tryd.func11, Tryd.ntmps11
    go_wp2_with fail
    rw [HW.out]
    refine (HCP.out _).mono ?_
    rintro _ _ ⟨t, rfl, ht, _, rfl⟩
    have HT := Lib.hid ht
    clear ht
    go_wp2_with fail
    refine (HSP.out t HT.out _).mono ?_
    rintro _ _ ⟨t1, t2, rfl, h1, h2, kk, rfl⟩
    have HT1 := Lib.hid h1
    have HT2 := Lib.hid h2
    have b1 := below_drewN V kk
    clear h1 h2
    generalize V.drewN kk = w1 at b1 ⊢
    go_wp2_with fail
    refine (HR1.out t1 HT1.out _).mono ?_
    rintro _ w2 ⟨A2, n2, c2, rfl, s2, b2⟩
    rw [HEA.out]
    have x4 := bb b1 b2
    have B9 := HBr.out.below' x4
    obtain ⟨⟨r0, r1, r2⟩, f0, f1, f2⟩ := B9.three
    go_wp2_with fail
    refine bodyPost_ret (v := .tuple #[.agg #[.bool false, .slice none 0 0, .slice none 0 0], .int .i64 E]) (by simp [results, Tryd.results11, go_sem, r0, r1, r2]) rfl ?_
    right
    exact ⟨HNE.out, rfl, below_put3 (bb hb0 x4) (by omega) (Nat.le_refl _) (.bool false) (.slice none 0 0) (.slice none 0 0)⟩

end Go.Proofs.YtnheefhbchkbdaaDoor
