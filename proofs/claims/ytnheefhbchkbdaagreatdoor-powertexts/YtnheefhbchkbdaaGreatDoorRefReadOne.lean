/-
  What gradineref08.Read does: the number of a text, or the error's number. Conditions: a text of at most 1000000 bytes.
-/
import Derived.Test.YtnheefhbchkbdaaGreatDoorPowShowAll
namespace Go.Proofs.YtnheefhbchkbdaaGreatDoor
set_option maxRecDepth 100000
open Go.RowKit
set_option linter.unusedVariables false
set_option linter.unusedSimpArgs false

/-- a is the first / from k on, or the end -/
def FI (t : ByteArray) (k a : Nat) : Prop := (k ≤ a ∧ a ≤ t.size) ∧ (∀ j (hj : j < t.size), k ≤ j → j < a → t[j] ≠ 47) ∧ (∀ (h : a < t.size), t[a] = 47)
theorem FI.start (t : ByteArray) : FI t t.size t.size := ⟨⟨Nat.le_refl _, Nat.le_refl _⟩, fun j hj h1 h2 => absurd h1 (by omega), fun h => absurd h (by omega)⟩
theorem FI.yes {t : ByteArray} {i a : Nat} (h : FI t (i + 1) a) (hi : i < t.size) (e : t[i] = 47) : FI t i i := ⟨⟨Nat.le_refl _, by omega⟩, fun j hj h1 h2 => absurd h1 (by omega), fun _ => e⟩
theorem FI.no {t : ByteArray} {i a : Nat} (h : FI t (i + 1) a) (hi : i < t.size) (e : t[i] ≠ 47) : FI t i a := by
  refine ⟨⟨by have := h.1.1; omega, h.1.2⟩, fun j hj h1 h2 => ?_, h.2.2⟩
  by_cases hji : j = i
  · subst hji; exact e
  · exact h.2.1 j hj (by omega) h2
theorem FI.noTo {t : ByteArray} {a : Nat} (h : FI t 0 a) : NoTo t a := by
  intro c hc
  obtain ⟨j, hj, e⟩ := List.getElem_of_mem hc
  have hl : j < a ∧ j < t.size := by
    have := hj
    rw [List.length_take, by_length] at this
    omega
  have h1 := h.2.1 j hl.2 (by omega) hl.1
  have h2 : ((by_ t).take a)[j] = t[j] := by
    rw [List.getElem_take]
    have := by_at t j hl.2
    rw [List.getElem?_eq_getElem (by rw [by_length]; exact hl.2)] at this
    exact Option.some.inj this
  rw [← e, h2]
  simpa using h1
theorem FI.end_ {t : ByteArray} {a : Nat} (h : FI t 0 a) (ha : a < t.size) : above (by_ t) = (by_ t).take a ∧ behind (by_ t) = (by_ t).drop (a + 1) := above_at h.noTo ha (h.2.2 ha)
theorem rd49 : rde [49] = 0 ∧ rdv [49] = 1 := by
  obtain ⟨h1, h2⟩ := rd_good (l := [49]) (by decide) (by exact ⟨by decide, by decide, by decide⟩)
  exact ⟨h2, by rw [h1]; rfl⟩
theorem minus_eq {s : ByteArray} (h0 : 0 < s.size) : (((s[0].toNat : Int) == 45) = true ∧ isNeg (by_ s) = true) ∨ (((s[0].toNat : Int) == 45) = false ∧ isNeg (by_ s) = false) := by
  have hh := by_cons s h0
  by_cases h : s[0] = 45
  · left
    refine ⟨by rw [h]; rfl, ?_⟩
    unfold isNeg; rw [hh, h]; rfl
  · right
    refine ⟨?_, ?_⟩
    · simp
      intro e
      apply h
      have : s[0].toNat = 45 := by omega
      exact UInt8.toNat_inj.1 this
    · unfold isNeg; rw [hh]; simp [h]

set_option maxRecDepth 100000 in
set_option maxHeartbeats 8000000 in
theorem ref_pread (s : ByteArray) (hs : s.size ≤ 1000000) (w : World) :
    Calls Tryz.prog 17 #[.string s] w (RetRQ (rqe (by_ s)) (rqv (by_ s)) w) := by
  obtain ⟨V, hW, Br, hb0⟩ := box0 24 w #[.bool false, .slice none 0 0, .slice none 0 0]
  have hlen := by_length s
  have lb := bare_len (by_ s)
  have la1 := above_len (bare (by_ s))
  have lb1 := behind_len (bare (by_ s))
  have R1 : ∀ (t : ByteArray) (ht : by_ t = above (bare (by_ s))) (w1 : World), Calls Tryz.prog 42 #[.string t] w1 (RetRd (above (bare (by_ s))) w1) := fun t ht w1 => by have := ref_read t (by rw [← by_length, ht]; omega) w1; rw [ht] at this; exact this
  have R2 : ∀ (t : ByteArray) (ht : by_ t = behind (bare (by_ s))) (w1 : World), Calls Tryz.prog 42 #[.string t] w1 (RetRd (behind (bare (by_ s))) w1) := fun t ht w1 => by have := ref_read t (by rw [← by_length, ht]; omega) w1; rw [ht] at this; exact this
  obtain ⟨K1, hK1, k1⟩ := rdv_small (above (bare (by_ s)))
  obtain ⟨K2, hK2, k2⟩ := rdv_small (behind (bare (by_ s)))
  have MK := fun (w1 : World) (C C' : Option Addr) (a b a' b' : Nat) (x : Sl w1 C a b (words (rdv (above (bare (by_ s)))))) (y : Sl w1 C' a' b' (words (rdv (behind (bare (by_ s)))))) (h0 : rdv (behind (bare (by_ s))) ≠ 0) => ref_make (N := 400) (isNeg (by_ s)) x y (by have := x.small k1; omega) (by have := y.small k2; omega) (by omega) (by rw [val_words]; exact h0)
  simp only [val_words] at MK
  have hv : rqv (by_ s) = rq (isNeg (by_ s)) (rdv (above (bare (by_ s)))) (rdv (behind (bare (by_ s)))) := rfl
  rw [← hv] at MK
  have HA := Lib.hid (@rqe_a (by_ s))
  have HB := Lib.hid (@rqe_b (by_ s))
  have HC := Lib.hid (@rqe_c (by_ s))
  have HD := Lib.hid (@rqe_d (by_ s))
  -- the text behind the sign, the sign
  obtain ⟨t, ng, ht, htc, hng⟩ : ∃ (t : ByteArray) (ng : Bool), by_ t = bare (by_ s) ∧ ((ng = false ∧ t = s ∧ (s.size = 0 ∨ ∃ h0 : 0 < s.size, ((s[0].toNat : Int) == 45) = false)) ∨ (ng = true ∧ s.extract 1 s.size = t ∧ ∃ h0 : 0 < s.size, ((s[0].toNat : Int) == 45) = true)) ∧ ng = isNeg (by_ s) := by
    rcases Nat.eq_zero_or_pos s.size with h0 | h0
    · exact ⟨s, false, by unfold bare; rw [isNeg_empty h0]; simp, .inl ⟨rfl, rfl, .inl h0⟩, (isNeg_empty h0).symm⟩
    · rcases minus_eq h0 with ⟨e1, e2⟩ | ⟨e1, e2⟩
      · exact ⟨s.extract 1 s.size, true, by rw [by_drop]; unfold bare; rw [e2]; simp, .inr ⟨rfl, rfl, h0, e1⟩, e2.symm⟩
      · exact ⟨s, false, by unfold bare; rw [e2]; simp, .inl ⟨rfl, rfl, .inr ⟨h0, e1⟩⟩, e2.symm⟩
  have hts : t.size ≤ 1000000 := by rw [← by_length, ht]; omega
  rw [← hng] at MK
  have hab : ∀ a, FI t 0 a → a < t.size → above (bare (by_ s)) = by_ (t.extract 0 a) ∧ behind (bare (by_ s)) = by_ (t.extract (a + 1) t.size) := by
    intro a hf ha
    rw [← ht, by_take, by_drop]
    exact hf.end_ ha
  have hae : ∀ a, FI t 0 a → ¬ a < t.size → above (bare (by_ s)) = by_ (t.extract 0 a) ∧ behind (bare (by_ s)) = [49] := by
    intro a hf ha
    have e : a = t.size := by have := hf.1.2; omega
    subst e
    rw [← ht, by_take]
    have := above_none hf.noTo
    exact ⟨by rw [this.1, List.take_of_length_le (by rw [by_length]; omega)], this.2⟩
  clear hv lb la1 lb1 hlen k1 k2 hng ht
  generalize rqe (by_ s) = E at *
  generalize rqv (by_ s) = Y at *
  generalize hl : by_ s = l at *
  clear hl
  generalize above (bare l) = la at *
  generalize behind (bare l) = lb at *
  have HAB := Lib.hid hab
  have HAE := Lib.hid hae
  have HR1 := Lib.hid R1
  have HR2 := Lib.hid R2
  have HMK := Lib.hid MK
  have HBr := Lib.hid Br
  have HW := Lib.hid hW
  clear hab hae R1 R2 MK Br hW
  rcases htc with ⟨rfl, rfl, h0 | ⟨h0, e0⟩⟩ | ⟨rfl, et, h0, e0⟩
  · have z1 : ¬ (0 : Int) < (t.size : Int) := by omega
    have z2 : decide ((0 : Int) < (t.size : Int)) = false := decide_eq_false z1
    have z3 : decide (0 < t.size) = false := decide_eq_false (by omega)
    have z4 : ¬ 0 < t.size := by omega
    clear h0
    go_enter Tryz.func17, Tryz.ntmps17
    go_wp2_with fail
    rw [HW.out]
    clear HW
    go_loopw [5, 6] (fun av iv wr => ∃ (k a : Nat) (j : Int), av = .int .i64 (a : Int) ∧ iv = .int .i64 j ∧ j + 1 ≤ (k : Int) ∧ (k : Int) ≤ j + 1 ∧ k ≤ t.size ∧ a ≤ t.size ∧ Hid (FI t k a) ∧ wr = V) (fun _ iv _ => (intOf iv + 1).toNat)
    case atStart => exact ⟨t.size, t.size, _, rfl, rfl, by omega, by omega, by omega, by omega, Lib.hid (FI.start t), by first | rfl | trivial⟩
    case round =>
      obtain ⟨k, a, j, rfl, rfl, hj1, hj2, hk, ha, hz, rfl⟩ := hrel
      by_cases hj : 0 ≤ j
      · obtain ⟨i, rfl⟩ := Int.eq_ofNat_of_zero_le hj
        obtain rfl : k = i + 1 := by omega
        have hi : i < t.size := by omega
        have hi2 : (i : Int) < (t.size : Int) := by omega
        rcases slash_eq hi with ⟨e1, e2⟩ | ⟨e1, e2⟩
        · have HN := Lib.hid (hz.out.yes hi e2)
          clear e2
          go_wp2_with fail
          go_roundw
          case rel => exact ⟨i, i, _, rfl, rfl, by omega, by omega, by omega, by omega, HN, by first | rfl | trivial⟩
          case measure => first | (simp [intOf]; done) | (simp [intOf]; omega)
        · have HN := Lib.hid (hz.out.no hi e2)
          clear e2
          go_wp2_with fail
          go_roundw
          case rel => exact ⟨i, a, _, rfl, rfl, by omega, by omega, by omega, by omega, HN, by first | rfl | trivial⟩
          case measure => first | (simp [intOf]; done) | (simp [intOf]; omega)
      · obtain rfl : k = 0 := by omega
        have hj3 : ¬ 0 ≤ j := hj
        have hj4 : decide (0 ≤ j) = false := decide_eq_false hj
        have aI : (a : Int) ≤ (t.size : Int) := by omega
        have a0 : (0 : Int) ≤ (a : Int) := by omega
        by_cases hat : a < t.size
        · obtain ⟨c1, c2⟩ := HAB.out a hz.out hat
          have HC1 := Lib.hid c1.symm
          have HC2 := Lib.hid c2.symm
          have at1 : (a : Int) < (t.size : Int) := by omega
          have at2 : (a : Int) + 1 ≤ (t.size : Int) := by omega
          have at3 : (0 : Int) ≤ (a : Int) + 1 := by omega
          have at4 : ((a : Int) + 1).toNat = a + 1 := by omega
          clear c1 c2 HAB HAE
          exact absurd hat (by omega)
        · obtain ⟨c1, c2⟩ := HAE.out a hz.out hat
          have HC1 := Lib.hid c1.symm
          have HC2 := Lib.hid c2
          have at1 : ¬ (a : Int) < (t.size : Int) := by omega
          have at2 : decide ((a : Int) < (t.size : Int)) = false := decide_eq_false at1
          have at3 : decide (a < t.size) = false := decide_eq_false hat
          clear c1 c2 HAB HAE
          by_cases ea : rde la = 0
          rotate_left
          · have hE := HA.out ea
            have HEA := Lib.hid hE.symm
            rw [← hE] at ea
            have hne : (E != 0) = true := by simpa using ea
            have HNE := Lib.hid ea
            clear hE ea HA HB HC HD HMK
            go_wp2_with fail
            refine (HR1.out _ HC1.out _).mono ?_
            rintro _ w2 ⟨A2, n2, c2, rfl, s2, b2⟩
            rw [HEA.out]
            have x9 := b2
            have B9 := HBr.out.below' x9
            obtain ⟨⟨r0, r1, r2⟩, f0, f1, f2⟩ := B9.three
            go_wp2_with fail
            refine bodyPost_ret (v := .tuple #[.agg #[.bool false, .slice none 0 0, .slice none 0 0], .int .i64 E]) (by simp [results, Tryz.results17, go_sem, r0, r1, r2]) rfl ?_
            right
            exact ⟨HNE.out, rfl, below_put3 (bb hb0 x9) (by omega) (Nat.le_refl _) (.bool false) (.slice none 0 0) (.slice none 0 0)⟩
          have hlb := HC2.out
          have eb : rde lb = 0 := by rw [hlb]; exact rd49.1
          have ev : rdv lb = 1 := by rw [hlb]; exact rd49.2
          have hE := HD.out ea eb (by omega)
          have HE := Lib.hid hE
          have HEA := Lib.hid ea
          have HEV := Lib.hid ev
          clear hE ea eb ev hlb HA HB HC HD
          go_wp2_with fail
          refine (HR1.out _ HC1.out _).mono ?_
          rintro _ w2 ⟨A2, n2, c2, rfl, s2, b2⟩
          rw [HEA.out]
          go_wp2_with fail
          refine (HMK.out _ _ _ _ _ _ _ (s2.below (below_alloc _ _)) (by rw [HEV.out, words_one]; exact sl_lit w2 1 U_1) (by rw [HEV.out]; omega)).mono ?_
          rintro _ w4 ⟨s7, A7, n7, c7, A8, n8, c8, rfl, q7, b4⟩
          have x9 := bb (b2.alloc b2.size _) b4
          have B9 := HBr.out.below' x9
          obtain ⟨⟨r0, r1, r2⟩, f0, f1, f2⟩ := B9.three
          go_wp2_with fail
          refine bodyPost_ret (v := .tuple #[.agg #[.bool s7, .slice A7 n7 c7, .slice A8 n8 c8], .int .i64 0]) (by simp [results, Tryz.results17, go_sem, r0, r1, r2]) rfl ?_
          left
          exact ⟨HE.out, _, _, _, _, _, _, _, rfl, q7.put3 ⟨_, _, _, _, _, _, _, B9⟩, below_put3 (bb hb0 x9) (by omega) (Nat.le_refl _) _ _ _⟩
  · have z1 : (0 : Int) < (t.size : Int) := by omega
    go_enter Tryz.func17, Tryz.ntmps17
    go_wp2_with fail
    rw [HW.out]
    clear HW
    go_loopw [5, 6] (fun av iv wr => ∃ (k a : Nat) (j : Int), av = .int .i64 (a : Int) ∧ iv = .int .i64 j ∧ j + 1 ≤ (k : Int) ∧ (k : Int) ≤ j + 1 ∧ k ≤ t.size ∧ a ≤ t.size ∧ Hid (FI t k a) ∧ wr = V) (fun _ iv _ => (intOf iv + 1).toNat)
    case atStart => exact ⟨t.size, t.size, _, rfl, rfl, by omega, by omega, by omega, by omega, Lib.hid (FI.start t), by first | rfl | trivial⟩
    case round =>
      obtain ⟨k, a, j, rfl, rfl, hj1, hj2, hk, ha, hz, rfl⟩ := hrel
      by_cases hj : 0 ≤ j
      · obtain ⟨i, rfl⟩ := Int.eq_ofNat_of_zero_le hj
        obtain rfl : k = i + 1 := by omega
        have hi : i < t.size := by omega
        have hi2 : (i : Int) < (t.size : Int) := by omega
        rcases slash_eq hi with ⟨e1, e2⟩ | ⟨e1, e2⟩
        · have HN := Lib.hid (hz.out.yes hi e2)
          clear e2
          go_wp2_with fail
          go_roundw
          case rel => exact ⟨i, i, _, rfl, rfl, by omega, by omega, by omega, by omega, HN, by first | rfl | trivial⟩
          case measure => first | (simp [intOf]; done) | (simp [intOf]; omega)
        · have HN := Lib.hid (hz.out.no hi e2)
          clear e2
          go_wp2_with fail
          go_roundw
          case rel => exact ⟨i, a, _, rfl, rfl, by omega, by omega, by omega, by omega, HN, by first | rfl | trivial⟩
          case measure => first | (simp [intOf]; done) | (simp [intOf]; omega)
      · obtain rfl : k = 0 := by omega
        have hj3 : ¬ 0 ≤ j := hj
        have hj4 : decide (0 ≤ j) = false := decide_eq_false hj
        have aI : (a : Int) ≤ (t.size : Int) := by omega
        have a0 : (0 : Int) ≤ (a : Int) := by omega
        by_cases hat : a < t.size
        · obtain ⟨c1, c2⟩ := HAB.out a hz.out hat
          have HC1 := Lib.hid c1.symm
          have HC2 := Lib.hid c2.symm
          have at1 : (a : Int) < (t.size : Int) := by omega
          have at2 : (a : Int) + 1 ≤ (t.size : Int) := by omega
          have at3 : (0 : Int) ≤ (a : Int) + 1 := by omega
          have at4 : ((a : Int) + 1).toNat = a + 1 := by omega
          clear c1 c2 HAB HAE
          by_cases ea : rde la = 0
          rotate_left
          · have hE := HA.out ea
            have HEA := Lib.hid hE.symm
            rw [← hE] at ea
            have hne : (E != 0) = true := by simpa using ea
            have HNE := Lib.hid ea
            clear hE ea HA HB HC HD HMK
            go_wp2_with fail
            refine (HR1.out _ HC1.out _).mono ?_
            rintro _ w2 ⟨A2, n2, c2, rfl, s2, b2⟩
            rw [HEA.out]
            have x9 := b2
            have B9 := HBr.out.below' x9
            obtain ⟨⟨r0, r1, r2⟩, f0, f1, f2⟩ := B9.three
            go_wp2_with fail
            refine bodyPost_ret (v := .tuple #[.agg #[.bool false, .slice none 0 0, .slice none 0 0], .int .i64 E]) (by simp [results, Tryz.results17, go_sem, r0, r1, r2]) rfl ?_
            right
            exact ⟨HNE.out, rfl, below_put3 (bb hb0 x9) (by omega) (Nat.le_refl _) (.bool false) (.slice none 0 0) (.slice none 0 0)⟩
          by_cases eb : rde lb = 0
          rotate_left
          · have hE := HB.out ea eb
            have HEB := Lib.hid hE.symm
            rw [← hE] at eb
            have hne : (E != 0) = true := by simpa using eb
            have HNE := Lib.hid eb
            have HEA := Lib.hid ea
            clear hE ea eb HA HB HC HD HMK
            go_wp2_with fail
            refine (HR1.out _ HC1.out _).mono ?_
            rintro _ w2 ⟨A2, n2, c2, rfl, s2, b2⟩
            rw [HEA.out]
            go_wp2_with fail
            refine (HR2.out _ HC2.out _).mono ?_
            rintro _ w3 ⟨A3, n3, c3, rfl, s3, b3⟩
            rw [HEB.out]
            have x9 := bb (b2.alloc b2.size _) b3
            have B9 := HBr.out.below' x9
            obtain ⟨⟨r0, r1, r2⟩, f0, f1, f2⟩ := B9.three
            go_wp2_with fail
            refine bodyPost_ret (v := .tuple #[.agg #[.bool false, .slice none 0 0, .slice none 0 0], .int .i64 E]) (by simp [results, Tryz.results17, go_sem, r0, r1, r2]) rfl ?_
            right
            exact ⟨HNE.out, rfl, below_put3 (bb hb0 x9) (by omega) (Nat.le_refl _) (.bool false) (.slice none 0 0) (.slice none 0 0)⟩
          by_cases ez : rdv lb = 0
          · have hE := HC.out ea eb ez
            have HE := Lib.hid hE
            have HEA := Lib.hid ea
            have HEB := Lib.hid eb
            have HEZ := Lib.hid ez
            clear hE ea eb ez HA HB HC HD HMK
            go_wp2_with fail
            refine (HR1.out _ HC1.out _).mono ?_
            rintro _ w2 ⟨A2, n2, c2, rfl, s2, b2⟩
            rw [HEA.out]
            go_wp2_with fail
            refine (HR2.out _ HC2.out _).mono ?_
            rintro _ w3 ⟨A3, n3, c3, rfl, s3, b3⟩
            rw [HEB.out]
            have e3 := s3.len
            rw [HEZ.out, words_zero] at e3
            obtain rfl : n3 = 0 := e3
            have x9 := bb (b2.alloc b2.size _) b3
            have B9 := HBr.out.below' x9
            obtain ⟨⟨r0, r1, r2⟩, f0, f1, f2⟩ := B9.three
            go_wp2_with fail
            refine bodyPost_ret (v := .tuple #[.agg #[.bool false, .slice none 0 0, .slice none 0 0], .int .i64 4]) (by simp [results, Tryz.results17, go_sem, r0, r1, r2]) rfl ?_
            right
            rw [HE.out]
            exact ⟨by omega, rfl, below_put3 (bb hb0 x9) (by omega) (Nat.le_refl _) (.bool false) (.slice none 0 0) (.slice none 0 0)⟩
          · have hE := HD.out ea eb ez
            have HE := Lib.hid hE
            have HEA := Lib.hid ea
            have HEB := Lib.hid eb
            have HEZ := Lib.hid ez
            clear hE ea eb ez HA HB HC HD
            go_wp2_with fail
            refine (HR1.out _ HC1.out _).mono ?_
            rintro _ w2 ⟨A2, n2, c2, rfl, s2, b2⟩
            rw [HEA.out]
            go_wp2_with fail
            refine (HR2.out _ HC2.out _).mono ?_
            rintro _ w3 ⟨A3, n3, c3, rfl, s3, b3⟩
            rw [HEB.out]
            have e3 : ¬ n3 = 0 := fun e => HEZ.out ((words_nil_iff' s3.len).1 e)
            have e4 : ((n3 : Int) == 0) = false := by simp; omega
            have e5 : decide (n3 = 0) = false := decide_eq_false e3
            go_wp2_with fail
            refine (HMK.out _ _ _ _ _ _ _ ((s2.below (below_alloc _ _)).below b3) s3 HEZ.out).mono ?_
            rintro _ w4 ⟨s7, A7, n7, c7, A8, n8, c8, rfl, q7, b4⟩
            have x9 := bb (b2.alloc b2.size _) (bb b3 b4)
            have B9 := HBr.out.below' x9
            obtain ⟨⟨r0, r1, r2⟩, f0, f1, f2⟩ := B9.three
            go_wp2_with fail
            refine bodyPost_ret (v := .tuple #[.agg #[.bool s7, .slice A7 n7 c7, .slice A8 n8 c8], .int .i64 0]) (by simp [results, Tryz.results17, go_sem, r0, r1, r2]) rfl ?_
            left
            exact ⟨HE.out, _, _, _, _, _, _, _, rfl, q7.put3 ⟨_, _, _, _, _, _, _, B9⟩, below_put3 (bb hb0 x9) (by omega) (Nat.le_refl _) _ _ _⟩
        · obtain ⟨c1, c2⟩ := HAE.out a hz.out hat
          have HC1 := Lib.hid c1.symm
          have HC2 := Lib.hid c2
          have at1 : ¬ (a : Int) < (t.size : Int) := by omega
          have at2 : decide ((a : Int) < (t.size : Int)) = false := decide_eq_false at1
          have at3 : decide (a < t.size) = false := decide_eq_false hat
          clear c1 c2 HAB HAE
          by_cases ea : rde la = 0
          rotate_left
          · have hE := HA.out ea
            have HEA := Lib.hid hE.symm
            rw [← hE] at ea
            have hne : (E != 0) = true := by simpa using ea
            have HNE := Lib.hid ea
            clear hE ea HA HB HC HD HMK
            go_wp2_with fail
            refine (HR1.out _ HC1.out _).mono ?_
            rintro _ w2 ⟨A2, n2, c2, rfl, s2, b2⟩
            rw [HEA.out]
            have x9 := b2
            have B9 := HBr.out.below' x9
            obtain ⟨⟨r0, r1, r2⟩, f0, f1, f2⟩ := B9.three
            go_wp2_with fail
            refine bodyPost_ret (v := .tuple #[.agg #[.bool false, .slice none 0 0, .slice none 0 0], .int .i64 E]) (by simp [results, Tryz.results17, go_sem, r0, r1, r2]) rfl ?_
            right
            exact ⟨HNE.out, rfl, below_put3 (bb hb0 x9) (by omega) (Nat.le_refl _) (.bool false) (.slice none 0 0) (.slice none 0 0)⟩
          have hlb := HC2.out
          have eb : rde lb = 0 := by rw [hlb]; exact rd49.1
          have ev : rdv lb = 1 := by rw [hlb]; exact rd49.2
          have hE := HD.out ea eb (by omega)
          have HE := Lib.hid hE
          have HEA := Lib.hid ea
          have HEV := Lib.hid ev
          clear hE ea eb ev hlb HA HB HC HD
          go_wp2_with fail
          refine (HR1.out _ HC1.out _).mono ?_
          rintro _ w2 ⟨A2, n2, c2, rfl, s2, b2⟩
          rw [HEA.out]
          go_wp2_with fail
          refine (HMK.out _ _ _ _ _ _ _ (s2.below (below_alloc _ _)) (by rw [HEV.out, words_one]; exact sl_lit w2 1 U_1) (by rw [HEV.out]; omega)).mono ?_
          rintro _ w4 ⟨s7, A7, n7, c7, A8, n8, c8, rfl, q7, b4⟩
          have x9 := bb (b2.alloc b2.size _) b4
          have B9 := HBr.out.below' x9
          obtain ⟨⟨r0, r1, r2⟩, f0, f1, f2⟩ := B9.three
          go_wp2_with fail
          refine bodyPost_ret (v := .tuple #[.agg #[.bool s7, .slice A7 n7 c7, .slice A8 n8 c8], .int .i64 0]) (by simp [results, Tryz.results17, go_sem, r0, r1, r2]) rfl ?_
          left
          exact ⟨HE.out, _, _, _, _, _, _, _, rfl, q7.put3 ⟨_, _, _, _, _, _, _, B9⟩, below_put3 (bb hb0 x9) (by omega) (Nat.le_refl _) _ _ _⟩
  · have z1 : (0 : Int) < (s.size : Int) := by omega
    have z2 : (1 : Int) ≤ (s.size : Int) := by omega
    go_enter Tryz.func17, Tryz.ntmps17
    go_wp2_with fail
    rw [HW.out]
    clear HW
    go_loopw [5, 6] (fun av iv wr => ∃ (k a : Nat) (j : Int), av = .int .i64 (a : Int) ∧ iv = .int .i64 j ∧ j + 1 ≤ (k : Int) ∧ (k : Int) ≤ j + 1 ∧ k ≤ t.size ∧ a ≤ t.size ∧ Hid (FI t k a) ∧ wr = V) (fun _ iv _ => (intOf iv + 1).toNat)
    case atStart => exact ⟨t.size, t.size, _, rfl, rfl, by omega, by omega, by omega, by omega, Lib.hid (FI.start t), by first | rfl | trivial⟩
    case round =>
      obtain ⟨k, a, j, rfl, rfl, hj1, hj2, hk, ha, hz, rfl⟩ := hrel
      by_cases hj : 0 ≤ j
      · obtain ⟨i, rfl⟩ := Int.eq_ofNat_of_zero_le hj
        obtain rfl : k = i + 1 := by omega
        have hi : i < t.size := by omega
        have hi2 : (i : Int) < (t.size : Int) := by omega
        rcases slash_eq hi with ⟨e1, e2⟩ | ⟨e1, e2⟩
        · have HN := Lib.hid (hz.out.yes hi e2)
          clear e2
          go_wp2_with fail
          go_roundw
          case rel => exact ⟨i, i, _, rfl, rfl, by omega, by omega, by omega, by omega, HN, by first | rfl | trivial⟩
          case measure => first | (simp [intOf]; done) | (simp [intOf]; omega)
        · have HN := Lib.hid (hz.out.no hi e2)
          clear e2
          go_wp2_with fail
          go_roundw
          case rel => exact ⟨i, a, _, rfl, rfl, by omega, by omega, by omega, by omega, HN, by first | rfl | trivial⟩
          case measure => first | (simp [intOf]; done) | (simp [intOf]; omega)
      · obtain rfl : k = 0 := by omega
        have hj3 : ¬ 0 ≤ j := hj
        have hj4 : decide (0 ≤ j) = false := decide_eq_false hj
        have aI : (a : Int) ≤ (t.size : Int) := by omega
        have a0 : (0 : Int) ≤ (a : Int) := by omega
        by_cases hat : a < t.size
        · obtain ⟨c1, c2⟩ := HAB.out a hz.out hat
          have HC1 := Lib.hid c1.symm
          have HC2 := Lib.hid c2.symm
          have at1 : (a : Int) < (t.size : Int) := by omega
          have at2 : (a : Int) + 1 ≤ (t.size : Int) := by omega
          have at3 : (0 : Int) ≤ (a : Int) + 1 := by omega
          have at4 : ((a : Int) + 1).toNat = a + 1 := by omega
          clear c1 c2 HAB HAE
          by_cases ea : rde la = 0
          rotate_left
          · have hE := HA.out ea
            have HEA := Lib.hid hE.symm
            rw [← hE] at ea
            have hne : (E != 0) = true := by simpa using ea
            have HNE := Lib.hid ea
            clear hE ea HA HB HC HD HMK
            go_wp2_with fail
            refine (HR1.out _ HC1.out _).mono ?_
            rintro _ w2 ⟨A2, n2, c2, rfl, s2, b2⟩
            rw [HEA.out]
            have x9 := b2
            have B9 := HBr.out.below' x9
            obtain ⟨⟨r0, r1, r2⟩, f0, f1, f2⟩ := B9.three
            go_wp2_with fail
            refine bodyPost_ret (v := .tuple #[.agg #[.bool false, .slice none 0 0, .slice none 0 0], .int .i64 E]) (by simp [results, Tryz.results17, go_sem, r0, r1, r2]) rfl ?_
            right
            exact ⟨HNE.out, rfl, below_put3 (bb hb0 x9) (by omega) (Nat.le_refl _) (.bool false) (.slice none 0 0) (.slice none 0 0)⟩
          by_cases eb : rde lb = 0
          rotate_left
          · have hE := HB.out ea eb
            have HEB := Lib.hid hE.symm
            rw [← hE] at eb
            have hne : (E != 0) = true := by simpa using eb
            have HNE := Lib.hid eb
            have HEA := Lib.hid ea
            clear hE ea eb HA HB HC HD HMK
            go_wp2_with fail
            refine (HR1.out _ HC1.out _).mono ?_
            rintro _ w2 ⟨A2, n2, c2, rfl, s2, b2⟩
            rw [HEA.out]
            go_wp2_with fail
            refine (HR2.out _ HC2.out _).mono ?_
            rintro _ w3 ⟨A3, n3, c3, rfl, s3, b3⟩
            rw [HEB.out]
            have x9 := bb (b2.alloc b2.size _) b3
            have B9 := HBr.out.below' x9
            obtain ⟨⟨r0, r1, r2⟩, f0, f1, f2⟩ := B9.three
            go_wp2_with fail
            refine bodyPost_ret (v := .tuple #[.agg #[.bool false, .slice none 0 0, .slice none 0 0], .int .i64 E]) (by simp [results, Tryz.results17, go_sem, r0, r1, r2]) rfl ?_
            right
            exact ⟨HNE.out, rfl, below_put3 (bb hb0 x9) (by omega) (Nat.le_refl _) (.bool false) (.slice none 0 0) (.slice none 0 0)⟩
          by_cases ez : rdv lb = 0
          · have hE := HC.out ea eb ez
            have HE := Lib.hid hE
            have HEA := Lib.hid ea
            have HEB := Lib.hid eb
            have HEZ := Lib.hid ez
            clear hE ea eb ez HA HB HC HD HMK
            go_wp2_with fail
            refine (HR1.out _ HC1.out _).mono ?_
            rintro _ w2 ⟨A2, n2, c2, rfl, s2, b2⟩
            rw [HEA.out]
            go_wp2_with fail
            refine (HR2.out _ HC2.out _).mono ?_
            rintro _ w3 ⟨A3, n3, c3, rfl, s3, b3⟩
            rw [HEB.out]
            have e3 := s3.len
            rw [HEZ.out, words_zero] at e3
            obtain rfl : n3 = 0 := e3
            have x9 := bb (b2.alloc b2.size _) b3
            have B9 := HBr.out.below' x9
            obtain ⟨⟨r0, r1, r2⟩, f0, f1, f2⟩ := B9.three
            go_wp2_with fail
            refine bodyPost_ret (v := .tuple #[.agg #[.bool false, .slice none 0 0, .slice none 0 0], .int .i64 4]) (by simp [results, Tryz.results17, go_sem, r0, r1, r2]) rfl ?_
            right
            rw [HE.out]
            exact ⟨by omega, rfl, below_put3 (bb hb0 x9) (by omega) (Nat.le_refl _) (.bool false) (.slice none 0 0) (.slice none 0 0)⟩
          · have hE := HD.out ea eb ez
            have HE := Lib.hid hE
            have HEA := Lib.hid ea
            have HEB := Lib.hid eb
            have HEZ := Lib.hid ez
            clear hE ea eb ez HA HB HC HD
            go_wp2_with fail
            refine (HR1.out _ HC1.out _).mono ?_
            rintro _ w2 ⟨A2, n2, c2, rfl, s2, b2⟩
            rw [HEA.out]
            go_wp2_with fail
            refine (HR2.out _ HC2.out _).mono ?_
            rintro _ w3 ⟨A3, n3, c3, rfl, s3, b3⟩
            rw [HEB.out]
            have e3 : ¬ n3 = 0 := fun e => HEZ.out ((words_nil_iff' s3.len).1 e)
            have e4 : ((n3 : Int) == 0) = false := by simp; omega
            have e5 : decide (n3 = 0) = false := decide_eq_false e3
            go_wp2_with fail
            refine (HMK.out _ _ _ _ _ _ _ ((s2.below (below_alloc _ _)).below b3) s3 HEZ.out).mono ?_
            rintro _ w4 ⟨s7, A7, n7, c7, A8, n8, c8, rfl, q7, b4⟩
            have x9 := bb (b2.alloc b2.size _) (bb b3 b4)
            have B9 := HBr.out.below' x9
            obtain ⟨⟨r0, r1, r2⟩, f0, f1, f2⟩ := B9.three
            go_wp2_with fail
            refine bodyPost_ret (v := .tuple #[.agg #[.bool s7, .slice A7 n7 c7, .slice A8 n8 c8], .int .i64 0]) (by simp [results, Tryz.results17, go_sem, r0, r1, r2]) rfl ?_
            left
            exact ⟨HE.out, _, _, _, _, _, _, _, rfl, q7.put3 ⟨_, _, _, _, _, _, _, B9⟩, below_put3 (bb hb0 x9) (by omega) (Nat.le_refl _) _ _ _⟩
        · obtain ⟨c1, c2⟩ := HAE.out a hz.out hat
          have HC1 := Lib.hid c1.symm
          have HC2 := Lib.hid c2
          have at1 : ¬ (a : Int) < (t.size : Int) := by omega
          have at2 : decide ((a : Int) < (t.size : Int)) = false := decide_eq_false at1
          have at3 : decide (a < t.size) = false := decide_eq_false hat
          clear c1 c2 HAB HAE
          by_cases ea : rde la = 0
          rotate_left
          · have hE := HA.out ea
            have HEA := Lib.hid hE.symm
            rw [← hE] at ea
            have hne : (E != 0) = true := by simpa using ea
            have HNE := Lib.hid ea
            clear hE ea HA HB HC HD HMK
            go_wp2_with fail
            refine (HR1.out _ HC1.out _).mono ?_
            rintro _ w2 ⟨A2, n2, c2, rfl, s2, b2⟩
            rw [HEA.out]
            have x9 := b2
            have B9 := HBr.out.below' x9
            obtain ⟨⟨r0, r1, r2⟩, f0, f1, f2⟩ := B9.three
            go_wp2_with fail
            refine bodyPost_ret (v := .tuple #[.agg #[.bool false, .slice none 0 0, .slice none 0 0], .int .i64 E]) (by simp [results, Tryz.results17, go_sem, r0, r1, r2]) rfl ?_
            right
            exact ⟨HNE.out, rfl, below_put3 (bb hb0 x9) (by omega) (Nat.le_refl _) (.bool false) (.slice none 0 0) (.slice none 0 0)⟩
          have hlb := HC2.out
          have eb : rde lb = 0 := by rw [hlb]; exact rd49.1
          have ev : rdv lb = 1 := by rw [hlb]; exact rd49.2
          have hE := HD.out ea eb (by omega)
          have HE := Lib.hid hE
          have HEA := Lib.hid ea
          have HEV := Lib.hid ev
          clear hE ea eb ev hlb HA HB HC HD
          go_wp2_with fail
          refine (HR1.out _ HC1.out _).mono ?_
          rintro _ w2 ⟨A2, n2, c2, rfl, s2, b2⟩
          rw [HEA.out]
          go_wp2_with fail
          refine (HMK.out _ _ _ _ _ _ _ (s2.below (below_alloc _ _)) (by rw [HEV.out, words_one]; exact sl_lit w2 1 U_1) (by rw [HEV.out]; omega)).mono ?_
          rintro _ w4 ⟨s7, A7, n7, c7, A8, n8, c8, rfl, q7, b4⟩
          have x9 := bb (b2.alloc b2.size _) b4
          have B9 := HBr.out.below' x9
          obtain ⟨⟨r0, r1, r2⟩, f0, f1, f2⟩ := B9.three
          go_wp2_with fail
          refine bodyPost_ret (v := .tuple #[.agg #[.bool s7, .slice A7 n7 c7, .slice A8 n8 c8], .int .i64 0]) (by simp [results, Tryz.results17, go_sem, r0, r1, r2]) rfl ?_
          left
          exact ⟨HE.out, _, _, _, _, _, _, _, rfl, q7.put3 ⟨_, _, _, _, _, _, _, B9⟩, below_put3 (bb hb0 x9) (by omega) (Nat.le_refl _) _ _ _⟩

end Go.Proofs.YtnheefhbchkbdaaGreatDoor
