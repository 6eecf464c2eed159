/-
  Words that the laws of powers use: gradinelaw08.same and right; a power whatever the exponent.
-/
import Derived.Test.YtnheefhbchkbdaaGreatDoorPowMathAll
import Derived.Test.YtnheefhbchkbdaaGreatDoorRefDigit2
import Derived.Test.YtnheefhbchkbdaaGreatDoorPowPowAll
namespace Go.Proofs.YtnheefhbchkbdaaGreatDoor
set_option maxRecDepth 100000
open Go.RowKit
set_option linter.unusedVariables false
set_option linter.unusedSimpArgs false

theorem by_take (s : ByteArray) (k : Nat) : by_ (s.extract 0 k) = (by_ s).take k := by
  unfold by_
  rw [ByteArray.data_extract, Array.toList_extract]
  simp [List.extract]
theorem neg_test (s : ByteArray) : ((s.extract 0 1).toList == [45]) = isNeg (by_ s) := by
  rw [toList_by, by_take]
  unfold isNeg
  match by_ s with
  | [] => rfl
  | c :: l => simp [List.take]
theorem isNeg_empty {s : ByteArray} (h : s.size = 0) : isNeg (by_ s) = false := by
  have : by_ s = [] := List.eq_nil_of_length_eq_zero (by rw [by_length]; exact h)
  rw [this]; rfl

set_option maxRecDepth 100000 in
set_option maxHeartbeats 1000000 in
theorem has_prefix (s : ByteArray) (hs : s.size ≤ 9223372036854775807) (w : World) :
    Calls Tryz.prog 91 #[.string s, .string ⟨#[45]⟩] w fun e w' => e = .returned (.bool (isNeg (by_ s))) ∧ w = w' := by
  rcases Nat.eq_zero_or_pos s.size with h0 | h0
  · rw [isNeg_empty h0]
    have h1 : ¬ (1 : Int) ≤ (s.size : Int) := by omega
    have h2 : decide ((1 : Int) ≤ (s.size : Int)) = false := decide_eq_false h1
    have h3 : decide (1 ≤ s.size) = false := decide_eq_false (by omega)
    go_enter Tryz.func91, Tryz.ntmps91
    go_wp2_with fail
    go_ret
    exact ⟨rfl, rfl⟩
  · rw [← neg_test]
    go_enter Tryz.func91, Tryz.ntmps91
    go_wp2_with fail
    go_ret
    exact ⟨rfl, rfl⟩
/-- a call that returns a text and a bool -/
def RetCut (l : List UInt8) (w : World) (e : Ending) (w' : World) : Prop := ∃ t, e = .returned (.tuple #[.string t, .bool (isNeg l)]) ∧ by_ t = bare l ∧ t.size ≤ l.length ∧ w = w'
set_option maxRecDepth 100000 in
set_option maxHeartbeats 1000000 in
theorem cut_lite (s : ByteArray) (hs : s.size ≤ 9223372036854775807) (w : World) :
    Calls Tryz.prog 73 #[.string s, .string ⟨#[45]⟩] w (RetCut (by_ s) w) := by
  have HP := has_prefix s hs w
  have hb : bare (by_ s) = if isNeg (by_ s) then (by_ s).drop 1 else by_ s := rfl
  have hl := by_length s
  unfold RetCut
  cases hn : isNeg (by_ s)
  · rw [hn] at HP hb
    have HB := Lib.hid hb
    have HHP := Lib.hid HP
    have HL := Lib.hid hl
    clear HP hb hl hn
    go_enter Tryz.func73, Tryz.ntmps73
    go_wp2_with fail
    refine HHP.out.mono ?_
    rintro _ _ ⟨rfl, rfl⟩
    go_wp2_with fail
    go_ret2
    exact ⟨_, rfl, by rw [HB.out]; simp, by rw [HL.out]; omega, rfl⟩
  · have h0 : 0 < s.size := by
      rcases Nat.eq_zero_or_pos s.size with h0 | h0
      · rw [isNeg_empty h0] at hn; cases hn
      · exact h0
    rw [hn] at HP hb
    have HB := Lib.hid hb
    have HHP := Lib.hid HP
    have HL := Lib.hid hl
    have hd := by_drop s 1
    have HD := Lib.hid hd
    clear HP hb hl hn hd
    go_enter Tryz.func73, Tryz.ntmps73
    go_wp2_with fail
    refine HHP.out.mono ?_
    rintro _ _ ⟨rfl, rfl⟩
    go_wp2_with fail
    go_ret2
    exact ⟨_, rfl, by rw [HB.out, HD.out]; simp, by rw [← by_length, HD.out, List.length_drop]; omega, rfl⟩
set_option maxRecDepth 100000 in
set_option maxHeartbeats 1000000 in
theorem cut_prefix (s : ByteArray) (hs : s.size ≤ 9223372036854775807) (w : World) :
    Calls Tryz.prog 38 #[.string s, .string ⟨#[45]⟩] w (RetCut (by_ s) w) := by
  have H := Lib.hid (cut_lite s hs w)
  go_enter Tryz.func38, Tryz.ntmps38
  go_wp2_with fail
  refine H.out.mono ?_
  rintro _ _ ⟨t, rfl, ht, hl, rfl⟩
  have HT := Lib.hid ht
  clear ht
  go_wp2_with fail
  go_ret2
  exact ⟨_, rfl, HT.out, hl, rfl⟩

/-- no / among the first k -/
def NoTo (s : ByteArray) (k : Nat) : Prop := ∀ c ∈ (by_ s).take k, (c != 47) = true
theorem NoTo.step {s : ByteArray} {k : Nat} (h : NoTo s k) (hk : k < s.size) (h1 : s[k] ≠ 47) : NoTo s (k + 1) := by
  intro c hc
  rw [List.take_add_one, by_at s k hk] at hc
  simp at hc
  rcases hc with hc | rfl
  · exact h c hc
  · simpa using h1
theorem above_at {s : ByteArray} {k : Nat} (h : NoTo s k) (hk : k < s.size) (h1 : s[k] = 47) : above (by_ s) = (by_ s).take k ∧ behind (by_ s) = (by_ s).drop (k + 1) := by
  have e : by_ s = (by_ s).take k ++ 47 :: (by_ s).drop (k + 1) := by
    have h2 := by_at s k hk
    rw [h1] at h2
    have hlt : k < (by_ s).length := by rw [by_length]; exact hk
    have h3 : (by_ s)[k] = 47 := by rw [List.getElem?_eq_getElem hlt] at h2; exact Option.some.inj h2
    rw [← h3, ← List.drop_eq_getElem_cons hlt, List.take_append_drop]
  generalize hA : (by_ s).take k = a at *
  generalize hB : (by_ s).drop (k + 1) = b at *
  have hc : ∀ c ∈ a, (c != 47) = true := by intro c hc; rw [← hA] at hc; exact h c hc
  rw [e]
  unfold above behind
  refine ⟨?_, ?_⟩
  · rw [takeWhile_all hc]; simp
  · rw [if_pos (by simp), dropWhile_all hc]; simp
theorem above_none {s : ByteArray} (h : NoTo s s.size) : above (by_ s) = by_ s ∧ behind (by_ s) = [49] := by
  have hc : ∀ c ∈ by_ s, (c != 47) = true := by
    intro c hc
    exact h c (by rw [List.take_of_length_le (by rw [by_length]; exact Nat.le_refl _)]; exact hc)
  unfold above behind
  refine ⟨?_, ?_⟩
  · have := takeWhile_all (r := []) hc
    simpa using this
  · rw [if_neg]
    simp only [List.contains_eq_mem, decide_eq_true_eq]
    intro h47
    have := hc 47 h47
    simp at this
/-- a call that returns two texts -/
def RetTwo (a b : List UInt8) (w : World) (e : Ending) (w' : World) : Prop := ∃ t u, e = .returned (.tuple #[.string t, .string u]) ∧ by_ t = a ∧ by_ u = b ∧ ∃ k, w' = w.drewN k
theorem slash_eq {s : ByteArray} {k : Nat} (hk : k < s.size) : (((s[k].toNat : Int) == 47) = true ∧ s[k] = 47) ∨ (((s[k].toNat : Int) == 47) = false ∧ s[k] ≠ 47) := by
  by_cases h : s[k] = 47
  · left; rw [h]; exact ⟨rfl, rfl⟩
  · right
    refine ⟨?_, h⟩
    simp
    intro e
    apply h
    have : s[k].toNat = 47 := by omega
    exact UInt8.toNat_inj.1 this
set_option maxRecDepth 100000 in
set_option maxHeartbeats 2000000 in
theorem pw_split (s : ByteArray) (hs : s.size ≤ 4611686018427387904) (w : World) :
    Calls Tryz.prog 39 #[.string s] w (RetTwo (above (by_ s)) (behind (by_ s)) w) := by
  go_enter Tryz.func39, Tryz.ntmps39
  go_wp2_with fail
  go_loopw [7] (fun i wr => ∃ k : Nat, k ≤ s.size ∧ i = .int .i64 k ∧ Hid (NoTo s k) ∧ wr = w) (fun i _ => s.size - mes i)
  case atStart => exact ⟨0, by omega, rfl, Lib.hid (by intro c hc; simp at hc), rfl⟩
  case round =>
    obtain ⟨k, hk, rfl, hz, rfl⟩ := hrel
    by_cases hk2 : k < s.size
    · rcases slash_eq hk2 with ⟨e1, e2⟩ | ⟨e1, e2⟩
      · have ha := above_at hz.out hk2 e2
        have HA := Lib.hid ha.1
        have HB := Lib.hid ha.2
        have ht := by_take s k
        have hd := by_drop s (k + 1)
        have HT := Lib.hid ht
        have HD := Lib.hid hd
        have wk : IntKind.i64.wrap ((k : Int) + 1) = (k : Int) + 1 := IntWalk.i64_in _ (by omega)
        have w0 : (0 : Int) ≤ (k : Int) + 1 := by omega
        have w1 : ((k : Int) + 1).toNat = k + 1 := by omega
        have w2 : (k : Int) + 1 ≤ (s.size : Int) := by omega
        have w3 : (k : Int) ≤ (s.size : Int) := by omega
        clear ha ht hd e2
        go_wp2_with fail
        go_region
        all_goals
          go_wp2_with fail
          go_ret2
          exact ⟨_, _, rfl, by rw [HA.out]; exact HT.out, by rw [HB.out]; exact HD.out, 1, rfl⟩
      · have HN := Lib.hid (hz.out.step hk2 e2)
        clear e2
        go_wp2_with fail
        go_roundw
        case rel => exact ⟨k + 1, by omega, by go_num, HN, by first | rfl | trivial⟩
        case measure => simp [mes, intOf]; omega
    · obtain rfl : k = s.size := by omega
      have ha := above_none hz.out
      have HA := Lib.hid ha.1
      have HB := Lib.hid ha.2
      clear ha
      go_wp2_with fail
      go_ret2
      exact ⟨_, _, rfl, by rw [HA.out], by rw [HB.out]; rfl, 0, rfl⟩

end Go.Proofs.YtnheefhbchkbdaaGreatDoor

namespace Go.Proofs.YtnheefhbchkbdaaGreatDoor
set_option maxRecDepth 100000
open Go.RowKit
set_option linter.unusedVariables false
set_option linter.unusedSimpArgs false

theorem rdv_small (l : List UInt8) : ∃ K, K ≤ 400 ∧ rdv l < W ^ K := by
  by_cases h : l.length ≤ 400 ∧ IsNum l
  · refine ⟨l.length, h.1, ?_⟩
    rw [(rd_good h.1 h.2).1]
    have := rd_take_lt h.2 l.length (Nat.le_refl _)
    rw [List.take_length] at this
    exact this
  · refine ⟨1, by omega, ?_⟩
    have hz : rdv l = 0 := by
      by_cases h1 : 400 < l.length
      · exact (rd_long h1).1
      · exact (rd_form (by omega) (fun h2 => h ⟨by omega, h2⟩)).1
    rw [hz, Nat.pow_one]; unfold W; omega
theorem bare_len (l : List UInt8) : (bare l).length ≤ l.length := by
  unfold bare; split
  · rw [List.length_drop]; omega
  · omega
theorem above_len (l : List UInt8) : (above l).length ≤ l.length := by
  unfold above
  have := congrArg List.length (List.takeWhile_append_dropWhile (p := (· != 47)) (l := l))
  rw [List.length_append] at this; omega
theorem behind_len (l : List UInt8) : (behind l).length ≤ l.length + 1 := by
  unfold behind; split
  · have := congrArg List.length (List.takeWhile_append_dropWhile (p := (· != 47)) (l := l))
    rw [List.length_append] at this
    rw [List.length_drop]; omega
  · simp
/-- the number of a text, or the error's number -/
def RetRQ (E : Int) (Y : Rat) (w : World) (e : Ending) (w' : World) : Prop :=
  (E = 0 ∧ RetQE Y 0 w e w') ∨ (E ≠ 0 ∧ RetNo E w e w')
theorem rqe_a {l : List UInt8} (h : rde (above (bare l)) ≠ 0) : rqe l = rde (above (bare l)) := by unfold rqe; rw [if_pos h]
theorem rqe_b {l : List UInt8} (h0 : rde (above (bare l)) = 0) (h : rde (behind (bare l)) ≠ 0) : rqe l = rde (behind (bare l)) := by
  unfold rqe; rw [if_neg (by omega), if_pos h]
theorem rqe_c {l : List UInt8} (h0 : rde (above (bare l)) = 0) (h1 : rde (behind (bare l)) = 0) (h : rdv (behind (bare l)) = 0) : rqe l = 4 := by
  unfold rqe; rw [if_neg (by omega), if_neg (by omega), if_pos h]
theorem rqe_d {l : List UInt8} (h0 : rde (above (bare l)) = 0) (h1 : rde (behind (bare l)) = 0) (h : rdv (behind (bare l)) ≠ 0) : rqe l = 0 := by
  unfold rqe; rw [if_neg (by omega), if_neg (by omega), if_neg h]

set_option maxRecDepth 100000 in
set_option maxHeartbeats 4000000 in
theorem pw_read (s : ByteArray) (hs : s.size ≤ 1000000) (w : World) :
    Calls Tryz.prog 16 #[.string s] w (RetRQ (rqe (by_ s)) (rqv (by_ s)) w) := by
  obtain ⟨V, hW, Br, hb0⟩ := box0 24 w #[.bool false, .slice none 0 0, .slice none 0 0]
  have CP := fun w1 => cut_prefix s (by omega) w1
  have hlen := by_length s
  have lb := bare_len (by_ s)
  have la1 := above_len (bare (by_ s))
  have lb1 := behind_len (bare (by_ s))
  have SP := fun (t : ByteArray) (ht : by_ t = bare (by_ s)) w1 => pw_split t (by rw [← by_length, ht]; omega) w1
  have SP' : ∀ (t : ByteArray) (ht : by_ t = bare (by_ s)) (w1 : World), Calls Tryz.prog 39 #[.string t] w1 (RetTwo (above (bare (by_ s))) (behind (bare (by_ s))) w1) := fun t ht w1 => by have := SP t ht w1; rw [ht] at this; exact this
  have R1 : ∀ (t : ByteArray) (ht : by_ t = above (bare (by_ s))) (w1 : World), Calls Tryz.prog 40 #[.string t] w1 (RetRd (above (bare (by_ s))) w1) := fun t ht w1 => by have := digit_read t (by rw [← by_length, ht]; omega) w1; rw [ht] at this; exact this
  have R2 : ∀ (t : ByteArray) (ht : by_ t = behind (bare (by_ s))) (w1 : World), Calls Tryz.prog 40 #[.string t] w1 (RetRd (behind (bare (by_ s))) w1) := fun t ht w1 => by have := digit_read t (by rw [← by_length, ht]; omega) w1; rw [ht] at this; exact this
  obtain ⟨K1, hK1, k1⟩ := rdv_small (above (bare (by_ s)))
  obtain ⟨K2, hK2, k2⟩ := rdv_small (behind (bare (by_ s)))
  have MK := fun (w1 : World) (C C' : Option Addr) (a b a' b' : Nat) (x : Sl w1 C a b (words (rdv (above (bare (by_ s)))))) (y : Sl w1 C' a' b' (words (rdv (behind (bare (by_ s)))))) (h0 : rdv (behind (bare (by_ s))) ≠ 0) => rat_make (isNeg (by_ s)) x y (by have := x.small k1; omega) (by have := y.small k2; omega) (by rw [val_words]; exact h0)
  have MZ := fun (w1 : World) (C C' : Option Addr) (a b a' b' : Nat) (y : Sl w1 C' a' b' (words (rdv (behind (bare (by_ s)))))) (h0 : rdv (behind (bare (by_ s))) = 0) => rat_make_zero (A := C) (n := a) (c := b) (xs := []) (isNeg (by_ s)) y (by have := y.small k2; omega) (by rw [val_words]; exact h0)
  simp only [val_words] at MK
  have hv : rqv (by_ s) = rq (isNeg (by_ s)) (rdv (above (bare (by_ s)))) (rdv (behind (bare (by_ s)))) := rfl
  rw [← hv] at MK
  have HA := Lib.hid (@rqe_a (by_ s))
  have HB := Lib.hid (@rqe_b (by_ s))
  have HC := Lib.hid (@rqe_c (by_ s))
  have HD := Lib.hid (@rqe_d (by_ s))
  clear hv lb la1 lb1 hlen SP k1 k2
  generalize rqe (by_ s) = E at *
  generalize rqv (by_ s) = Y at *
  generalize hl : by_ s = l at *
  clear hl
  generalize above (bare l) = la at *
  generalize behind (bare l) = lb at *
  have HCP := Lib.hid CP
  have HSP := Lib.hid SP'
  have HR1 := Lib.hid R1
  have HR2 := Lib.hid R2
  have HMK := Lib.hid MK
  have HMZ := Lib.hid MZ
  have HBr := Lib.hid Br
  have HW := Lib.hid hW
  clear CP SP' R1 R2 MK MZ Br hW
  by_cases ea : rde la = 0
  · rw [ea] at HA
    by_cases eb : rde lb = 0
    · rw [eb] at HB
      by_cases ez : rdv lb = 0
      · have hE := HC.out ea eb ez
        have HE := Lib.hid hE
        have HEA := Lib.hid ea
        have HEB := Lib.hid eb
        have HEZ := Lib.hid ez
        clear hE ea eb ez HA HB HC HD
        go_enter Tryz.func16, Tryz.ntmps16
        go_wp2_with fail
        rw [HW.out]
        refine (HCP.out _).mono ?_
        rintro _ _ ⟨t, rfl, ht, _, rfl⟩
        have HT := Lib.hid ht
        clear ht
        go_wp2_with fail
        refine (HSP.out t HT.out _).mono ?_
        rintro _ _ ⟨t1, t2, rfl, h1, h2, kk, rfl⟩
        have HT1 := Lib.hid h1
        have HT2 := Lib.hid h2
        have b1 := below_drewN V kk
        clear h1 h2
        generalize V.drewN kk = w1 at b1 ⊢
        go_wp2_with fail
        refine (HR1.out t1 HT1.out _).mono ?_
        rintro _ w2 ⟨A2, n2, c2, rfl, s2, b2⟩
        rw [HEA.out]
        go_wp2_with fail
        refine (HR2.out t2 HT2.out _).mono ?_
        rintro _ w3 ⟨A3, n3, c3, rfl, s3, b3⟩
        rw [HEB.out]
        go_wp2_with fail
        refine (HMZ.out _ _ _ _ _ _ _ s3 HEZ.out).mono ?_
        rintro _ w4 ⟨rfl, b4⟩
        have x4 := bb b1 (bb b2 (bb b3 b4))
        have B9 := HBr.out.below' x4
        obtain ⟨⟨r0, r1, r2⟩, f0, f1, f2⟩ := B9.three
        go_wp2_with fail
        refine bodyPost_ret (v := .tuple #[.agg #[.bool false, .slice none 0 0, .slice none 0 0], .int .i64 4]) (by simp [results, Tryz.results16, go_sem, r0, r1, r2]) rfl ?_
        right
        rw [HE.out]
        exact ⟨by omega, rfl, below_put3 (bb hb0 x4) (by omega) (Nat.le_refl _) (.bool false) (.slice none 0 0) (.slice none 0 0)⟩
      · have hE := HD.out ea eb ez
        have HE := Lib.hid hE
        have HEA := Lib.hid ea
        have HEB := Lib.hid eb
        have HEZ := Lib.hid ez
        clear hE ea eb ez HA HB HC HD
        go_enter Tryz.func16, Tryz.ntmps16
        go_wp2_with fail
        rw [HW.out]
        refine (HCP.out _).mono ?_
        rintro _ _ ⟨t, rfl, ht, _, rfl⟩
        have HT := Lib.hid ht
        clear ht
        go_wp2_with fail
        refine (HSP.out t HT.out _).mono ?_
        rintro _ _ ⟨t1, t2, rfl, h1, h2, kk, rfl⟩
        have HT1 := Lib.hid h1
        have HT2 := Lib.hid h2
        have b1 := below_drewN V kk
        clear h1 h2
        generalize V.drewN kk = w1 at b1 ⊢
        go_wp2_with fail
        refine (HR1.out t1 HT1.out _).mono ?_
        rintro _ w2 ⟨A2, n2, c2, rfl, s2, b2⟩
        rw [HEA.out]
        go_wp2_with fail
        refine (HR2.out t2 HT2.out _).mono ?_
        rintro _ w3 ⟨A3, n3, c3, rfl, s3, b3⟩
        rw [HEB.out]
        go_wp2_with fail
        refine (HMK.out _ _ _ _ _ _ _ (s2.below b3) s3 HEZ.out).mono ?_
        rintro _ w4 ⟨s7, A7, n7, c7, A8, n8, c8, rfl, q7, b4⟩
        have x4 := bb b1 (bb b2 (bb b3 b4))
        have B9 := HBr.out.below' x4
        obtain ⟨⟨r0, r1, r2⟩, f0, f1, f2⟩ := B9.three
        go_wp2_with fail
        refine bodyPost_ret (v := .tuple #[.agg #[.bool s7, .slice A7 n7 c7, .slice A8 n8 c8], .int .i64 0]) (by simp [results, Tryz.results16, go_sem, r0, r1, r2]) rfl ?_
        left
        exact ⟨HE.out, _, _, _, _, _, _, _, rfl, q7.put3 ⟨_, _, _, _, _, _, _, B9⟩, below_put3 (bb hb0 x4) (by omega) (Nat.le_refl _) _ _ _⟩
    · have hE := HB.out ea eb
      have HEB := Lib.hid hE.symm
      rw [← hE] at eb
      have hne : (E != 0) = true := by simpa using eb
      have HNE := Lib.hid eb
      have HEA := Lib.hid ea
      clear hE eb ea HA HB HC HD HMK HMZ
      go_enter Tryz.func16, Tryz.ntmps16
      go_wp2_with fail
      rw [HW.out]
      refine (HCP.out _).mono ?_
      rintro _ _ ⟨t, rfl, ht, _, rfl⟩
      have HT := Lib.hid ht
      clear ht
      go_wp2_with fail
      refine (HSP.out t HT.out _).mono ?_
      rintro _ _ ⟨t1, t2, rfl, h1, h2, kk, rfl⟩
      have HT1 := Lib.hid h1
      have HT2 := Lib.hid h2
      have b1 := below_drewN V kk
      clear h1 h2
      generalize V.drewN kk = w1 at b1 ⊢
      go_wp2_with fail
      refine (HR1.out t1 HT1.out _).mono ?_
      rintro _ w2 ⟨A2, n2, c2, rfl, s2, b2⟩
      rw [HEA.out]
      go_wp2_with fail
      refine (HR2.out t2 HT2.out _).mono ?_
      rintro _ w3 ⟨A3, n3, c3, rfl, s3, b3⟩
      rw [HEB.out]
      have x4 := bb b1 (bb b2 b3)
      have B9 := HBr.out.below' x4
      obtain ⟨⟨r0, r1, r2⟩, f0, f1, f2⟩ := B9.three
      go_wp2_with fail
      refine bodyPost_ret (v := .tuple #[.agg #[.bool false, .slice none 0 0, .slice none 0 0], .int .i64 E]) (by simp [results, Tryz.results16, go_sem, r0, r1, r2]) rfl ?_
      right
      exact ⟨HNE.out, rfl, below_put3 (bb hb0 x4) (by omega) (Nat.le_refl _) (.bool false) (.slice none 0 0) (.slice none 0 0)⟩
  · have hE := HA.out ea
    have HEA := Lib.hid hE.symm
    rw [← hE] at ea
    have hne : (E != 0) = true := by simpa using ea
    have HNE := Lib.hid ea
    clear hE ea HA HB HC HD HMK HMZ
    go_enter Tryz.func16, Tryz.ntmps16
    go_wp2_with fail
    rw [HW.out]
    refine (HCP.out _).mono ?_
    rintro _ _ ⟨t, rfl, ht, _, rfl⟩
    have HT := Lib.hid ht
    clear ht
    go_wp2_with fail
    refine (HSP.out t HT.out _).mono ?_
    rintro _ _ ⟨t1, t2, rfl, h1, h2, kk, rfl⟩
    have HT1 := Lib.hid h1
    have HT2 := Lib.hid h2
    have b1 := below_drewN V kk
    clear h1 h2
    generalize V.drewN kk = w1 at b1 ⊢
    go_wp2_with fail
    refine (HR1.out t1 HT1.out _).mono ?_
    rintro _ w2 ⟨A2, n2, c2, rfl, s2, b2⟩
    rw [HEA.out]
    have x4 := bb b1 b2
    have B9 := HBr.out.below' x4
    obtain ⟨⟨r0, r1, r2⟩, f0, f1, f2⟩ := B9.three
    go_wp2_with fail
    refine bodyPost_ret (v := .tuple #[.agg #[.bool false, .slice none 0 0, .slice none 0 0], .int .i64 E]) (by simp [results, Tryz.results16, go_sem, r0, r1, r2]) rfl ?_
    right
    exact ⟨HNE.out, rfl, below_put3 (bb hb0 x4) (by omega) (Nat.le_refl _) (.bool false) (.slice none 0 0) (.slice none 0 0)⟩

end Go.Proofs.YtnheefhbchkbdaaGreatDoor

namespace Go.Proofs.YtnheefhbchkbdaaGreatDoor
set_option maxRecDepth 100000
open Go.RowKit
set_option linter.unusedVariables false
set_option linter.unusedSimpArgs false

theorem txt_size {s : ByteArray} {v : Nat} (h : by_ s = txt v) (hv : v < W ^ 20) : s.size ≤ 400 := by
  have h1 : (txt v).length ≤ 20 * 20 := txt_len (words20 hv) (by omega)
  rw [← by_length, h]; omega
/-- the text without what follows -/
def txtA (X : Rat) : List UInt8 := (if neg_ X then [45] else []) ++ txt X.num.natAbs
theorem txtQ_one {X : Rat} (h : X.den = 1) : txtQ X = txtA X := by unfold txtQ txtA; rw [if_pos h, List.append_nil]
theorem txtQ_more {X : Rat} (h : X.den ≠ 1) : txtQ X = txtA X ++ (47 :: txt X.den) := by unfold txtQ txtA; rw [if_neg h]
theorem by_minus (s : ByteArray) : by_ ((⟨#[45]⟩ : ByteArray) ++ s) = 45 :: by_ s := by rw [by_append]; rfl
theorem by_slash (s : ByteArray) : by_ ((⟨#[47]⟩ : ByteArray) ++ s) = 47 :: by_ s := by rw [by_append]; rfl
theorem by_slash' (s : ByteArray) : by_ (s ++ (⟨#[47]⟩ : ByteArray)) = by_ s ++ [47] := by rw [by_append]; rfl

set_option maxRecDepth 100000 in
set_option maxHeartbeats 4000000 in
theorem pw_show {w : World} {s : Bool} {A A' : Option Addr} {n n' c c' : Nat} {X : Rat} (h : Q w s A n c A' n' c' X) (hX : Sz X 20) :
    Calls Tryz.prog 18 #[.agg #[.bool s, .slice A n c, .slice A' n' c']] w (RetS (txtQ X) w) := by
  obtain ⟨V, hW, Ba, hb0⟩ := box0 24 w #[.bool s, .slice A n c, .slice A' n' c']
  have l1 : n ≤ 20 := h.2.1.small hX.1
  have l2 : n' ≤ 20 := h.2.2.small hX.2
  have S1 := fun w1 (hb : Below V.heap.size V w1) => digit_show (N := 20) (h.2.1.below (bb hb0 hb)) l1 (by omega)
  have S2 := fun w1 (hb : Below V.heap.size V w1) => digit_show (N := 20) (h.2.2.below (bb hb0 hb)) l2 (by omega)
  simp only [val_words] at S1 S2
  have O1 := fun w1 => nat_of 1 U_1 w1
  rw [show (1 : Int).toNat = 1 from rfl] at O1
  have CM := fun (w1 : World) (hb : Below V.heap.size V w1) (C : Option Addr) (a b : Nat) (y : Sl w1 C a b (words 1)) => nat_cmp (h.2.2.below (bb hb0 hb)) y (by omega) (by have := y.small (k := 1) (by rw [Nat.pow_one]; unfold W; omega); omega)
  simp only [val_words] at CM
  have ez := cmpN_zero X.den 1
  have hS : ∀ w', Below V.heap.size V w' → w'.cell? ⟨w.heap.size, 0, none⟩ = some (.bool s) ∧ w'.cell? ⟨w.heap.size, 1, none⟩ = some (.slice A n c) ∧ w'.cell? ⟨w.heap.size, 2, none⟩ = some (.slice A' n' c') := fun w' hb => (Ba.below' hb).three.1
  have hta : txtA X = (if s then [45] else []) ++ txt X.num.natAbs := by unfold txtA; rw [← h.1]
  have z1 := hX.1
  have z2 := hX.2
  have HS1 := Lib.hid S1
  have HS2 := Lib.hid S2
  have HO1 := Lib.hid O1
  have HCM := Lib.hid CM
  have HS := Lib.hid hS
  have HW := Lib.hid hW
  have HTA := Lib.hid hta
  have HZ1 := Lib.hid z1
  have HZ2 := Lib.hid z2
  clear S1 S2 O1 CM hS Ba hW h hX hta z1 z2
  by_cases h1 : X.den = 1
  · rw [decide_eq_true h1] at ez
    have ez2 : cmpN X.den 1 = 0 := by simpa using ez
    have HT := Lib.hid (txtQ_one h1)
    rw [ez2] at HCM
    clear ez ez2 h1
    cases s
    all_goals
      go_enter Tryz.func18, Tryz.ntmps18
      go_wp2_with fail
      rw [HW.out]
      clear HW
      refine (HS1.out _ (Below.refl _ _)).mono ?_
      rintro _ w1 ⟨t1, rfl, e1, b1⟩
      have q1 := txt_size e1 HZ1.out
      have HE1 := Lib.hid e1
      clear e1
      obtain ⟨k0, k1, k2⟩ := HS.out _ b1
      go_wp2_with fail
      first
      | (go_region_held3 (fun w' => w'.cell? ⟨w.heap.size, 0, none⟩ = some (.bool false) ∧ w'.cell? ⟨w.heap.size, 1, none⟩ = some (.slice A n c) ∧ w'.cell? ⟨w.heap.size, 2, none⟩ = some (.slice A' n' c')) (first | exact HS.out _ b1.drew | exact HS.out _ x2 | fail)
          (first
            | (go_at_call 35; (with_reducible refine (HO1.out _).mono ?_); rintro _ w2 ⟨A2, n2, c2, rfl, t2, b2⟩; have b2 := Below.undrew b2; have x2 := bb b1 b2)
            | (go_at_call 44; (with_reducible refine (HCM.out _ x2 _ _ _ t2).mono ?_); rintro _ _ ⟨rfl, rfl⟩)))
      | (go_region_held3 (fun w' => w'.cell? ⟨w.heap.size, 0, none⟩ = some (.bool true) ∧ w'.cell? ⟨w.heap.size, 1, none⟩ = some (.slice A n c) ∧ w'.cell? ⟨w.heap.size, 2, none⟩ = some (.slice A' n' c')) (first | exact HS.out _ b1.drew | exact HS.out _ x2 | fail)
          (first
            | (go_at_call 35; (with_reducible refine (HO1.out _).mono ?_); rintro _ w2 ⟨A2, n2, c2, rfl, t2, b2⟩; have b2 := Below.undrew b2; have x2 := bb b1 b2)
            | (go_at_call 44; (with_reducible refine (HCM.out _ x2 _ _ _ t2).mono ?_); rintro _ _ ⟨rfl, rfl⟩)))
      go_wp2_with fail
      go_ret
      refine ⟨_, rfl, ?_, bb hb0 x2⟩
      rw [HT.out, HTA.out]
      first | (rw [HE1.out]; rfl) | (rw [by_minus, HE1.out]; rfl)
  · rw [decide_eq_false h1] at ez
    have ez2 : (cmpN X.den 1 != 0) = true := by simp only [bne, ez]; rfl
    have HT := Lib.hid (txtQ_more h1)
    generalize cmpN X.den 1 = cm at *
    clear h1
    cases s
    all_goals
      go_enter Tryz.func18, Tryz.ntmps18
      go_wp2_with fail
      rw [HW.out]
      clear HW
      refine (HS1.out _ (Below.refl _ _)).mono ?_
      rintro _ w1 ⟨t1, rfl, e1, b1⟩
      have q1 := txt_size e1 HZ1.out
      have HE1 := Lib.hid e1
      clear e1
      obtain ⟨k0, k1, k2⟩ := HS.out _ b1
      go_wp2_with fail
      first
      | (go_region_held3 (fun w' => w'.cell? ⟨w.heap.size, 0, none⟩ = some (.bool false) ∧ w'.cell? ⟨w.heap.size, 1, none⟩ = some (.slice A n c) ∧ w'.cell? ⟨w.heap.size, 2, none⟩ = some (.slice A' n' c')) (first | exact HS.out _ b1.drew | exact HS.out _ x2 | fail)
          (first
            | (go_at_call 35; (with_reducible refine (HO1.out _).mono ?_); rintro _ w2 ⟨A2, n2, c2, rfl, t2, b2⟩; have b2 := Below.undrew b2; have x2 := bb b1 b2)
            | (go_at_call 44; (with_reducible refine (HCM.out _ x2 _ _ _ t2).mono ?_); rintro _ _ ⟨rfl, rfl⟩)))
      | (go_region_held3 (fun w' => w'.cell? ⟨w.heap.size, 0, none⟩ = some (.bool true) ∧ w'.cell? ⟨w.heap.size, 1, none⟩ = some (.slice A n c) ∧ w'.cell? ⟨w.heap.size, 2, none⟩ = some (.slice A' n' c')) (first | exact HS.out _ b1.drew | exact HS.out _ x2 | fail)
          (first
            | (go_at_call 35; (with_reducible refine (HO1.out _).mono ?_); rintro _ w2 ⟨A2, n2, c2, rfl, t2, b2⟩; have b2 := Below.undrew b2; have x2 := bb b1 b2)
            | (go_at_call 44; (with_reducible refine (HCM.out _ x2 _ _ _ t2).mono ?_); rintro _ _ ⟨rfl, rfl⟩)))
      obtain ⟨j0, j1, j2⟩ := HS.out _ x2
      go_wp2_with fail
      refine (HS2.out _ x2).mono ?_
      rintro _ w3 ⟨t3, rfl, e3, b3⟩
      have q3 := txt_size e3 HZ2.out
      have HE3 := Lib.hid e3
      clear e3
      go_wp2_with fail
      go_ret
      refine ⟨_, rfl, ?_, bb hb0 (bb x2 b3)⟩
      rw [HT.out, HTA.out, by_append, by_slash, HE3.out]
      first | (rw [HE1.out]; rfl) | (rw [by_minus, HE1.out]; rfl)

set_option maxRecDepth 100000 in
set_option maxHeartbeats 4000000 in
theorem ref_pshow {w : World} {s : Bool} {A A' : Option Addr} {n n' c c' : Nat} {X : Rat} (h : Q w s A n c A' n' c' X) (hX : Sz X 20) :
    Calls Tryz.prog 19 #[.agg #[.bool s, .slice A n c, .slice A' n' c']] w (RetS (txtQ X) w) := by
  obtain ⟨V, hW, Ba, hb0⟩ := box0 24 w #[.bool s, .slice A n c, .slice A' n' c']
  have l1 : n ≤ 20 := h.2.1.small hX.1
  have l2 : n' ≤ 20 := h.2.2.small hX.2
  have S1 := fun w1 (hb : Below V.heap.size V w1) => ref_show (N := 20) (h.2.1.below (bb hb0 hb)) l1 (by omega)
  have S2 := fun w1 (hb : Below V.heap.size V w1) => ref_show (N := 20) (h.2.2.below (bb hb0 hb)) l2 (by omega)
  simp only [val_words] at S1 S2
  have CM := fun (w1 : World) (hb : Below V.heap.size V w1) (C : Option Addr) (a b : Nat) (y : Sl w1 C a b [1]) => ref_cmp (h.2.2.below (bb hb0 hb)) y (by omega) (by have := y.len; simp at this; omega)
  have v1 : val [(1 : Int)] = 1 := rfl
  simp only [val_words, v1] at CM
  have ez := cmpN_zero X.den 1
  have hS : ∀ w', Below V.heap.size V w' → w'.cell? ⟨w.heap.size, 0, none⟩ = some (.bool s) ∧ w'.cell? ⟨w.heap.size, 1, none⟩ = some (.slice A n c) ∧ w'.cell? ⟨w.heap.size, 2, none⟩ = some (.slice A' n' c') := fun w' hb => (Ba.below' hb).three.1
  have hL : ∀ w', Below V.heap.size V w' → w.heap.size < w'.heap.size := fun w' hb => (Ba.below' hb).lt
  have hta : txtA X = (if s then [45] else []) ++ txt X.num.natAbs := by unfold txtA; rw [← h.1]
  have z1 := hX.1
  have z2 := hX.2
  have HS1 := Lib.hid S1
  have HS2 := Lib.hid S2
  have HCM := Lib.hid CM
  have HS := Lib.hid hS
  have HL := Lib.hid hL
  have HW := Lib.hid hW
  have HTA := Lib.hid hta
  have HZ1 := Lib.hid z1
  have HZ2 := Lib.hid z2
  clear S1 S2 CM hS hL Ba hW h hX hta z1 z2 v1
  by_cases h1 : X.den = 1
  · rw [decide_eq_true h1] at ez
    have ez2 : cmpN X.den 1 = 0 := by simpa using ez
    have HT := Lib.hid (txtQ_one h1)
    rw [ez2] at HCM
    clear ez ez2 h1
    cases s
    all_goals
      go_enter Tryz.func19, Tryz.ntmps19
      go_wp2_with fail
      rw [HW.out]
      clear HW
      refine (HS1.out _ (Below.refl _ _)).mono ?_
      rintro _ w1 ⟨t1, rfl, e1, b1⟩
      have q1 := txt_size e1 HZ1.out
      have HE1 := Lib.hid e1
      clear e1
      obtain ⟨k0, k1, k2⟩ := HS.out _ b1
      go_wp2_with fail
      refine (HCM.out _ (b1.alloc b1.size _) _ _ _ (sl_lit w1 1 U_1)).mono ?_
      rintro _ _ ⟨rfl, rfl⟩
      go_wp2_with fail
      go_ret
      refine ⟨_, rfl, ?_, bb hb0 (b1.alloc b1.size _)⟩
      rw [HT.out, HTA.out]
      first | (rw [HE1.out]; rfl) | (rw [by_minus, HE1.out]; rfl)
  · rw [decide_eq_false h1] at ez
    have ez2 : (cmpN X.den 1 != 0) = true := by simp only [bne, ez]; rfl
    have HT := Lib.hid (txtQ_more h1)
    generalize cmpN X.den 1 = cm at *
    clear h1
    cases s
    all_goals
      go_enter Tryz.func19, Tryz.ntmps19
      go_wp2_with fail
      rw [HW.out]
      clear HW
      refine (HS1.out _ (Below.refl _ _)).mono ?_
      rintro _ w1 ⟨t1, rfl, e1, b1⟩
      have q1 := txt_size e1 HZ1.out
      have HE1 := Lib.hid e1
      clear e1
      obtain ⟨k0, k1, k2⟩ := HS.out _ b1
      go_wp2_with fail
      refine (HCM.out _ (b1.alloc b1.size _) _ _ _ (sl_lit w1 1 U_1)).mono ?_
      rintro _ _ ⟨rfl, rfl⟩
      have hz := HL.out _ b1
      go_wp2_with fail
      refine (HS2.out _ (b1.alloc b1.size _)).mono ?_
      rintro _ w3 ⟨t3, rfl, e3, b3⟩
      have q3 := txt_size e3 HZ2.out
      have HE3 := Lib.hid e3
      clear e3
      go_wp2_with fail
      go_ret
      refine ⟨_, rfl, ?_, bb hb0 (bb (b1.alloc b1.size _) b3)⟩
      rw [HT.out, HTA.out, by_append, by_slash', HE3.out]
      first | (rw [HE1.out]; simp) | (rw [by_minus, HE1.out]; simp)

end Go.Proofs.YtnheefhbchkbdaaGreatDoor

namespace Go.Proofs.YtnheefhbchkbdaaGreatDoor
set_option maxRecDepth 100000
open Go.RowKit
set_option linter.unusedVariables false
set_option linter.unusedSimpArgs false

theorem str_eq {s : ByteArray} {l : List UInt8} (h : by_ s = l) : s = str l := by rw [← h, str_by]
theorem inv_pow_ (X : Rat) (k : Nat) : X⁻¹ ^ k = (X ^ k)⁻¹ := by
  induction k with
  | zero => rw [Rat.pow_zero, Rat.pow_zero]; exact (Rat.inv_eq_of_mul_eq_one (Rat.one_mul 1)).symm
  | succ k ih => rw [Rat.pow_succ, Rat.pow_succ, ih, Rat.inv_mul_rev, Rat.mul_comm]
theorem zpow_nat (X : Rat) (k : Nat) : X ^ (k : Int) = X ^ k := Rat.zpow_natCast X k
theorem zpow_negNat (X : Rat) (k : Nat) : X ^ (-(k : Int)) = X⁻¹ ^ k := by rw [Rat.zpow_neg, zpow_nat, inv_pow_]
theorem pow_add_ (X : Rat) (m n : Nat) : X ^ m * X ^ n = X ^ (m + n) := by
  induction n with
  | zero => rw [Rat.pow_zero, Rat.mul_one, Nat.add_zero]
  | succ n ih => rw [Rat.pow_succ, ← Rat.mul_assoc, ih, ← Nat.add_assoc, Rat.pow_succ]
theorem zpow_add_ (X : Rat) (m n : Int) (h : X ≠ 0 ∨ (0 ≤ m ∧ 0 ≤ n)) : X ^ m * X ^ n = X ^ (m + n) := by
  by_cases h0 : X = 0
  · obtain ⟨h1, h2⟩ := h.resolve_left (fun e => e h0)
    obtain ⟨a, rfl⟩ := Int.eq_ofNat_of_zero_le h1
    obtain ⟨b, rfl⟩ := Int.eq_ofNat_of_zero_le h2
    rw [zpow_nat, zpow_nat, ← Int.natCast_add, zpow_nat, pow_add_]
  · exact (Rat.zpow_add h0 m n).symm
theorem Sz.zpow {X : Rat} {N : Nat} (h : Sz X N) (i : Int) : Sz (X ^ i) (N * i.natAbs + 1) := by
  rcases Int.le_total 0 i with h0 | h0
  · obtain ⟨k, rfl⟩ := Int.eq_ofNat_of_zero_le h0
    rw [zpow_nat, Int.natAbs_natCast]; exact h.pow
  · obtain ⟨k, hk⟩ := Int.eq_ofNat_of_zero_le (show 0 ≤ -i by omega)
    obtain rfl : i = -(k : Int) := by omega
    rw [zpow_negNat, Int.natAbs_neg, Int.natAbs_natCast]
    exact h.inv.pow
/-- a power, whatever the exponent from -64 to 64 -/
theorem pw_pow_any {w : World} {s : Bool} {A A' : Option Addr} {n n' c c' N : Nat} {X : Rat} (h : Q w s A n c A' n' c' X) (hX : Sz X N) (hN : N ≤ 100) (i : Int) (h1 : -64 ≤ i) (h2 : i ≤ 64) (h0 : X ≠ 0 ∨ 0 ≤ i) :
    Calls Tryz.prog 7 #[.agg #[.bool s, .slice A n c, .slice A' n' c'], .int .i64 i] w (RetQE (X ^ i) 0 w) := by
  by_cases hi : 0 ≤ i
  · obtain ⟨k, rfl⟩ := Int.eq_ofNat_of_zero_le hi
    rw [zpow_nat]
    exact pw_pow_nat h hX hN k (by omega)
  · obtain ⟨k, hk⟩ := Int.eq_ofNat_of_zero_le (show 0 ≤ -i by omega)
    obtain rfl : i = -(k : Int) := by omega
    rw [zpow_negNat]
    exact pw_pow_neg h hX hN (h0.resolve_right hi) k (by omega) (by omega)

set_option maxHeartbeats 1000000 in
theorem right08 {w : World} {s : Bool} {A A' : Option Addr} {n n' c c' : Nat} {xs ys : List Int} (k : Nat) (hk : k ≤ 100) (h : Sl w A n c xs) (h' : Sl w A' n' c' ys) :
    Calls Tryz.prog 5 #[.agg #[.bool s, .slice A n c, .slice A' n' c'], .int .i64 (k : Int)] w (RetBl (decide (n ≤ k ∧ n' ≤ k) && rightB s xs ys) w) := by
  have L := fun w1 => plain_long (w := w1) (s := s) (A := A) (A' := A') (n := n) (n' := n') (c := c) (c' := c') (k : Int)
  obtain ⟨V, hV, B, hb0⟩ := box0 24 w #[.bool s, .slice A n c, .slice A' n' c']
  by_cases hl : n ≤ k ∧ n' ≤ k
  · rw [decide_eq_false (by omega)] at L
    have R := fun w1 (hb : Below w.heap.size w w1) => ref_ratRight (s := s) (N := k) (h.below hb) (h'.below hb) hl.1 hl.2 (by omega)
    rw [decide_eq_true hl, Bool.true_and]
    generalize rightB s xs ys = r at *
    have HL := Lib.hid L
    have HR := Lib.hid R
    have HV := Lib.hid hV
    clear L R hV hl
    go_enter Tryz.func5, Tryz.ntmps5
    go_wp2_with fail
    rw [HV.out]
    refine (HL.out _).mono ?_
    rintro _ w1 ⟨rfl, b1⟩
    obtain ⟨⟨k0, k1, k2⟩, _, _, _⟩ := (B.below' b1).three
    go_wp2_with fail
    refine (HR.out _ (bb hb0 b1)).mono ?_
    rintro _ w2 ⟨rfl, b2⟩
    go_wp2_with fail
    go_ret
    exact ⟨rfl, bb hb0 (bb b1 b2)⟩
  · rw [decide_eq_true (by omega)] at L
    rw [decide_eq_false hl, Bool.false_and]
    have HL := Lib.hid L
    have HV := Lib.hid hV
    clear L hV hl
    go_enter Tryz.func5, Tryz.ntmps5
    go_wp2_with fail
    rw [HV.out]
    refine (HL.out _).mono ?_
    rintro _ w1 ⟨rfl, b1⟩
    go_wp2_with fail
    go_ret
    exact ⟨rfl, bb hb0 b1⟩
theorem right08_Q {w : World} {s : Bool} {A A' : Option Addr} {n n' c c' k : Nat} {xs ys : List Int} (h : Sl w A n c xs) (h' : Sl w A' n' c' ys) (hr : (decide (n ≤ k ∧ n' ≤ k) && rightB s xs ys) = true) :
    ∃ X, Q w s A n c A' n' c' X ∧ Sz X k := by
  rw [Bool.and_eq_true, decide_eq_true_eq] at hr
  obtain ⟨X, h1, h2, _⟩ := right_Q h h' hr.1.1 hr.1.2 hr.2
  exact ⟨X, h1, h2⟩

/-- -2/3 and its power -/
def m23 : Rat := rq true 2 3
theorem m23_read : rqe [45, 50, 47, 51] = 0 ∧ rqv [45, 50, 47, 51] = m23 := by decide +kernel
theorem m23_txt : txtQ m23 = [45, 50, 47, 51] := by decide +kernel
theorem m23_pow : m23⁻¹ ^ 3 = rq true 27 8 := by decide +kernel
theorem m278_txt : txtQ (rq true 27 8) = [45, 50, 55, 47, 56] := by decide +kernel
theorem m278_bits : max (blen (rq true 27 8).num.natAbs : Int) (blen (rq true 27 8).den) = 5 := by decide +kernel
theorem m23_sz : Sz m23 1 := rq_sz (by decide) (by rw [Nat.pow_one]; decide) (by rw [Nat.pow_one]; decide)
theorem m278_sz : Sz (rq true 27 8) 1 := rq_sz (by decide) (by rw [Nat.pow_one]; decide) (by rw [Nat.pow_one]; decide)
theorem m23_ne : m23 ≠ 0 := by decide +kernel

set_option maxRecDepth 100000 in
set_option maxHeartbeats 4000000 in
theorem same08 (w : World) : Calls Tryz.prog 6 #[] w (RetBl true w) := by
  have RD := fun w1 => pw_read ⟨#[45, 50, 47, 51]⟩ (by decide) w1
  rw [show by_ ⟨#[45, 50, 47, 51]⟩ = [45, 50, 47, 51] from rfl, m23_read.1, m23_read.2] at RD
  have PW := fun (w1 : World) (s : Bool) (A A' : Option Addr) (n n' c c' : Nat) (h : Q w1 s A n c A' n' c' m23) => pw_pow_neg h m23_sz (by omega) m23_ne 3 (by omega) (by omega)
  rw [m23_pow] at PW
  simp only [show (-((3 : Nat) : Int)) = -3 from rfl] at PW
  have S1 := fun (w1 : World) (s : Bool) (A A' : Option Addr) (n n' c c' : Nat) (h : Q w1 s A n c A' n' c' m23) => pw_show h (m23_sz.mono (by omega))
  have S2 := fun (w1 : World) (s : Bool) (A A' : Option Addr) (n n' c c' : Nat) (h : Q w1 s A n c A' n' c' (rq true 27 8)) => pw_show h (m278_sz.mono (by omega))
  have BT := fun (w1 : World) (s : Bool) (A A' : Option Addr) (n n' c c' : Nat) (h : Q w1 s A n c A' n' c' (rq true 27 8)) => pw_bits h m278_sz (by omega)
  rw [m23_txt] at S1
  rw [m278_txt] at S2
  rw [m278_bits] at BT
  generalize rq true 27 8 = Y at *
  generalize m23 = X at *
  have HRD := Lib.hid RD
  have HPW := Lib.hid PW
  have HS1 := Lib.hid S1
  have HS2 := Lib.hid S2
  have HBT := Lib.hid BT
  clear RD PW S1 S2 BT
  go_enter Tryz.func6, Tryz.ntmps6
  go_wp2_with fail
  refine (HRD.out _).mono ?_
  rintro _ w1 (⟨_, s1, A1, n1, c1, D1, m1, d1, rfl, q1, b1⟩ | ⟨hne, _⟩)
  rotate_left
  · exact absurd rfl hne
  obtain ⟨w2, hV2, Bx2, b2⟩ := box0 24 w1 #[.bool s1, .slice A1 n1 c1, .slice D1 m1 d1]
  have HV2 := Lib.hid hV2
  clear hV2
  go_wp2_with fail
  rw [HV2.out]
  clear HV2
  refine (HPW.out _ _ _ _ _ _ _ _ (q1.below b2)).mono ?_
  rintro _ w3 ⟨s3, A3, n3, c3, D3, m3, d3, rfl, q3, b3⟩
  have Bx3 := Bx2.below' b3
  have hz3 := Bx3.lt
  obtain ⟨⟨k0, k1, k2⟩, _, _, _⟩ := Bx3.three
  obtain ⟨w4, hV4, Bx4, b4⟩ := box0 24 w3 #[.bool s3, .slice A3 n3 c3, .slice D3 m3 d3]
  have HV4 := Lib.hid hV4
  clear hV4
  go_wp2_with fail
  rw [HV4.out]
  clear HV4 k0 k1 k2 hz3
  refine (HS1.out _ _ _ _ _ _ _ _ (((q1.below b2).below b3).below b4)).mono ?_
  rintro _ w5 ⟨t5, rfl, e5, b5⟩
  obtain rfl : t5 = ⟨#[45, 50, 47, 51]⟩ := str_eq e5
  clear e5
  obtain ⟨⟨j0, j1, j2⟩, _, _, _⟩ := (Bx4.below' b5).three
  go_wp2_with fail
  refine (HS2.out _ _ _ _ _ _ _ _ ((q3.below b4).below b5)).mono ?_
  rintro _ w6 ⟨t6, rfl, e6, b6⟩
  obtain rfl : t6 = ⟨#[45, 50, 55, 47, 56]⟩ := str_eq e6
  clear e6 j0 j1 j2
  obtain ⟨⟨j0, j1, j2⟩, _, _, _⟩ := (Bx4.below' (bb b5 b6)).three
  go_wp2_with fail
  refine (HBT.out _ _ _ _ _ _ _ _ (((q3.below b4).below b5).below b6)).mono ?_
  rintro _ w7 ⟨rfl, b7⟩
  go_wp2_with fail
  go_ret
  exact ⟨rfl, bb b1 (bb b2 (bb b3 (bb b4 (bb b5 (bb b6 b7)))))⟩

end Go.Proofs.YtnheefhbchkbdaaGreatDoor
