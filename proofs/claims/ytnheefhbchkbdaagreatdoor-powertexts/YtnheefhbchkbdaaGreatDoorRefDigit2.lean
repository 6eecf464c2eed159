/-
  What the document's own Show (package gradineref06) does. Conditions: the slice reads as a list of words, of at most 1000 words.
-/
import Derived.Test.YtnheefhbchkbdaaGreatDoorRefDigit
namespace Go.Proofs.YtnheefhbchkbdaaGreatDoor
set_option maxRecDepth 100000
open Go.RowKit
set_option linter.unusedVariables false
set_option linter.unusedSimpArgs false

theorem by_append (a b : ByteArray) : by_ (a ++ b) = by_ a ++ by_ b := by
  obtain ⟨l, rfl⟩ : ∃ l, a = str l := ⟨_, (str_by a).symm⟩
  obtain ⟨k, rfl⟩ : ∃ k, b = str k := ⟨_, (str_by b).symm⟩
  have : str l ++ str k = str (l ++ k) := ByteArray.mk_append_mk l k
  rw [this]
  rfl
/-- the ten digits -/
def ds : ByteArray := ⟨#[48, 49, 50, 51, 52, 53, 54, 55, 56, 57]⟩
theorem ds_at (d : Nat) (h : d < 10) : by_ (ds.extract d (d + 1)) = [dig8 d] := by
  rcases d with _ | _ | _ | _ | _ | _ | _ | _ | _ | _ | d
  all_goals first | decide | omega
theorem txt0_len_W {v N : Nat} (h : v < W ^ N) : (txt0 v).length ≤ 20 * N := by
  refine txt0_len ?_
  have := Nat.pow_le_pow_left W_le_ten N
  rw [← Nat.pow_mul] at this
  omega

set_option maxRecDepth 100000 in
set_option maxHeartbeats 1000000 in
theorem ref_show {w : World} {A : Option Addr} {n c N : Nat} {xs : List Int} (h : Sl w A n c xs) (hn : n ≤ N) (hN : N ≤ 1000) :
    Calls Tryz.prog 45 #[.slice A n c] w (RetS (txt (val xs)) w) := by
  have va : val xs < W ^ N := val_lt_pow h.us (by have := h.len; omega)
  have hlw := txt0_len_W va
  have HTR := Lib.hid (ref_trim h (by omega))
  generalize val xs = v at *
  have HV := Lib.hid va
  have HLW := Lib.hid hlw
  clear va h hlw
  go_enter Tryz.func45, Tryz.ntmps45
  go_wp2_with fail
  refine HTR.out.mono ?_
  rintro e w1 ⟨A1, n1, c1, rfl, s1, b1⟩
  go_wp2_with fail
  go_loopw [0, 4] (fun av ov wr => ∃ (m : Nat) (A : Option Addr) (n c : Nat) (o : ByteArray), av = .slice A n c ∧ ov = .string o ∧ Sl wr A n c (words m) ∧ Hid (txt0 m ++ by_ o = txt0 v) ∧ Hid (m ≤ v) ∧ Below w.heap.size w wr) (fun av _ wr => mesV av wr)
  case atStart => exact ⟨v, _, _, _, _, rfl, rfl, s1, Lib.hid (List.append_nil _), Lib.hid (Nat.le_refl _), b1⟩
  case round =>
    clear s1 b1 HTR
    obtain ⟨m, A, n, c, o, rfl, rfl, s, HT, HM, hb⟩ := hrel
    have hnw := words_nil_iff s.len
    by_cases h0 : n = 0
    · subst h0
      obtain rfl : m = 0 := hnw.1 rfl
      have ho : by_ o = txt0 v := by have := HT.out; rw [txt0_zero, List.nil_append] at this; exact this
      have htx := txt_of ho
      by_cases hv0 : by_ o = []
      · rw [if_pos hv0] at htx
        obtain rfl : o = ⟨#[]⟩ := by rw [← str_by o, hv0]; rfl
        have HX := Lib.hid htx
        clear htx hv0 ho hnw HT
        go_wp2_with fail
        go_ret
        exact ⟨_, rfl, HX.out, hb⟩
      · rw [if_neg hv0] at htx
        have e3 : ¬ o.toList = [] := by rw [toList_by]; exact hv0
        have e2 : o.toList.isEmpty = false := by
          cases h : o.toList with
          | nil => exact absurd h e3
          | cons => rfl
        have HX := Lib.hid htx
        clear htx hv0 ho hnw HT
        go_wp2_with fail
        go_ret
        exact ⟨_, rfl, HX.out, hb⟩
    · have hnp : 0 < n := by omega
      have hmp : m ≠ 0 := fun e => h0 (hnw.2 e)
      have hmW := Nat.lt_of_le_of_lt HM.out HV.out
      have hnN : n ≤ N := s.small hmW
      have TN := ref_ten s (by omega) (by rw [val_words]; omega)
      rw [val_words] at TN
      have hms := mesV_val s
      rw [val_words] at hms
      have hst := txt0_step hmp
      have hlt : m / 10 < m := by omega
      have hle : m / 10 ≤ v := by have := HM.out; omega
      have hos : o.size ≤ 20000 := by
        have h1 := congrArg List.length HT.out
        rw [List.length_append, by_length] at h1
        have := HLW.out
        omega
      obtain ⟨d, ed⟩ : ∃ d, m % 10 = d := ⟨_, rfl⟩
      have hd : d < 10 := by omega
      have hda := ds_at d hd
      have hnt : txt0 (m / 10) ++ by_ (ds.extract d (d + 1) ++ o) = txt0 v := by
        rw [by_append, hda, ← List.append_assoc, ← ed, ← hst]
        exact HT.out
      have hds : (ds.extract d (d + 1)).size = 1 := by rw [← by_length, hda]; rfl
      have HTN := Lib.hid TN
      have HMS := Lib.hid hms
      have HLT := Lib.hid hlt
      have HLE := Lib.hid hle
      have HNT := Lib.hid hnt
      have HDS := Lib.hid hds
      have HED := Lib.hid ed
      clear TN hms hst hlt hle hnt hnw hmp hmW hda hds ed s
      go_wp2_with fail
      refine HTN.out.mono ?_
      rintro e w2 ⟨A2, n2, c2, rfl, s2, b2⟩
      have hb2 := hb.trans (b2.mono hb.size)
      rw [HED.out]
      have hm2 := mesV_val s2
      rw [val_words] at hm2
      have HM2 := Lib.hid hm2
      have hds := HDS.out
      unfold ds at hds
      clear hm2 b2 HTN
      go_wp2_with fail
      go_roundw
      case rel => exact ⟨_, _, _, _, _, rfl, rfl, s2, HNT, HLE, hb2⟩
      case measure => rw [HM2.out, HMS.out]; exact HLT.out

end Go.Proofs.YtnheefhbchkbdaaGreatDoor
