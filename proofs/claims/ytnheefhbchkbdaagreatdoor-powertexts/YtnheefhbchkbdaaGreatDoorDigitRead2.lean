/-
  What digit.Read and the document's own Read do. Conditions: none on the text but the length that an int holds.
-/
import Derived.Test.YtnheefhbchkbdaaGreatDoorDigitRead
namespace Go.Proofs.YtnheefhbchkbdaaGreatDoor
set_option maxRecDepth 100000
open Go.RowKit
set_option linter.unusedVariables false
set_option linter.unusedSimpArgs false

/-- whether a text is a number's -/
def numB (l : List UInt8) : Bool := !l.isEmpty && (!(l.head? == some 48) || l == [48]) && l.all fun c => decide (48 ≤ c.toNat ∧ c.toNat ≤ 57)
theorem numB_iff (l : List UInt8) : numB l = true ↔ IsNum l := by
  unfold numB IsNum
  simp only [Bool.and_eq_true, Bool.or_eq_true, Bool.not_eq_true', List.isEmpty_eq_false_iff, beq_eq_false_iff_ne, beq_iff_eq, List.all_eq_true, decide_eq_true_eq]
  constructor
  · rintro ⟨⟨h1, h2⟩, h3⟩
    refine ⟨h1, fun e => ?_, h3⟩
    rcases h2 with h2 | h2
    · exact absurd e h2
    · exact h2
  · rintro ⟨h1, h2, h3⟩
    refine ⟨⟨h1, ?_⟩, h3⟩
    by_cases e : l.head? = some 48
    · exact .inr (h2 e)
    · exact .inl e
theorem numB_no {l : List UInt8} (h : ¬ IsNum l) : numB l = false := by
  cases e : numB l with
  | false => rfl
  | true => exact absurd ((numB_iff l).1 e) h
/-- the number that is read, and the error's number -/
def rdv (l : List UInt8) : Nat := if decide (l.length ≤ 400) && numB l then rd l else 0
def rde (l : List UInt8) : Int := if 400 < l.length then 3 else if numB l then 0 else 2
theorem rd_long {l : List UInt8} (h : 400 < l.length) : rdv l = 0 ∧ rde l = 3 := by
  unfold rdv rde
  rw [decide_eq_false (by omega), if_pos h]
  exact ⟨rfl, rfl⟩
theorem rd_form {l : List UInt8} (h : l.length ≤ 400) (hn : ¬ IsNum l) : rdv l = 0 ∧ rde l = 2 := by
  unfold rdv rde
  rw [numB_no hn, Bool.and_false, if_neg (show ¬ 400 < l.length by omega)]
  exact ⟨rfl, rfl⟩
theorem rd_good {l : List UInt8} (h : l.length ≤ 400) (hn : IsNum l) : rdv l = rd l ∧ rde l = 0 := by
  unfold rdv rde
  rw [decide_eq_true h, (numB_iff l).2 hn, if_neg (show ¬ 400 < l.length by omega)]
  exact ⟨rfl, rfl⟩
/-- a call that returns the number of a text, or why it is none -/
def RetRd (l : List UInt8) (w : World) (e : Ending) (w' : World) : Prop := ∃ A n c, e = .returned (.tuple #[.slice A n c, .int .i64 (rde l)]) ∧ Sl w' A n c (words (rdv l)) ∧ Below w.heap.size w w'
theorem RetRd.of {l : List UInt8} {w w' : World} {A : Option Addr} {n c v : Nat} {x : Int} (h : rdv l = v ∧ rde l = x) (s : Sl w' A n c (words v)) (b : Below w.heap.size w w') : RetRd l w (.returned (.tuple #[.slice A n c, .int .i64 x])) w' := by
  obtain ⟨rfl, rfl⟩ := h
  exact ⟨A, n, c, rfl, s, b⟩
theorem rd_lt (k : Nat) : ∀ l : List UInt8, l.length = k → (∀ c ∈ l, c.toNat ≤ 57) → rd l < 10 ^ k := by
  induction k with
  | zero =>
    intro l hl _
    rw [List.eq_nil_of_length_eq_zero hl]
    decide
  | succ k ih =>
    intro l hl hd
    have hne : l ≠ [] := fun e => by rw [e] at hl; cases hl
    obtain ⟨p, c, rfl⟩ : ∃ p c, l = p ++ [c] := ⟨l.dropLast, l.getLast hne, (List.dropLast_concat_getLast hne).symm⟩
    have h1 := ih p (by simpa using hl) (fun x hx => hd x (by simp [hx]))
    have h2 := hd c (by simp)
    rw [rd_snoc, Nat.pow_succ]
    omega
theorem rd_take_lt {l : List UInt8} (h : IsNum l) (k : Nat) (hk : k ≤ l.length) : rd (l.take k) < W ^ l.length := by
  have h1 := rd_lt k (l.take k) (by rw [List.length_take]; omega) (fun c hc => (h.2.2 c (List.mem_of_mem_take hc)).2)
  have h2 : 10 ^ k ≤ W ^ k := Nat.pow_le_pow_left (by unfold W; omega) k
  exact lt_pow_mono (Nat.lt_of_lt_of_le h1 h2) hk
theorem rd_take_step {s : ByteArray} {k : Nat} (hk : k < s.size) : rd ((by_ s).take (k + 1)) = rd ((by_ s).take k) * 10 + (s[k].toNat - 48) := by
  have e : (by_ s).take (k + 1) = (by_ s).take k ++ [s[k]] := by
    rw [List.take_succ_eq_append_getElem (by rw [by_length]; exact hk)]
    rfl
  rw [e, rd_snoc]


set_option maxHeartbeats 1000000 in
theorem digit_read (s : ByteArray) (hs : s.size ≤ 9223372036854775807) (w : World) :
    Calls Tryz.prog 40 #[.string s] w (RetRd (by_ s) w) := by
  have hbl := by_length s
  by_cases h4 : 400 < s.size
  · have HR := Lib.hid (rd_long (l := by_ s) (by omega))
    clear hbl
    go_enter Tryz.func40, Tryz.ntmps40
    go_wp2_with fail
    go_ret2
    exact RetRd.of HR.out (Sl.nil _ _ _) (Below.refl _ _)
  · have NU := digit_isNumber s hs w
    by_cases hn : IsNum (by_ s)
    · have hnu : Calls Tryz.prog 74 #[.string s] w fun e w' => e = .returned (.bool true) ∧ w = w' := NU.mono fun e w' ⟨b, he, hb, hw⟩ => ⟨by rw [he, hb.2 hn], hw⟩
      have HR := Lib.hid (rd_good (l := by_ s) (by omega) hn)
      have HNU := Lib.hid hnu
      have HN := Lib.hid hn
      have HBL := Lib.hid hbl
      clear NU hnu hn hbl
      go_enter Tryz.func40, Tryz.ntmps40
      go_wp2_with fail
      refine HNU.out.mono ?_
      rintro e w' ⟨rfl, rfl⟩
      go_wp2_with fail
      go_loopw [4, 14] (fun av iv wr => ∃ (k : Nat) (A : Option Addr) (n c v : Nat), k ≤ s.size ∧ iv = .int .i64 k ∧ av = .slice A n c ∧ Sl wr A n c (words v) ∧ Hid (v = rd ((by_ s).take k)) ∧ Below w.heap.size w wr) (fun _ iv _ => s.size - (intOf iv).toNat)
      case atStart => exact ⟨0, _, _, _, 0, by omega, rfl, rfl, Sl.nil _ _ _, Lib.hid rfl, Below.refl _ _⟩
      case round =>
        obtain ⟨k, A, n, c, v, hk, rfl, rfl, sv, HV, hb⟩ := hrel
        have hvl := rd_take_lt HN.out k (by have := HBL.out; omega)
        rw [← HV.out] at hvl
        have hnl0 := sv.small hvl
        have hnl : n ≤ 400 := by have := HBL.out; omega
        clear hnl0
        by_cases hk2 : k < s.size
        · have hst := rd_take_step hk2
          rw [← HV.out] at hst
          have hdg := HN.out.2.2 s[k] (List.mem_of_getElem? (by_at s k hk2))
          obtain ⟨d, ed⟩ : ∃ d : Nat, (s[k].toNat : Int) - 48 = (d : Int) := ⟨s[k].toNat - 48, by omega⟩
          have ed2 : s[k].toNat - 48 = d := by omega
          rw [ed2] at hst
          have hlo : 48 ≤ s[k].toNat := hdg.1
          have hhi : s[k].toNat ≤ 57 := hdg.2
          have hd9 : d ≤ 9 := by omega
          have P := prod_word sv (by omega) 10 (d : Int) (by unfold U; omega) (by unfold U; omega)
          rw [val_words, show (10 : Int).toNat = 10 from rfl, Int.toNat_natCast] at P
          generalize hv' : v * 10 + d = v' at P hst
          have HP := Lib.hid P
          have HS := Lib.hid hst.symm
          clear P hst hdg ed2 hv' hvl sv
          go_wp2_with fail
          refine HP.out.mono ?_
          rintro e w2 ⟨A2, n2, c2, rfl, s2, b2⟩
          have hb2 := hb.trans (b2.mono hb.size)
          clear b2 HP ed
          go_wp2_with fail
          go_roundw
          case rel => exact ⟨k + 1, _, _, _, v', by omega, by go_num, rfl, s2, HS, hb2⟩
          case measure => simp [intOf]; omega
        · obtain rfl : k = s.size := by omega
          have hv : v = rd (by_ s) := by rw [HV.out, List.take_of_length_le (by have := HBL.out; omega)]
          have HV2 := Lib.hid hv
          clear hv hvl
          go_wp2_with fail
          go_ret2
          exact RetRd.of (by have := HR.out; rw [← HV2.out] at this; exact this) sv hb
    · have hnu : Calls Tryz.prog 74 #[.string s] w fun e w' => e = .returned (.bool false) ∧ w = w' := NU.mono fun e w' ⟨b, he, hb, hw⟩ => ⟨by rw [he]; cases b with | true => exact absurd (hb.1 rfl) hn | false => rfl, hw⟩
      have HR := Lib.hid (rd_form (l := by_ s) (by omega) hn)
      have HNU := Lib.hid hnu
      clear NU hnu hn hbl
      go_enter Tryz.func40, Tryz.ntmps40
      go_wp2_with fail
      refine HNU.out.mono ?_
      rintro e w' ⟨rfl, rfl⟩
      go_wp2_with fail
      go_ret2
      exact RetRd.of HR.out (Sl.nil _ _ _) (Below.refl _ _)

set_option maxHeartbeats 1000000 in
theorem ref_read (s : ByteArray) (hs : s.size ≤ 9223372036854775807) (w : World) :
    Calls Tryz.prog 42 #[.string s] w (RetRd (by_ s) w) := by
  have hbl := by_length s
  by_cases h4 : 400 < s.size
  · have HR := Lib.hid (rd_long (l := by_ s) (by omega))
    clear hbl
    go_enter Tryz.func42, Tryz.ntmps42
    go_wp2_with fail
    go_ret2
    exact RetRd.of HR.out (Sl.nil _ _ _) (Below.refl _ _)
  · have NU := ref_text s hs w
    by_cases hn : IsNum (by_ s)
    · have hnu : Calls Tryz.prog 77 #[.string s] w fun e w' => e = .returned (.bool true) ∧ w = w' := NU.mono fun e w' ⟨b, he, hb, hw⟩ => ⟨by rw [he, hb.2 hn], hw⟩
      have HR := Lib.hid (rd_good (l := by_ s) (by omega) hn)
      have HNU := Lib.hid hnu
      have HN := Lib.hid hn
      have HBL := Lib.hid hbl
      clear NU hnu hn hbl
      go_enter Tryz.func42, Tryz.ntmps42
      go_wp2_with fail
      refine HNU.out.mono ?_
      rintro e w' ⟨rfl, rfl⟩
      go_wp2_with fail
      go_loopw [4, 14] (fun av iv wr => ∃ (k : Nat) (A : Option Addr) (n c v : Nat), k ≤ s.size ∧ iv = .int .i64 k ∧ av = .slice A n c ∧ Sl wr A n c (words v) ∧ Hid (v = rd ((by_ s).take k)) ∧ Below w.heap.size w wr) (fun _ iv _ => s.size - (intOf iv).toNat)
      case atStart => exact ⟨0, _, _, _, 0, by omega, rfl, rfl, Sl.nil _ _ _, Lib.hid rfl, Below.refl _ _⟩
      case round =>
        obtain ⟨k, A, n, c, v, hk, rfl, rfl, sv, HV, hb⟩ := hrel
        have hvl := rd_take_lt HN.out k (by have := HBL.out; omega)
        rw [← HV.out] at hvl
        have hnl0 := sv.small hvl
        have hnl : n ≤ 400 := by have := HBL.out; omega
        clear hnl0
        by_cases hk2 : k < s.size
        · have hst := rd_take_step hk2
          rw [← HV.out] at hst
          have hdg := HN.out.2.2 s[k] (List.mem_of_getElem? (by_at s k hk2))
          obtain ⟨d, ed⟩ : ∃ d : Nat, (s[k].toNat : Int) - 48 = (d : Int) := ⟨s[k].toNat - 48, by omega⟩
          have ed2 : s[k].toNat - 48 = d := by omega
          rw [ed2] at hst
          have hlo : 48 ≤ s[k].toNat := hdg.1
          have hhi : s[k].toNat ≤ 57 := hdg.2
          have hd9 : d ≤ 9 := by omega
          have P := ref_pword sv (by omega) 10 (d : Int) (by unfold U; omega) (by unfold U; omega)
          rw [val_words, show (10 : Int).toNat = 10 from rfl, Int.toNat_natCast] at P
          generalize hv' : v * 10 + d = v' at P hst
          have HP := Lib.hid P
          have HS := Lib.hid hst.symm
          clear P hst hdg ed2 hv' hvl sv
          go_wp2_with fail
          refine HP.out.mono ?_
          rintro e w2 ⟨A2, n2, c2, rfl, s2, b2⟩
          have hb2 := hb.trans (b2.mono hb.size)
          clear b2 HP ed
          go_wp2_with fail
          go_roundw
          case rel => exact ⟨k + 1, _, _, _, v', by omega, by go_num, rfl, s2, HS, hb2⟩
          case measure => simp [intOf]; omega
        · obtain rfl : k = s.size := by omega
          have hv : v = rd (by_ s) := by rw [HV.out, List.take_of_length_le (by have := HBL.out; omega)]
          have HV2 := Lib.hid hv
          clear hv hvl
          go_wp2_with fail
          go_ret2
          exact RetRd.of (by have := HR.out; rw [← HV2.out] at this; exact this) sv hb
    · have hnu : Calls Tryz.prog 77 #[.string s] w fun e w' => e = .returned (.bool false) ∧ w = w' := NU.mono fun e w' ⟨b, he, hb, hw⟩ => ⟨by rw [he]; cases b with | true => exact absurd (hb.1 rfl) hn | false => rfl, hw⟩
      have HR := Lib.hid (rd_form (l := by_ s) (by omega) hn)
      have HNU := Lib.hid hnu
      clear NU hnu hn hbl
      go_enter Tryz.func42, Tryz.ntmps42
      go_wp2_with fail
      refine HNU.out.mono ?_
      rintro e w' ⟨rfl, rfl⟩
      go_wp2_with fail
      go_ret2
      exact RetRd.of HR.out (Sl.nil _ _ _) (Below.refl _ _)
end Go.Proofs.YtnheefhbchkbdaaGreatDoor
