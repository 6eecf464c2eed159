/-
  Words for strings, and what strings.TrimLeft does with the cutset '0'. Conditions: none but the length that an int holds.
-/
import Derived.Test.YtnheefhbchkbdaaGreatDoorQuotWord
import Derived.Test.YtnheefhbchkbdaaGreatDoorRefProd
import Derived.Test.YtnheefhbchkbdaaGreatDoorDigitMath
namespace Go.Proofs.YtnheefhbchkbdaaGreatDoor
set_option maxRecDepth 100000
open Go.RowKit
set_option linter.unusedVariables false
set_option linter.unusedSimpArgs false

/-- the bytes of a string -/
def by_ (s : ByteArray) : List UInt8 := s.data.toList
/-- the string of some bytes -/
def str (l : List UInt8) : ByteArray := ⟨l.toArray⟩
theorem by_str (l : List UInt8) : by_ (str l) = l := rfl
theorem str_by (s : ByteArray) : str (by_ s) = s := by
  cases s
  simp [str, by_]
theorem by_length (s : ByteArray) : (by_ s).length = s.size := by unfold by_; rw [Array.length_toList]; rfl
theorem str_size (l : List UInt8) : (str l).size = l.length := by rw [← by_length]; rfl
theorem toList_by (s : ByteArray) : s.toList = by_ s := ByteArray.toList_eq s
theorem by_drop (s : ByteArray) (k : Nat) : by_ (s.extract k s.size) = (by_ s).drop k := by
  obtain ⟨l, rfl⟩ : ∃ l, s = str l := ⟨_, (str_by s).symm⟩
  have : (str l).extract k (str l).size = str ((l.drop k).take ((str l).size - k)) := ByteArray.extract_mk l k _
  rw [this, by_str, by_str, str_size]
  exact List.take_of_length_le (by rw [List.length_drop]; omega)
theorem by_at (s : ByteArray) (k : Nat) (h : k < s.size) : (by_ s)[k]? = some s[k] := by
  rw [List.getElem?_eq_getElem (by rw [by_length]; exact h)]
  rfl
theorem by_cons (s : ByteArray) (h : 0 < s.size) : by_ s = s[0] :: (by_ s).drop 1 := by
  have h1 := by_at s 0 h
  cases e : by_ s with
  | nil => rw [e] at h1; cases h1
  | cons a l => rw [e] at h1; simp at h1; rw [h1]; rfl

def RetStr (l : List UInt8) (w : World) (e : Ending) (w' : World) : Prop := ∃ s, e = .returned (.string s) ∧ by_ s = l ∧ w = w'

set_option maxHeartbeats 400000 in
theorem trim_byte (s : ByteArray) (w : World) :
    Calls Tryz.prog 94 #[.string s, .int .u8 48] w (RetStr ((by_ s).dropWhile (· == 48)) w) := by
  obtain ⟨T, hT⟩ : ∃ T, (by_ s).dropWhile (· == 48) = T := ⟨_, rfl⟩
  rw [hT]
  have HT := Lib.hid hT
  clear hT
  go_enter Tryz.func94, Tryz.ntmps94
  go_wp2_with fail
  go_loopw [0] (fun sv wr => ∃ s, sv = .string s ∧ Hid ((by_ s).dropWhile (· == 48) = T) ∧ w = wr) (fun sv _ => match sv with | .string s => s.size | _ => 0)
  case atStart => exact ⟨s, rfl, HT, rfl⟩
  case round =>
    clear HT
    obtain ⟨s, rfl, HT, rfl⟩ := hrel
    by_cases h0 : 0 < s.size
    · have hc := by_cons s h0
      have HC := Lib.hid hc
      clear hc
      by_cases h1 : s[0] = 48
      · have e : ((s[0].toNat : Int) == 48) = true := by rw [h1]; rfl
        have hd : (by_ (s.extract 1 s.size)).dropWhile (· == 48) = T := by
          rw [by_drop, ← HT.out]
          conv => rhs; rw [HC.out, h1]
          rfl
        have hs : (s.extract 1 s.size).size < s.size := by rw [ByteArray.size_extract]; omega
        have HD := Lib.hid hd
        have HS := Lib.hid hs
        clear hd hs h1
        go_wp2_with fail
        go_roundw
        case rel => exact ⟨_, rfl, HD, trivial⟩
        case measure => exact HS.out
      · have e : ((s[0].toNat : Int) == 48) = false := by
          rw [beq_eq_false_iff_ne]
          intro e
          apply h1
          rw [← UInt8.ofNat_toNat (x := s[0]), show s[0].toNat = 48 by omega]
          rfl
        have hd : by_ s = T := by
          rw [← HT.out]
          conv => lhs; rw [HC.out]
          conv => rhs; rw [HC.out]
          rw [List.dropWhile_cons, if_neg (by simpa using h1)]
        have HD := Lib.hid hd
        clear hd h1
        go_wp2_with fail
        go_ret
        exact ⟨_, rfl, HD.out, rfl⟩
    · have hd : by_ s = T := by
        rw [← HT.out, List.eq_nil_of_length_eq_zero (show (by_ s).length = 0 by rw [by_length]; omega)]
        rfl
      have HD := Lib.hid hd
      clear hd
      go_wp2_with fail
      go_ret
      exact ⟨_, rfl, HD.out, rfl⟩

set_option maxRecDepth 100000 in
set_option maxHeartbeats 400000 in
theorem trim_left (s : ByteArray) (w : World) :
    Calls Tryz.prog 80 #[.string s, .string ⟨#[48]⟩] w (RetStr ((by_ s).dropWhile (· == 48)) w) := by
  by_cases h0 : s.size = 0
  · obtain rfl : s = ⟨#[]⟩ := by
      rw [← str_by s, List.eq_nil_of_length_eq_zero (show (by_ s).length = 0 by rw [by_length]; omega)]
      rfl
    clear h0
    go_enter Tryz.func80, Tryz.ntmps80
    go_wp2_with fail
    go_ret
    exact ⟨_, rfl, rfl, rfl⟩
  · have e : (s.toList == []) = false := by
      rw [beq_eq_false_iff_ne, toList_by]
      intro e
      apply h0
      rw [← by_length, e]; rfl
    have e2 : s.toList.isEmpty = false := by
      cases h : s.toList with
      | nil => rw [h] at e; cases e
      | cons => rfl
    have e3 : ¬ s.toList = [] := by simpa using e
    have HT := Lib.hid (trim_byte s w)
    clear h0 e
    go_enter Tryz.func80, Tryz.ntmps80
    go_wp2_with fail
    refine HT.out.mono ?_
    rintro e w' ⟨s1, rfl, hs, rfl⟩
    have HS := Lib.hid hs
    clear hs
    go_wp2_with fail
    go_ret
    exact ⟨_, rfl, HS.out, rfl⟩

end Go.Proofs.YtnheefhbchkbdaaGreatDoor
