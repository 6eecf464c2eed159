/-
  What digit.isNumber, digit.Read and the document's own Text and Read do. Conditions: none on the text but the length that an int holds.
-/
import Derived.Test.YtnheefhbchkbdaaGreatDoorDigitShow2
namespace Go.Proofs.YtnheefhbchkbdaaGreatDoor
set_option maxRecDepth 100000
open Go.RowKit
set_option linter.unusedVariables false
set_option linter.unusedSimpArgs false

/-- a call that tells whether p -/
def RetIff (p : Prop) (w : World) (e : Ending) (w' : World) : Prop := ∃ b, e = .returned (.bool b) ∧ (b = true ↔ p) ∧ w = w'
theorem head_at {s : ByteArray} (h0 : 0 < s.size) : (by_ s).head? = some s[0] := by
  rw [by_cons s h0]; rfl
theorem digits_iff {s : ByteArray} (h0 : 0 < s.size) (h1 : s[0] = 48 → by_ s = [48]) (h : ∀ j (hj : j < s.size), 48 ≤ s[j].toNat ∧ s[j].toNat ≤ 57) : IsNum (by_ s) := by
  refine ⟨fun e => ?_, fun e => ?_, fun c hc => ?_⟩
  · have := by_length s; rw [e] at this; simp at this; omega
  · rw [head_at h0] at e; exact h1 (Option.some.inj e)
  · obtain ⟨j, hj, rfl⟩ := List.getElem_of_mem hc
    rw [by_length] at hj
    exact h j hj
theorem not_digit {s : ByteArray} {j : Nat} (hj : j < s.size) (h : s[j].toNat < 48 ∨ 57 < s[j].toNat) : ¬ IsNum (by_ s) := fun hn => by
  have := hn.2.2 s[j] (List.mem_of_getElem? (by_at s j hj))
  omega
theorem not_zero {s : ByteArray} (h0 : 0 < s.size) (h1 : s[0] = 48) (h2 : by_ s ≠ [48]) : ¬ IsNum (by_ s) := fun hn => h2 (hn.2.1 (by rw [head_at h0, h1]))
theorem not_empty {s : ByteArray} (h0 : s.size = 0) : ¬ IsNum (by_ s) := fun hn => hn.1 (List.eq_nil_of_length_eq_zero (by rw [by_length]; exact h0))
theorem byte_eq {s : ByteArray} (h0 : 0 < s.size) : (((s[0].toNat : Int) == 48) = true ∧ s[0] = 48) ∨ (((s[0].toNat : Int) == 48) = false ∧ s[0] ≠ 48) := by
  by_cases h : s[0] = 48
  · left; exact ⟨by rw [h]; rfl, h⟩
  · right
    refine ⟨?_, h⟩
    rw [beq_eq_false_iff_ne]
    intro e
    apply h
    rw [← UInt8.ofNat_toNat (x := s[0]), show s[0].toNat = 48 by omega]
    rfl
/-- the digits so far -/
def DigTo (s : ByteArray) (k : Nat) : Prop := ∀ j (hj : j < s.size), j < k → 48 ≤ s[j].toNat ∧ s[j].toNat ≤ 57
theorem DigTo.step {s : ByteArray} {k : Nat} (h : DigTo s k) (hk : k < s.size) (h1 : ¬ s[k].toNat < 48) (h2 : ¬ 57 < s[k].toNat) : DigTo s (k + 1) := fun j hj hjk => by
  by_cases e : j = k
  · subst e; omega
  · exact h j hj (by omega)


set_option maxRecDepth 100000 in
set_option maxHeartbeats 1000000 in
theorem digit_isNumber (s : ByteArray) (hs : s.size ≤ 9223372036854775807) (w : World) :
    Calls Tryz.prog 74 #[.string s] w (RetIff (IsNum (by_ s)) w) := by
  by_cases h0 : s.size = 0
  · have HN := Lib.hid (not_empty h0)
    obtain rfl : s = ⟨#[]⟩ := by
      rw [← str_by s, List.eq_nil_of_length_eq_zero (show (by_ s).length = 0 by rw [by_length]; omega)]
      rfl
    clear h0 hs
    go_enter Tryz.func74, Tryz.ntmps74
    go_wp2_with fail
    go_ret
    exact ⟨false, rfl, by simp [HN.out], rfl⟩
  · have h0 : 0 < s.size := by omega
    have e3 : ¬ s.toList = [] := by
      rw [toList_by]
      intro e
      have := by_length s
      rw [e] at this
      simp at this
      omega
    have e2 : s.toList.isEmpty = false := by
      cases h : s.toList with
      | nil => exact absurd h e3
      | cons => rfl
    rcases byte_eq h0 with ⟨hb, h1⟩ | ⟨hb, h1⟩
    · by_cases h2 : by_ s = [48]
      · have H1 : Hid (s[0] = 48 → by_ s = [48]) := Lib.hid (fun _ => h2)
        have e4 : (s.toList == [48]) = true := by rw [toList_by, h2]; rfl
        clear h1 h2
        go_enter Tryz.func74, Tryz.ntmps74
        go_wp2_with fail
        go_loop [17] (fun iv => ∃ k : Nat, k ≤ s.size ∧ iv = .int .i64 k ∧ Hid (DigTo s k)) (fun iv => s.size - (intOf iv).toNat)
        case atStart => exact ⟨0, by omega, rfl, Lib.hid (fun j _ h => absurd h (by omega))⟩
        case round =>
          obtain ⟨k, hk, rfl, HD⟩ := hrel
          by_cases hk2 : k < s.size
          · by_cases hlo : s[k].toNat < 48
            · have HN := Lib.hid (not_digit hk2 (.inl hlo))
              go_wp2_with fail
              go_ret
              exact ⟨false, rfl, by simp [HN.out], rfl⟩
            · by_cases hhi : 57 < s[k].toNat
              · have HN := Lib.hid (not_digit hk2 (.inr hhi))
                go_wp2_with fail
                go_ret
                exact ⟨false, rfl, by simp [HN.out], rfl⟩
              · have HS := Lib.hid (HD.out.step hk2 hlo hhi)
                go_wp2_with fail
                go_round
                case rel => exact ⟨k + 1, by omega, by go_num, HS⟩
                case measure => simp [intOf]; omega
          · have HN := Lib.hid (digits_iff h0 H1.out (fun j hj => HD.out j hj (by omega)))
            go_wp2_with fail
            go_ret
            exact ⟨true, rfl, by simp [HN.out], rfl⟩
      · have HN := Lib.hid (not_zero h0 h1 h2)
        have e4 : (s.toList == [48]) = false := by rw [toList_by, beq_eq_false_iff_ne]; exact h2
        have e5 : ¬ s.toList = [48] := by rw [toList_by]; exact h2
        clear h1 h2
        go_enter Tryz.func74, Tryz.ntmps74
        go_wp2_with fail
        go_ret
        exact ⟨false, rfl, by simp [HN.out], rfl⟩
    · have H1 : Hid (s[0] = 48 → by_ s = [48]) := Lib.hid (fun e => absurd e h1)
      clear h1
      go_enter Tryz.func74, Tryz.ntmps74
      go_wp2_with fail
      go_loop [17] (fun iv => ∃ k : Nat, k ≤ s.size ∧ iv = .int .i64 k ∧ Hid (DigTo s k)) (fun iv => s.size - (intOf iv).toNat)
      case atStart => exact ⟨0, by omega, rfl, Lib.hid (fun j _ h => absurd h (by omega))⟩
      case round =>
        obtain ⟨k, hk, rfl, HD⟩ := hrel
        by_cases hk2 : k < s.size
        · by_cases hlo : s[k].toNat < 48
          · have HN := Lib.hid (not_digit hk2 (.inl hlo))
            go_wp2_with fail
            go_ret
            exact ⟨false, rfl, by simp [HN.out], rfl⟩
          · by_cases hhi : 57 < s[k].toNat
            · have HN := Lib.hid (not_digit hk2 (.inr hhi))
              go_wp2_with fail
              go_ret
              exact ⟨false, rfl, by simp [HN.out], rfl⟩
            · have HS := Lib.hid (HD.out.step hk2 hlo hhi)
              go_wp2_with fail
              go_round
              case rel => exact ⟨k + 1, by omega, by go_num, HS⟩
              case measure => simp [intOf]; omega
        · have HN := Lib.hid (digits_iff h0 H1.out (fun j hj => HD.out j hj (by omega)))
          go_wp2_with fail
          go_ret
          exact ⟨true, rfl, by simp [HN.out], rfl⟩

set_option maxRecDepth 100000 in
set_option maxHeartbeats 1000000 in
theorem ref_text (s : ByteArray) (hs : s.size ≤ 9223372036854775807) (w : World) :
    Calls Tryz.prog 77 #[.string s] w (RetIff (IsNum (by_ s)) w) := by
  by_cases h0 : s.size = 0
  · have HN := Lib.hid (not_empty h0)
    go_enter Tryz.func77, Tryz.ntmps77
    go_wp2_with fail
    go_ret
    exact ⟨false, rfl, by simp [HN.out], rfl⟩
  · have h0 : 0 < s.size := by omega
    have hz : ¬ s.size = 0 := by omega
    by_cases hl : 1 < s.size
    · rcases byte_eq h0 with ⟨hb, h1⟩ | ⟨hb, h1⟩
      · have HN := Lib.hid (not_zero h0 h1 (fun e => by have := by_length s; rw [e] at this; simp at this; omega))
        clear h1
        go_enter Tryz.func77, Tryz.ntmps77
        go_wp2_with fail
        go_ret
        exact ⟨false, rfl, by simp [HN.out], rfl⟩
      · have H1 : Hid (s[0] = 48 → by_ s = [48]) := Lib.hid (fun e => absurd e h1)
        have hd1 : decide (1 < s.size) = true := decide_eq_true hl
        have hz1 : ((s.size : Int) == 0) = false := by rw [beq_eq_false_iff_ne]; omega
        clear h1
        go_enter Tryz.func77, Tryz.ntmps77
        go_wp2_with fail
        go_loop [19] (fun iv => ∃ k : Nat, k ≤ s.size ∧ iv = .int .i64 k ∧ Hid (DigTo s k)) (fun iv => s.size - (intOf iv).toNat)
        case atStart => exact ⟨0, by omega, rfl, Lib.hid (fun j _ h => absurd h (by omega))⟩
        case round =>
          obtain ⟨k, hk, rfl, HD⟩ := hrel
          by_cases hk2 : k < s.size
          · by_cases hlo : s[k].toNat < 48
            · have HN := Lib.hid (not_digit hk2 (.inl hlo))
              go_wp2_with fail
              go_ret
              exact ⟨false, rfl, by simp [HN.out], rfl⟩
            · by_cases hhi : 57 < s[k].toNat
              · have HN := Lib.hid (not_digit hk2 (.inr hhi))
                go_wp2_with fail
                go_ret
                exact ⟨false, rfl, by simp [HN.out], rfl⟩
              · have HS := Lib.hid (HD.out.step hk2 hlo hhi)
                go_wp2_with fail
                go_round
                case rel => exact ⟨k + 1, by omega, by go_num, HS⟩
                case measure => simp [intOf]; omega
          · have HN := Lib.hid (digits_iff h0 H1.out (fun j hj => HD.out j hj (by omega)))
            go_wp2_with fail
            go_ret
            exact ⟨true, rfl, by simp [HN.out], rfl⟩
    · have H1 : Hid (s[0] = 48 → by_ s = [48]) := Lib.hid (fun e => by
        rw [by_cons s h0, e, List.eq_nil_of_length_eq_zero (show ((by_ s).drop 1).length = 0 by rw [List.length_drop, by_length]; omega)])
      go_enter Tryz.func77, Tryz.ntmps77
      go_wp2_with fail
      go_loop [19] (fun iv => ∃ k : Nat, k ≤ s.size ∧ iv = .int .i64 k ∧ Hid (DigTo s k)) (fun iv => s.size - (intOf iv).toNat)
      case atStart => exact ⟨0, by omega, rfl, Lib.hid (fun j _ h => absurd h (by omega))⟩
      case round =>
        obtain ⟨k, hk, rfl, HD⟩ := hrel
        by_cases hk2 : k < s.size
        · by_cases hlo : s[k].toNat < 48
          · have HN := Lib.hid (not_digit hk2 (.inl hlo))
            go_wp2_with fail
            go_ret
            exact ⟨false, rfl, by simp [HN.out], rfl⟩
          · by_cases hhi : 57 < s[k].toNat
            · have HN := Lib.hid (not_digit hk2 (.inr hhi))
              go_wp2_with fail
              go_ret
              exact ⟨false, rfl, by simp [HN.out], rfl⟩
            · have HS := Lib.hid (HD.out.step hk2 hlo hhi)
              go_wp2_with fail
              go_round
              case rel => exact ⟨k + 1, by omega, by go_num, HS⟩
              case measure => simp [intOf]; omega
        · have HN := Lib.hid (digits_iff h0 H1.out (fun j hj => HD.out j hj (by omega)))
          go_wp2_with fail
          go_ret
          exact ⟨true, rfl, by simp [HN.out], rfl⟩

end Go.Proofs.YtnheefhbchkbdaaGreatDoor
