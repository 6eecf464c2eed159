/-
  What strings.CutPrefix (of a minus), power.split and power.Read do. Conditions: a text is no longer than a string can be.
-/
import Derived.Test.YtnheefhbchkbdaaDoorPowRun
import Derived.Test.YtnheefhbchkbdaaDoorRefDigit2
namespace Go.Proofs.YtnheefhbchkbdaaDoor
set_option maxRecDepth 100000
open Go.RowKit
set_option linter.unusedVariables false
set_option linter.unusedSimpArgs false

theorem by_take (s : ByteArray) (k : Nat) : by_ (s.extract 0 k) = (by_ s).take k := by
  unfold by_
  rw [ByteArray.data_extract, Array.toList_extract]
  simp [List.extract]
theorem neg_test (s : ByteArray) : ((s.extract 0 1).toList == [45]) = isNeg (by_ s) := by
  rw [toList_by, by_take]
  unfold isNeg
  match by_ s with
  | [] => rfl
  | c :: l => simp [List.take]
theorem isNeg_empty {s : ByteArray} (h : s.size = 0) : isNeg (by_ s) = false := by
  have : by_ s = [] := List.eq_nil_of_length_eq_zero (by rw [by_length]; exact h)
  rw [this]; rfl

set_option maxRecDepth 100000 in
set_option maxHeartbeats 1000000 in
theorem has_prefix (s : ByteArray) (hs : s.size ≤ 9223372036854775807) (w : World) :
    Calls Tryd.prog 73 #[.string s, .string ⟨#[45]⟩] w fun e w' => e = .returned (.bool (isNeg (by_ s))) ∧ w = w' := by
  rcases Nat.eq_zero_or_pos s.size with h0 | h0
  · rw [isNeg_empty h0]
    have h1 : ¬ (1 : Int) ≤ (s.size : Int) := by omega
    have h2 : decide ((1 : Int) ≤ (s.size : Int)) = false := decide_eq_false h1
    have h3 : decide (1 ≤ s.size) = false := decide_eq_false (by omega)
    go_enter Tryd.func73, Tryd.ntmps73
    go_wp2_with fail
    go_ret
    exact ⟨rfl, rfl⟩
  · rw [← neg_test]
    go_enter Tryd.func73, Tryd.ntmps73
    go_wp2_with fail
    go_ret
    exact ⟨rfl, rfl⟩
/-- a call that returns a text and a bool -/
def RetCut (l : List UInt8) (w : World) (e : Ending) (w' : World) : Prop := ∃ t, e = .returned (.tuple #[.string t, .bool (isNeg l)]) ∧ by_ t = bare l ∧ t.size ≤ l.length ∧ w = w'
set_option maxRecDepth 100000 in
set_option maxHeartbeats 1000000 in
theorem cut_lite (s : ByteArray) (hs : s.size ≤ 9223372036854775807) (w : World) :
    Calls Tryd.prog 47 #[.string s, .string ⟨#[45]⟩] w (RetCut (by_ s) w) := by
  have HP := has_prefix s hs w
  have hb : bare (by_ s) = if isNeg (by_ s) then (by_ s).drop 1 else by_ s := rfl
  have hl := by_length s
  unfold RetCut
  cases hn : isNeg (by_ s)
  · rw [hn] at HP hb
    have HB := Lib.hid hb
    have HHP := Lib.hid HP
    have HL := Lib.hid hl
    clear HP hb hl hn
    go_enter Tryd.func47, Tryd.ntmps47
    go_wp2_with fail
    refine HHP.out.mono ?_
    rintro _ _ ⟨rfl, rfl⟩
    go_wp2_with fail
    go_ret2
    exact ⟨_, rfl, by rw [HB.out]; simp, by rw [HL.out]; omega, rfl⟩
  · have h0 : 0 < s.size := by
      rcases Nat.eq_zero_or_pos s.size with h0 | h0
      · rw [isNeg_empty h0] at hn; cases hn
      · exact h0
    rw [hn] at HP hb
    have HB := Lib.hid hb
    have HHP := Lib.hid HP
    have HL := Lib.hid hl
    have hd := by_drop s 1
    have HD := Lib.hid hd
    clear HP hb hl hn hd
    go_enter Tryd.func47, Tryd.ntmps47
    go_wp2_with fail
    refine HHP.out.mono ?_
    rintro _ _ ⟨rfl, rfl⟩
    go_wp2_with fail
    go_ret2
    exact ⟨_, rfl, by rw [HB.out, HD.out]; simp, by rw [← by_length, HD.out, List.length_drop]; omega, rfl⟩
set_option maxRecDepth 100000 in
set_option maxHeartbeats 1000000 in
theorem cut_prefix (s : ByteArray) (hs : s.size ≤ 9223372036854775807) (w : World) :
    Calls Tryd.prog 28 #[.string s, .string ⟨#[45]⟩] w (RetCut (by_ s) w) := by
  have H := Lib.hid (cut_lite s hs w)
  go_enter Tryd.func28, Tryd.ntmps28
  go_wp2_with fail
  refine H.out.mono ?_
  rintro _ _ ⟨t, rfl, ht, hl, rfl⟩
  have HT := Lib.hid ht
  clear ht
  go_wp2_with fail
  go_ret2
  exact ⟨_, rfl, HT.out, hl, rfl⟩

/-- no / among the first k -/
def NoTo (s : ByteArray) (k : Nat) : Prop := ∀ c ∈ (by_ s).take k, (c != 47) = true
theorem NoTo.step {s : ByteArray} {k : Nat} (h : NoTo s k) (hk : k < s.size) (h1 : s[k] ≠ 47) : NoTo s (k + 1) := by
  intro c hc
  rw [List.take_add_one, by_at s k hk] at hc
  simp at hc
  rcases hc with hc | rfl
  · exact h c hc
  · simpa using h1
theorem above_at {s : ByteArray} {k : Nat} (h : NoTo s k) (hk : k < s.size) (h1 : s[k] = 47) : above (by_ s) = (by_ s).take k ∧ behind (by_ s) = (by_ s).drop (k + 1) := by
  have e : by_ s = (by_ s).take k ++ 47 :: (by_ s).drop (k + 1) := by
    have h2 := by_at s k hk
    rw [h1] at h2
    have hlt : k < (by_ s).length := by rw [by_length]; exact hk
    have h3 : (by_ s)[k] = 47 := by rw [List.getElem?_eq_getElem hlt] at h2; exact Option.some.inj h2
    rw [← h3, ← List.drop_eq_getElem_cons hlt, List.take_append_drop]
  generalize hA : (by_ s).take k = a at *
  generalize hB : (by_ s).drop (k + 1) = b at *
  have hc : ∀ c ∈ a, (c != 47) = true := by intro c hc; rw [← hA] at hc; exact h c hc
  rw [e]
  unfold above behind
  refine ⟨?_, ?_⟩
  · rw [takeWhile_all hc]; simp
  · rw [if_pos (by simp), dropWhile_all hc]; simp
theorem above_none {s : ByteArray} (h : NoTo s s.size) : above (by_ s) = by_ s ∧ behind (by_ s) = [49] := by
  have hc : ∀ c ∈ by_ s, (c != 47) = true := by
    intro c hc
    exact h c (by rw [List.take_of_length_le (by rw [by_length]; exact Nat.le_refl _)]; exact hc)
  unfold above behind
  refine ⟨?_, ?_⟩
  · have := takeWhile_all (r := []) hc
    simpa using this
  · rw [if_neg]
    simp only [List.contains_eq_mem, decide_eq_true_eq]
    intro h47
    have := hc 47 h47
    simp at this
/-- a call that returns two texts -/
def RetTwo (a b : List UInt8) (w : World) (e : Ending) (w' : World) : Prop := ∃ t u, e = .returned (.tuple #[.string t, .string u]) ∧ by_ t = a ∧ by_ u = b ∧ ∃ k, w' = w.drewN k
theorem slash_eq {s : ByteArray} {k : Nat} (hk : k < s.size) : (((s[k].toNat : Int) == 47) = true ∧ s[k] = 47) ∨ (((s[k].toNat : Int) == 47) = false ∧ s[k] ≠ 47) := by
  by_cases h : s[k] = 47
  · left; rw [h]; exact ⟨rfl, rfl⟩
  · right
    refine ⟨?_, h⟩
    simp
    intro e
    apply h
    have : s[k].toNat = 47 := by omega
    exact UInt8.toNat_inj.1 this
set_option maxRecDepth 100000 in
set_option maxHeartbeats 2000000 in
theorem pw_split (s : ByteArray) (hs : s.size ≤ 4611686018427387904) (w : World) :
    Calls Tryd.prog 29 #[.string s] w (RetTwo (above (by_ s)) (behind (by_ s)) w) := by
  go_enter Tryd.func29, Tryd.ntmps29
  go_wp2_with fail
  go_loopw [7] (fun i wr => ∃ k : Nat, k ≤ s.size ∧ i = .int .i64 k ∧ Hid (NoTo s k) ∧ wr = w) (fun i _ => s.size - mes i)
  case atStart => exact ⟨0, by omega, rfl, Lib.hid (by intro c hc; simp at hc), rfl⟩
  case round =>
    obtain ⟨k, hk, rfl, hz, rfl⟩ := hrel
    by_cases hk2 : k < s.size
    · rcases slash_eq hk2 with ⟨e1, e2⟩ | ⟨e1, e2⟩
      · have ha := above_at hz.out hk2 e2
        have HA := Lib.hid ha.1
        have HB := Lib.hid ha.2
        have ht := by_take s k
        have hd := by_drop s (k + 1)
        have HT := Lib.hid ht
        have HD := Lib.hid hd
        have wk : IntKind.i64.wrap ((k : Int) + 1) = (k : Int) + 1 := IntWalk.i64_in _ (by omega)
        have w0 : (0 : Int) ≤ (k : Int) + 1 := by omega
        have w1 : ((k : Int) + 1).toNat = k + 1 := by omega
        have w2 : (k : Int) + 1 ≤ (s.size : Int) := by omega
        have w3 : (k : Int) ≤ (s.size : Int) := by omega
        clear ha ht hd e2
        go_wp2_with fail
        go_region
        all_goals
          go_wp2_with fail
          go_ret2
          exact ⟨_, _, rfl, by rw [HA.out]; exact HT.out, by rw [HB.out]; exact HD.out, 1, rfl⟩
      · have HN := Lib.hid (hz.out.step hk2 e2)
        clear e2
        go_wp2_with fail
        go_roundw
        case rel => exact ⟨k + 1, by omega, by go_num, HN, by first | rfl | trivial⟩
        case measure => simp [mes, intOf]; omega
    · obtain rfl : k = s.size := by omega
      have ha := above_none hz.out
      have HA := Lib.hid ha.1
      have HB := Lib.hid ha.2
      clear ha
      go_wp2_with fail
      go_ret2
      exact ⟨_, _, rfl, by rw [HA.out], by rw [HB.out]; rfl, 0, rfl⟩

end Go.Proofs.YtnheefhbchkbdaaDoor
