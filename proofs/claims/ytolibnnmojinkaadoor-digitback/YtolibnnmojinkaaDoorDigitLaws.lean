/-
  The walks of the laws of layer 6: each returns true for any numbers and texts. Conditions: the slices read as lists of words; a text is no longer than a string can be.
-/
import Derived.Test.YtolibnnmojinkaaDoorRefDigit2
namespace Go.Proofs.YtolibnnmojinkaaDoor
open Go.RowKit
set_option linter.unusedVariables false
set_option linter.unusedSimpArgs false

/-- the text of 2^64 -/
def l64 : List UInt8 := [49, 56, 52, 52, 54, 55, 52, 52, 48, 55, 51, 55, 48, 57, 53, 53, 49, 54, 49, 54]
theorem l64_num : IsNum l64 := ⟨by decide, by decide, by decide⟩
theorem l64_rd : rd l64 = val [0, 1] := by decide
theorem l64_txt : txt (val [0, 1]) = l64 := by rw [← l64_rd]; exact txt_rd l64_num
theorem l64_words : words (rdv l64) = [0, 1] ∧ rde l64 = 0 := by
  obtain ⟨h1, h2⟩ := rd_good (l := l64) (by decide) l64_num
  rw [h1, h2, l64_rd, words_val (by intro x hx; simp at hx; rcases hx with rfl | rfl <;> (unfold W; omega))]
  exact ⟨by decide, rfl⟩
theorem l007 : rde [48, 48, 55] = 2 := (rd_form (l := [48, 48, 55]) (by decide) (fun h => by have := h.2.1 rfl; revert this; decide)).2
theorem str_of {s : ByteArray} {l : List UInt8} (h : by_ s = l) : s = str l := by rw [← h, str_by]

/-- a call that returns a list and a number -/
def RetLI (xs : List Int) (x : Int) (w : World) (e : Ending) (w' : World) : Prop := ∃ A n c, e = .returned (.tuple #[.slice A n c, .int .i64 x]) ∧ Sl w' A n c xs ∧ Below w.heap.size w w'

set_option maxRecDepth 100000 in
set_option maxHeartbeats 1000000 in
theorem same06 (w : World) : Calls Tryd.prog 6 #[] w fun e w' => e = .returned (.bool true) ∧ Below w.heap.size w w' := by
  have R1 : ∀ w, Calls Tryd.prog 7 #[.string ⟨#[49, 56, 52, 52, 54, 55, 52, 52, 48, 55, 51, 55, 48, 57, 53, 53, 49, 54, 49, 54]⟩] w (RetLI [0, 1] 0 w) := fun w =>
    (digit_read ⟨#[49, 56, 52, 52, 54, 55, 52, 52, 48, 55, 51, 55, 48, 57, 53, 53, 49, 54, 49, 54]⟩ (by decide) w).mono fun e w' ⟨A, n, c, he, hs, hb⟩ => by
      have e1 : by_ ⟨#[49, 56, 52, 52, 54, 55, 52, 52, 48, 55, 51, 55, 48, 57, 53, 53, 49, 54, 49, 54]⟩ = l64 := rfl
      rw [e1] at he hs
      rw [l64_words.2] at he
      rw [l64_words.1] at hs
      exact ⟨A, n, c, he, hs, hb⟩
  have R2 : ∀ w, Calls Tryd.prog 7 #[.string ⟨#[48, 48, 55]⟩] w (fun e w' => ∃ xs, RetLI xs 2 w e w') := fun w =>
    (digit_read ⟨#[48, 48, 55]⟩ (by decide) w).mono fun e w' ⟨A, n, c, he, hs, hb⟩ => by
      have e1 : by_ ⟨#[48, 48, 55]⟩ = [48, 48, 55] := rfl
      rw [e1, l007] at he
      exact ⟨_, A, n, c, he, hs, hb⟩
  have SH := fun w : World => digit_show (N := 2) (Row.sl (c := 2) (Row.lit w 34 [0, 1]) (by intro x hx; simp at hx; rcases hx with rfl | rfl <;> (unfold U; omega)) (by simp)) (by simp) (by omega)
  simp only [l64_txt, List.map_cons, List.map_nil, List.length_cons, List.length_nil] at SH
  have HR1 := Lib.hid R1
  have HR2 := Lib.hid R2
  have HSH := Lib.hid SH
  clear R1 R2 SH
  go_enter Tryd.func6, Tryd.ntmps6
  go_wp2_with fail
  refine (HR1.out _).mono ?_
  rintro e w1 ⟨A1, n1, c1, rfl, s1, b1⟩
  obtain rfl : n1 = 2 := s1.len
  go_wp2_with fail
  refine (HR2.out _).mono ?_
  rintro e w2 ⟨xs, A2, n2, c2, rfl, s2, b2⟩
  have hb2 := b1.trans (b2.mono b1.size)
  have s12 := s1.below b2
  clear s1 s2 b1 b2 HR1 HR2
  go_wp2_with fail
  refine (HSH.out _).mono ?_
  rintro e w3 ⟨s, rfl, hs, b3⟩
  obtain rfl : s = ⟨#[49, 56, 52, 52, 54, 55, 52, 52, 48, 55, 51, 55, 48, 57, 53, 53, 49, 54, 49, 54]⟩ := str_of hs
  have ba := below_alloc w2 (.cells #[.int .u64 0, .int .u64 1] 34)
  have hba := hb2.trans (ba.mono hb2.size)
  have hb3 := hba.trans (b3.mono hba.size)
  have s13 := (s12.below ba).below b3
  obtain ⟨p1, o1, rfl, _, h1⟩ := s13.at_ (k := 0) (by omega)
  have k1 : w3.cell? ⟨p1, o1 + 1, none⟩ = some (.int .u64 1) := h1 1 (by omega)
  clear h1 s12 s13 b3 hb2 ba hba HSH hs
  go_wp2_with fail
  go_ret
  exact ⟨rfl, hb3⟩

end Go.Proofs.YtolibnnmojinkaaDoor
