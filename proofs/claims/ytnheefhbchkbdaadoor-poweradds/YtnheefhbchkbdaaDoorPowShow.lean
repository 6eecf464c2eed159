/-
  What power.Show and gradineref08.Show do: the text of a number. Conditions: numbers of at most 20 words.
-/
import Derived.Test.YtnheefhbchkbdaaDoorPowRun
import Derived.Test.YtnheefhbchkbdaaDoorRefDigit2
namespace Go.Proofs.YtnheefhbchkbdaaDoor
set_option maxRecDepth 100000
open Go.RowKit
set_option linter.unusedVariables false
set_option linter.unusedSimpArgs false

theorem txt_size {s : ByteArray} {v : Nat} (h : by_ s = txt v) (hv : v < W ^ 20) : s.size ≤ 400 := by
  have h1 : (txt v).length ≤ 20 * 20 := txt_len (words20 hv) (by omega)
  rw [← by_length, h]; omega
/-- the text without what follows -/
def txtA (X : Rat) : List UInt8 := (if neg_ X then [45] else []) ++ txt X.num.natAbs
theorem txtQ_one {X : Rat} (h : X.den = 1) : txtQ X = txtA X := by unfold txtQ txtA; rw [if_pos h, List.append_nil]
theorem txtQ_more {X : Rat} (h : X.den ≠ 1) : txtQ X = txtA X ++ (47 :: txt X.den) := by unfold txtQ txtA; rw [if_neg h]
theorem by_minus (s : ByteArray) : by_ ((⟨#[45]⟩ : ByteArray) ++ s) = 45 :: by_ s := by rw [by_append]; rfl
theorem by_slash (s : ByteArray) : by_ ((⟨#[47]⟩ : ByteArray) ++ s) = 47 :: by_ s := by rw [by_append]; rfl
theorem by_slash' (s : ByteArray) : by_ (s ++ (⟨#[47]⟩ : ByteArray)) = by_ s ++ [47] := by rw [by_append]; rfl

set_option maxRecDepth 100000 in
set_option maxHeartbeats 4000000 in
theorem pw_show {w : World} {s : Bool} {A A' : Option Addr} {n n' c c' : Nat} {X : Rat} (h : Q w s A n c A' n' c' X) (hX : Sz X 20) :
    Calls Tryd.prog 12 #[.agg #[.bool s, .slice A n c, .slice A' n' c']] w (RetS (txtQ X) w) := by
  obtain ⟨V, hW, Ba, hb0⟩ := box0 24 w #[.bool s, .slice A n c, .slice A' n' c']
  have l1 : n ≤ 20 := h.2.1.small hX.1
  have l2 : n' ≤ 20 := h.2.2.small hX.2
  have S1 := fun w1 (hb : Below V.heap.size V w1) => digit_show (N := 20) (h.2.1.below (bb hb0 hb)) l1 (by omega)
  have S2 := fun w1 (hb : Below V.heap.size V w1) => digit_show (N := 20) (h.2.2.below (bb hb0 hb)) l2 (by omega)
  simp only [val_words] at S1 S2
  have O1 := fun w1 => nat_of 1 U_1 w1
  rw [show (1 : Int).toNat = 1 from rfl] at O1
  have CM := fun (w1 : World) (hb : Below V.heap.size V w1) (C : Option Addr) (a b : Nat) (y : Sl w1 C a b (words 1)) => nat_cmp (h.2.2.below (bb hb0 hb)) y (by omega) (by have := y.small (k := 1) (by rw [Nat.pow_one]; unfold W; omega); omega)
  simp only [val_words] at CM
  have ez := cmpN_zero X.den 1
  have hS : ∀ w', Below V.heap.size V w' → w'.cell? ⟨w.heap.size, 0, none⟩ = some (.bool s) ∧ w'.cell? ⟨w.heap.size, 1, none⟩ = some (.slice A n c) ∧ w'.cell? ⟨w.heap.size, 2, none⟩ = some (.slice A' n' c') := fun w' hb => (Ba.below' hb).three.1
  have hta : txtA X = (if s then [45] else []) ++ txt X.num.natAbs := by unfold txtA; rw [← h.1]
  have z1 := hX.1
  have z2 := hX.2
  have HS1 := Lib.hid S1
  have HS2 := Lib.hid S2
  have HO1 := Lib.hid O1
  have HCM := Lib.hid CM
  have HS := Lib.hid hS
  have HW := Lib.hid hW
  have HTA := Lib.hid hta
  have HZ1 := Lib.hid z1
  have HZ2 := Lib.hid z2
  clear S1 S2 O1 CM hS Ba hW h hX hta z1 z2
  by_cases h1 : X.den = 1
  · rw [decide_eq_true h1] at ez
    have ez2 : cmpN X.den 1 = 0 := by simpa using ez
    have HT := Lib.hid (txtQ_one h1)
    rw [ez2] at HCM
    clear ez ez2 h1
    cases s
    all_goals
      go_enter Tryd.func12, Tryd.ntmps12
      go_wp2_with fail
      rw [HW.out]
      clear HW
      refine (HS1.out _ (Below.refl _ _)).mono ?_
      rintro _ w1 ⟨t1, rfl, e1, b1⟩
      have q1 := txt_size e1 HZ1.out
      have HE1 := Lib.hid e1
      clear e1
      obtain ⟨k0, k1, k2⟩ := HS.out _ b1
      go_wp2_with fail
      first
      | (go_region_held3 (fun w' => w'.cell? ⟨w.heap.size, 0, none⟩ = some (.bool false) ∧ w'.cell? ⟨w.heap.size, 1, none⟩ = some (.slice A n c) ∧ w'.cell? ⟨w.heap.size, 2, none⟩ = some (.slice A' n' c')) (first | exact HS.out _ b1.drew | exact HS.out _ x2 | fail)
          (first
            | (go_at_call 34; (with_reducible refine (HO1.out _).mono ?_); rintro _ w2 ⟨A2, n2, c2, rfl, t2, b2⟩; have b2 := Below.undrew b2; have x2 := bb b1 b2)
            | (go_at_call 33; (with_reducible refine (HCM.out _ x2 _ _ _ t2).mono ?_); rintro _ _ ⟨rfl, rfl⟩)))
      | (go_region_held3 (fun w' => w'.cell? ⟨w.heap.size, 0, none⟩ = some (.bool true) ∧ w'.cell? ⟨w.heap.size, 1, none⟩ = some (.slice A n c) ∧ w'.cell? ⟨w.heap.size, 2, none⟩ = some (.slice A' n' c')) (first | exact HS.out _ b1.drew | exact HS.out _ x2 | fail)
          (first
            | (go_at_call 34; (with_reducible refine (HO1.out _).mono ?_); rintro _ w2 ⟨A2, n2, c2, rfl, t2, b2⟩; have b2 := Below.undrew b2; have x2 := bb b1 b2)
            | (go_at_call 33; (with_reducible refine (HCM.out _ x2 _ _ _ t2).mono ?_); rintro _ _ ⟨rfl, rfl⟩)))
      go_wp2_with fail
      go_ret
      refine ⟨_, rfl, ?_, bb hb0 x2⟩
      rw [HT.out, HTA.out]
      first | (rw [HE1.out]; rfl) | (rw [by_minus, HE1.out]; rfl)
  · rw [decide_eq_false h1] at ez
    have ez2 : (cmpN X.den 1 != 0) = true := by simp only [bne, ez]; rfl
    have HT := Lib.hid (txtQ_more h1)
    generalize cmpN X.den 1 = cm at *
    clear h1
    cases s
    all_goals
      go_enter Tryd.func12, Tryd.ntmps12
      go_wp2_with fail
      rw [HW.out]
      clear HW
      refine (HS1.out _ (Below.refl _ _)).mono ?_
      rintro _ w1 ⟨t1, rfl, e1, b1⟩
      have q1 := txt_size e1 HZ1.out
      have HE1 := Lib.hid e1
      clear e1
      obtain ⟨k0, k1, k2⟩ := HS.out _ b1
      go_wp2_with fail
      first
      | (go_region_held3 (fun w' => w'.cell? ⟨w.heap.size, 0, none⟩ = some (.bool false) ∧ w'.cell? ⟨w.heap.size, 1, none⟩ = some (.slice A n c) ∧ w'.cell? ⟨w.heap.size, 2, none⟩ = some (.slice A' n' c')) (first | exact HS.out _ b1.drew | exact HS.out _ x2 | fail)
          (first
            | (go_at_call 34; (with_reducible refine (HO1.out _).mono ?_); rintro _ w2 ⟨A2, n2, c2, rfl, t2, b2⟩; have b2 := Below.undrew b2; have x2 := bb b1 b2)
            | (go_at_call 33; (with_reducible refine (HCM.out _ x2 _ _ _ t2).mono ?_); rintro _ _ ⟨rfl, rfl⟩)))
      | (go_region_held3 (fun w' => w'.cell? ⟨w.heap.size, 0, none⟩ = some (.bool true) ∧ w'.cell? ⟨w.heap.size, 1, none⟩ = some (.slice A n c) ∧ w'.cell? ⟨w.heap.size, 2, none⟩ = some (.slice A' n' c')) (first | exact HS.out _ b1.drew | exact HS.out _ x2 | fail)
          (first
            | (go_at_call 34; (with_reducible refine (HO1.out _).mono ?_); rintro _ w2 ⟨A2, n2, c2, rfl, t2, b2⟩; have b2 := Below.undrew b2; have x2 := bb b1 b2)
            | (go_at_call 33; (with_reducible refine (HCM.out _ x2 _ _ _ t2).mono ?_); rintro _ _ ⟨rfl, rfl⟩)))
      obtain ⟨j0, j1, j2⟩ := HS.out _ x2
      go_wp2_with fail
      refine (HS2.out _ x2).mono ?_
      rintro _ w3 ⟨t3, rfl, e3, b3⟩
      have q3 := txt_size e3 HZ2.out
      have HE3 := Lib.hid e3
      clear e3
      go_wp2_with fail
      go_ret
      refine ⟨_, rfl, ?_, bb hb0 (bb x2 b3)⟩
      rw [HT.out, HTA.out, by_append, by_slash, HE3.out]
      first | (rw [HE1.out]; rfl) | (rw [by_minus, HE1.out]; rfl)

end Go.Proofs.YtnheefhbchkbdaaDoor
