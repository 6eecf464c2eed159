/-
  What Axes of package shape and of the document return, for any rank and any list. Conditions: the slice reads as a list of ints.
-/
import Derived.Test.YthhmofmncjodfaaShE
namespace Go.Proofs.Ythhmofmncjodfaa
open Go.RowKit
set_option linter.unusedVariables false
set_option linter.unusedSimpArgs false

/-- the first k of axes are axes, and none of them twice -/
def AxTo (m : Nat) (l : List Int) (k : Nat) : Prop := ∀ j, j < k → (0 ≤ l.getD j 0 ∧ l.getD j 0 < (m : Int)) ∧ ¬ l.getD j 0 ∈ l.take j
theorem AxTo.step {m : Nat} {l : List Int} {k : Nat} (h : AxTo m l k) (h1 : 0 ≤ l.getD k 0 ∧ l.getD k 0 < (m : Int)) (h2 : ¬ l.getD k 0 ∈ l.take k) : AxTo m l (k + 1) := fun j hj => by
  rcases Nat.lt_or_ge j k with hl | hl
  · exact h j hl
  · rw [show j = k by omega]; exact ⟨h1, h2⟩
def axB (m : Nat) (l : List Int) : Bool := (List.range l.length).all fun j => decide ((0 ≤ l.getD j 0 ∧ l.getD j 0 < (m : Int)) ∧ ¬ l.getD j 0 ∈ l.take j)
theorem axB_iff (m : Nat) (l : List Int) : axB m l = true ↔ AxTo m l l.length := by unfold axB AxTo; simp only [List.all_eq_true, List.mem_range, decide_eq_true_eq]
/-- the error of axes, and what they mark -/
def axE (r : Int) (l : List Int) : Int := if r < 0 ∨ 6 < r then 9 else if axB r.toNat l then 0 else 10
def axM (m : Nat) (l : List Int) : List Bool := (List.range m).map fun i : Nat => decide (l = []) || decide ((i : Int) ∈ l)
def axR (r : Int) (l : List Int) : List Bool := if axE r l = 0 then axM r.toNat l else []
theorem axE_rank {r : Int} (l : List Int) (h : r < 0 ∨ 6 < r) : axE r l = 9 := by unfold axE; rw [if_pos h]
theorem axE_bad {m : Nat} {l : List Int} (hm : m ≤ 6) {k : Nat} (hk : k < l.length) (h : ¬ (0 ≤ l.getD k 0 ∧ l.getD k 0 < (m : Int)) ∨ l.getD k 0 ∈ l.take k) : axE m l = 10 := by
  unfold axE
  rw [if_neg (by omega), Int.toNat_natCast, if_neg]
  intro hh
  obtain ⟨h1, h2⟩ := (axB_iff m l).1 hh k hk
  rcases h with h | h
  · exact h h1
  · exact h2 h
theorem axE_ok {m : Nat} {l : List Int} (hm : m ≤ 6) (h : AxTo m l l.length) : axE m l = 0 := by
  unfold axE
  rw [if_neg (by omega), Int.toNat_natCast, (axB_iff m l).2 h]
  rfl
theorem axR_ok {m : Nat} {l : List Int} (h : axE m l = 0) : axR m l = axM m l := by unfold axR; rw [if_pos h, Int.toNat_natCast]
theorem axR_no {r : Int} {l : List Int} (h : ¬ axE r l = 0) : axR r l = [] := by unfold axR; rw [if_neg h]
theorem length_axM (m : Nat) (l : List Int) : (axM m l).length = m := by simp [axM]
theorem axM_at {m : Nat} (l : List Int) {i : Nat} (hi : i < m) : (axM m l).getD i false = (decide (l = []) || decide ((i : Int) ∈ l)) := by simp [axM, hi]
theorem getDb_eq {d : List Bool} {k : Nat} (hk : k < d.length) : d.getD k false = d[k] := by rw [List.getD_eq_getElem?_getD, List.getElem?_eq_getElem hk]; rfl
theorem axM_of {m : Nat} {l : List Int} {bs : List Bool} (hl : bs.length = m) (h : ∀ i, i < m → bs.getD i false = (decide (l = []) || decide ((i : Int) ∈ l))) : bs = axM m l := by
  apply List.ext_getElem
  · rw [hl, length_axM]
  · intro i h1 h2
    have := h i (by omega)
    rw [getDb_eq h1] at this
    rw [this, ← axM_at (m := m) l (by omega), getDb_eq h2]
theorem axM_next {m : Nat} {l : List Int} {k : Nat} (hk : k < m) : (axM m l).take (k + 1) = (axM m l).take k ++ [decide (l = []) || decide ((k : Int) ∈ l)] := by
  rw [List.take_succ_eq_append_getElem (by rw [length_axM]; exact hk), ← getDb_eq, axM_at l hk]
/-- a call that returns a slice of truths, in new memory, and an error's number -/
def RetBE (bs : List Bool) (k : Int) (w : World) (e : Ending) (w' : World) : Prop := ∃ A n c, e = .returned (.tuple #[.slice A n c, .int .i64 k]) ∧ SlB w' A n c bs ∧ Below w.heap.size w w'
/-- .. a slice of ints, and an error's number -/
def RetZE (xs : List Int) (k : Int) (w : World) (e : Ending) (w' : World) : Prop := ∃ A n c, e = .returned (.tuple #[.slice A n c, .int .i64 k]) ∧ SlZ w' A n c xs ∧ (0 < n → New w A) ∧ Below w.heap.size w w'
theorem retBE_no (k : Int) {w w' : World} (h : Below w.heap.size w w') : RetBE [] k w (.returned (.tuple #[.slice none 0 0, .int .i64 k])) w' := ⟨none, 0, 0, rfl, SlB.nil _ _ _ (by unfold maxLen; omega), h⟩
theorem retZE_no (k : Int) {w w' : World} (h : Below w.heap.size w w') : RetZE [] k w (.returned (.tuple #[.slice none 0 0, .int .i64 k])) w' := ⟨none, 0, 0, rfl, SlZ.nil _ _ _ (by unfold maxLen; omega), fun h => absurd h (by omega), h⟩

set_option maxRecDepth 100000 in
set_option maxHeartbeats 4000000 in
theorem sh_axes {w : World} {A : Option Addr} {n c : Nat} {l : List Int} (h : SlZ w A n c l) (r : Int) : Calls Try.prog 21 #[.int .i64 r, .slice A n c] w (RetBE (axR r l) (axE r l) w) := by
  have hn := h.small
  have HL := Lib.hid h.len
  by_cases hr : r < 0 ∨ 6 < r
  · have he := axE_rank l hr
    rw [axR_no (by rw [he]; decide), he]
    rcases hr with hr | hr
    · go_enter Try.func21, Try.ntmps21
      go_wp2_with fail
      go_ret2
      exact retBE_no _ (Below.refl _ _)
    · have hr0 : ¬ r < 0 := by omega
      go_enter Try.func21, Try.ntmps21
      go_wp2_with fail
      go_ret2
      exact retBE_no _ (Below.refl _ _)
  · obtain ⟨m, rfl⟩ : ∃ m : Nat, r = (m : Int) := ⟨r.toNat, by omega⟩
    have hm : m ≤ 6 := by omega
    clear hr
    obtain ⟨w1, hmk, hr1, b1, s1⟩ := make_bools w m (by omega)
    have HR1 := Lib.hid hr1
    have HS1 := Lib.hid s1
    clear hr1 s1
    go_enter Try.func21, Try.ntmps21
    go_wp2_with fail
    clear hmk
    go_loopw [20] (fun iv wr => ∃ (k : Nat) (bs : List Bool), k ≤ n ∧ iv = .int .i64 k ∧ Hid (bs.length = m) ∧ Hid (BRow wr w.heap.size bs) ∧ Hid (AxTo m l k) ∧ Hid (∀ i, i < m → bs.getD i false = decide ((i : Int) ∈ l.take k)) ∧ Below w.heap.size w wr) (fun iv _ => n - mes iv)
    case atStart => exact ⟨0, List.replicate m false, by omega, rfl, Lib.hid (by simp), HR1, Lib.hid (fun j hj => by omega), Lib.hid (fun i hi => by simp [hi]), b1⟩
    case round =>
      clear b1 HR1
      obtain ⟨k, bs, hk, rfl, HB, HR, HX, HM, hb⟩ := hrel
      by_cases hk2 : k < n
      · obtain ⟨b, off, x, hx, rfl, hlt, hi, hc⟩ := (h.below hb).get hk2
        have HXX := Lib.hid hx
        have W := fun w9 => Lib.hid (sh_within x m w9)
        clear hx
        by_cases hin : 0 ≤ x ∧ x < (m : Int)
        · simp only [decide_eq_true hin] at W
          obtain ⟨h3, h4⟩ := hin
          obtain ⟨t, rfl⟩ : ∃ t : Nat, x = (t : Int) := ⟨x.toNat, by omega⟩
          have htm : t < m := by omega
          have c1 := HR.out.cell (i := t) (by rw [HB.out]; exact htm)
          have f1 := HR.out.free t
          rw [HM.out t htm] at c1
          by_cases hmem : (t : Int) ∈ l.take k
          · rw [decide_eq_true hmem] at c1
            have HE := Lib.hid (axE_bad hm (k := k) (by rw [HL.out]; exact hk2) (.inr (by rw [HXX.out]; exact hmem)))
            clear hmem
            go_wp2_with fail
            refine (W _).out.mono ?_
            rintro _ _ ⟨rfl, rfl⟩
            go_wp2_with fail
            go_ret2
            rw [axR_no (by rw [HE.out]; decide), HE.out]
            exact retBE_no _ hb
          · rw [decide_eq_false hmem] at c1
            have HMEM := Lib.hid hmem
            have HTK := Lib.hid (fun x : Int => mem_take_snoc (xs := l) (k := k) (by rw [HL.out]; exact hk2) x)
            clear hmem
            go_wp2_with fail
            refine (W _).out.mono ?_
            rintro _ _ ⟨rfl, rfl⟩
            go_wp2_with fail
            go_roundw
            case rel =>
              refine ⟨k + 1, bs.set t true, by omega, by go_num, Lib.hid (by rw [List.length_set]; exact HB.out), Lib.hid (HR.out.set t true), Lib.hid (HX.out.step (by rw [HXX.out]; omega) (by rw [HXX.out]; exact HMEM.out)), Lib.hid (fun i hi => ?_), hb.setCell (p := ⟨w.heap.size, t, none⟩) (Nat.le_refl _) _⟩
              rw [set_at (by rw [HB.out]; exact htm)]
              by_cases e : i = t
              · subst e
                rw [if_pos rfl]
                exact (decide_eq_true ((HTK.out _).2 (.inr HXX.out.symm))).symm
              · rw [if_neg e, HM.out i hi, decide_eq_decide, HTK.out, HXX.out]
                constructor
                · exact .inl
                · rintro (h9 | h9)
                  · exact h9
                  · exact absurd (by omega) e
            case measure => simp [mes, intOf]; omega
        · simp only [decide_eq_false hin] at W
          have HE := Lib.hid (axE_bad hm (k := k) (by rw [HL.out]; exact hk2) (.inl (by rw [HXX.out]; exact hin)))
          clear hin
          go_wp2_with fail
          refine (W _).out.mono ?_
          rintro _ _ ⟨rfl, rfl⟩
          go_wp2_with fail
          go_ret2
          rw [axR_no (by rw [HE.out]; decide), HE.out]
          exact retBE_no _ hb
      · obtain rfl : k = n := by omega
        have hX := HX.out
        have HX2 := Lib.hid (show AxTo m l l.length by rw [HL.out]; exact hX)
        have hM := HM.out
        rw [List.take_of_length_le (by rw [HL.out]; exact Nat.le_refl _)] at hM
        have HM2 := Lib.hid hM
        clear hX hM HX HM
        have HE := Lib.hid (axE_ok hm HX2.out)
        by_cases h0 : k = 0
        · subst h0
          have HNil := Lib.hid (List.eq_nil_of_length_eq_zero HL.out)
          go_wp2_with fail
          go_loopw [43] (fun iv wr2 => ∃ (j : Nat) (bs2 : List Bool), j ≤ m ∧ iv = .int .i64 j ∧ Hid (bs2.length = m) ∧ Hid (BRow wr2 w.heap.size bs2) ∧ Hid (∀ i, i < j → bs2.getD i false = true) ∧ Below w.heap.size w wr2) (fun iv _ => m - mes iv)
          case atStart => exact ⟨0, bs, by omega, rfl, HB, HR, Lib.hid (fun i hi => by omega), hb⟩
          case round =>
            clear HB HR hb
            obtain ⟨j, bs2, hj, rfl, HB, HR, HM, hb⟩ := hrel
            by_cases hj2 : j < m
            · have c1 := HR.out.cell (i := j) (by rw [HB.out]; exact hj2)
              have f1 := HR.out.free j
              generalize bs2.getD j false = v0 at c1
              go_wp2_with fail
              go_roundw
              case rel =>
                refine ⟨j + 1, bs2.set j true, by omega, by go_num, Lib.hid (by rw [List.length_set]; exact HB.out), Lib.hid (HR.out.set j true), Lib.hid (fun i hi => ?_), hb.setCell (p := ⟨w.heap.size, j, none⟩) (Nat.le_refl _) _⟩
                rw [set_at (by rw [HB.out]; exact hj2)]
                by_cases e : i = j
                · rw [if_pos e]
                · rw [if_neg e]; exact HM.out i (by omega)
              case measure => simp [mes, intOf]; omega
            · obtain rfl : j = m := by omega
              have hbs := axM_of (l := l) HB.out (fun i hi => by rw [HM.out i hi, HNil.out]; rfl)
              have hs := HR.out.slb (c := j) (by rw [HB.out]; exact Nat.le_refl _) (by unfold maxLen; omega)
              rw [HB.out, hbs] at hs
              have HS := Lib.hid hs
              clear hbs hs HR
              go_wp2_with fail
              go_ret2
              rw [axR_ok HE.out, HE.out]
              exact ⟨_, _, _, rfl, HS.out, hb⟩
        · have h1 : (k == 0) = false := by simpa using h0
          have h2 : ((k : Int) == 0) = false := by simpa using h0
          have hbs := axM_of (l := l) HB.out (fun i hi => by
            rw [HM2.out i hi, decide_eq_false (show ¬ l = [] from fun e => h0 (by rw [← HL.out, e]; rfl)), Bool.false_or])
          have hs := HR.out.slb (c := m) (by rw [HB.out]; exact Nat.le_refl _) (by unfold maxLen; omega)
          rw [HB.out, hbs] at hs
          have HS := Lib.hid hs
          clear hbs hs HR h0
          go_wp2_with fail
          go_ret2
          rw [axR_ok HE.out, HE.out]
          exact ⟨_, _, _, rfl, HS.out, hb⟩

end Go.Proofs.Ythhmofmncjodfaa
