/-
  What slices.Clone, and With of package shape and of the document, return. Conditions: the slices read as lists of ints.
-/
import Derived.Test.YthhmofmncjodfaaShI
import Derived.Laws.Cover3
namespace Go.Proofs.Ythhmofmncjodfaa
open Go.RowKit
set_option linter.unusedVariables false
set_option linter.unusedSimpArgs false

theorem flat_zc (xs : List Int) : xs.flatMap zc = xs.map (Value.int .i64) := by
  induction xs with
  | nil => rfl
  | cons x xs ih => rw [List.flatMap_cons, ih]; rfl
/-- block g begins with the ints xs, and none of its cells is frozen -/
def ZBlk (t : TypeId) (w : World) (g : Nat) (xs : List Int) : Prop := ∃ cur : Array Value, w.heap[g]? = some (.cells cur t (0, 0)) ∧ cur.toList.take xs.length = xs.map (Value.int .i64)
section
variable {t : TypeId} {w w' : World} {g : Nat} {xs : List Int}
theorem ZBlk.lt (h : ZBlk t w g xs) : g < w.heap.size := by
  obtain ⟨cur, hh, _⟩ := h
  exact (Array.getElem?_eq_some_iff.1 hh).1
theorem ZBlk.below (h : ZBlk t w g xs) (hb : Below w.heap.size w w') : ZBlk t w' g xs := by
  have hlt := h.lt
  obtain ⟨cur, hh, htk⟩ := h
  exact ⟨cur, (hb.block g hlt).trans hh, htk⟩
theorem ZBlk.set (h : ZBlk t w g xs) (i : Nat) (y : Int) : ZBlk t (w.setCell ⟨g, i, none⟩ (.int .i64 y)) g (xs.set i y) := by
  obtain ⟨cur, hh, htk⟩ := h
  refine ⟨cur.setIfInBounds i (.int .i64 y), ?_, ?_⟩
  · unfold World.setCell
    simp [Array.getElem?_modify, hh]
  · rw [Array.toList_setIfInBounds, List.length_set, List.map_set, ← htk, List.take_set]
theorem ZBlk.cell (h : ZBlk t w g xs) {i : Nat} (hi : i < xs.length) : w.cell? ⟨g, i, none⟩ = some (.int .i64 (xs.getD i 0)) := by
  obtain ⟨cur, hh, htk⟩ := h
  rw [cell_of_row w g i cur t (0, 0) hh]
  have h9 : cur.toList[i]? = some (.int .i64 (xs.getD i 0)) := by
    have : (cur.toList.take xs.length)[i]? = (xs.map (Value.int .i64))[i]? := by rw [htk]
    rw [List.getElem?_take, if_pos hi, List.getElem?_map, List.getElem?_eq_getElem hi] at this
    rw [this, getD_eq hi]
    rfl
  simpa using h9
theorem ZBlk.free (h : ZBlk t w g xs) (i : Nat) : w.frozen? ⟨g, i, none⟩ = false := by
  obtain ⟨cur, hh, htk⟩ := h
  simp [World.frozen?, hh]
theorem ZBlk.slz {c : Nat} (h : ZBlk t w g xs) (hi : ∀ x ∈ xs, I64 x) (hc : xs.length ≤ c) (hm : c ≤ maxLen) : SlZ w (some ⟨g, 0, none⟩) xs.length c xs := by
  refine ⟨⟨rfl, hc, hm, fun x hx => ⟨hi x hx, rfl⟩⟩, fun _ => ⟨g, 0, rfl, h.lt, fun j hj i hi => ?_⟩⟩
  obtain rfl : i = 0 := by omega
  rw [Nat.mul_one, Nat.add_zero, Nat.zero_add, h.cell hj, List.getElem?_eq_getElem hj, List.getD_eq_getElem?_getD, List.getElem?_eq_getElem hj]
  rfl
end
/-- a call that returns a row of its own -/
def RetOwnZ (n : Nat) (xs : List Int) (w : World) (e : Ending) (w' : World) : Prop := ∃ g cap, e = .returned (.slice (some ⟨g, 0, none⟩) n cap) ∧ ZBlk 3 w' g xs ∧ n ≤ cap ∧ cap ≤ maxLen ∧ w.heap.size ≤ g ∧ Below w.heap.size w w'

set_option maxHeartbeats 1000000 in
theorem z_clone {w : World} {A : Option Addr} {n c : Nat} {d : List Int} (h : SlZ w A n c d) (h0 : 0 < n) (hn : n ≤ 1000000) : Calls Try.prog 44 #[.slice A n c] w (RetOwnZ n d w) := by
  have HL := Lib.hid h.len
  obtain ⟨b, off, rfl, hlt, hc⟩ := h.2 h0
  obtain ⟨i0, hi, hz0, hz1, hz2⟩ := info_parts infoZ
  have hnews : ∀ (j : Nat) (u : Value), (d.flatMap zc)[j]? = some u → (w.alloc (.cells #[] 3)).cell? ((⟨b, off, none⟩ : Addr).add j) = some u := by
    intro j u hj
    have hjl : j < d.length := by
      rw [flat_zc] at hj
      have := (List.getElem?_eq_some_iff.1 hj).1
      simpa using this
    have e1 : (⟨b, off, none⟩ : Addr).add j = ⟨b, off + j, none⟩ := by
      unfold Addr.add; split
      · rename_i h9; rw [h9, Nat.add_zero]
      · rfl
    have h3 := hc j (by rw [← HL.out]; exact hjl) 0 (by omega)
    rw [Nat.mul_one, Nat.add_zero] at h3
    rw [e1, (below_alloc w _).cell (p := ⟨b, off + j, none⟩) hlt, h3]
    rw [flat_zc, List.getElem?_map] at hj
    rw [List.getElem?_eq_getElem hjl] at hj ⊢
    exact hj
  have e9 : ∀ w9 : World, (binOp .eql 22 (.slice (some ⟨b, off, none⟩) n c) (.slice none 0 0)).run Try.prog w9 = .ok (.bool false) w9 := fun w9 => by
    simp only [binOp]
    simp [run_equal_slice_nil w9 _ _ _ _ _ Try.underlying22]
  have HN := Lib.hid hnews
  clear hnews hc
  go_enter Try.func44, Try.ntmps44
  have hemp : OwnC 1 zc 3 w.heap.size (w.alloc (.cells #[] 3)) (.slice (some ⟨w.heap.size, 0, none⟩) 0 0) [] :=
    ⟨by simp, .inr ⟨w.heap.size, 0, #[], rfl, Nat.le_refl _, heap_alloc_new w _, Nat.le_refl _, by unfold maxLen; omega, rfl, rfl, by simp⟩⟩
  go_wp2_with (at_builtin; refine wpList_append_own _ rfl _ _ 22 rfl w.heap.size 3 i0 (.int .i64 0) 1 8 Try.underlying22 hi hz0 hz1 hz2 rfl (by decide) _ _ _ rfl hemp.own ⟨b, off, none⟩ n c (d.flatMap zc) rfl ?c0 ?c1 ?c2 ?c3 ?c4 ?c5 ?_)
  case c0 => rw [flat_zc, List.length_map, HL.out]; omega
  case c1 => exact HN.out
  case c2 => intro u hu; rw [flat_zc] at hu; obtain ⟨z, _, rfl⟩ := List.mem_map.1 hu; rfl
  case c3 => simp only [List.length_nil]; unfold maxLen; omega
  case c4 => simp only [List.length_nil]; omega
  case c5 => simp
  intro v' w1 hown hgrow hnil
  have hb1 : Below w.heap.size w w1 := (below_alloc w _).grown hgrow (by simp) (fun k e => by
    have e2 : w.heap.size = k := by simpa [Value.ownBlock] using e
    omega)
  have hne : v' ≠ .slice none 0 0 := fun e => by have := hnil; exact absurd e this
  have HO := Lib.hid hown
  have HNE := Lib.hid hne
  clear hown hgrow hnil hne hemp
  go_wp2_with fail
  go_ret
  obtain ⟨hl, ho⟩ := HO.out
  rcases ho with ⟨h8, _⟩ | ⟨g, cap, cur, hv, hB, hh, hnc, hcm, hcs, htk⟩
  · exact absurd h8 HNE.out
  · simp only [List.length_nil, Nat.zero_add, List.flatMap_nil, List.nil_append] at *
    subst hv
    refine ⟨g, cap, rfl, ⟨cur, hh, ?_⟩, hnc, hcm, hB, hb1⟩
    rw [← flat_zc, ← htk, HL.out, Nat.mul_one]

theorem set_i64 {d : List Int} (hd : ∀ x ∈ d, I64 x) (i : Nat) {y : Int} (hy : I64 y) : ∀ x ∈ d.set i y, I64 x := fun x hx => by
  rcases List.mem_or_eq_of_mem_set hx with h9 | h9
  · exact hd x h9
  · rw [h9]; exact hy
def withE (d : List Int) (a y : Int) : Int := if chk d = 0 then (if 0 ≤ a ∧ a < (d.length : Int) then chk (d.set a.toNat y) else 10) else chk d
def withR (d : List Int) (a y : Int) : List Int := if withE d a y = 0 then d.set a.toNat y else []
theorem withE_chk {d : List Int} (a y : Int) (h : ¬ chk d = 0) : withE d a y = chk d := by unfold withE; rw [if_neg h]
theorem withE_no {d : List Int} {a : Int} (y : Int) (h : chk d = 0) (ha : ¬ (0 ≤ a ∧ a < (d.length : Int))) : withE d a y = 10 := by unfold withE; rw [if_pos h, if_neg ha]
theorem withE_in {d : List Int} {t : Nat} (y : Int) (h : chk d = 0) (ha : t < d.length) : withE d t y = chk (d.set t y) := by unfold withE; rw [if_pos h, if_pos (by omega), Int.toNat_natCast]
theorem withR_ok {d : List Int} {t : Nat} {y : Int} (h : withE d t y = 0) : withR d t y = d.set t y := by unfold withR; rw [if_pos h, Int.toNat_natCast]
theorem withR_no {d : List Int} {a y : Int} (h : ¬ withE d a y = 0) : withR d a y = [] := by unfold withR; rw [if_neg h]

set_option maxRecDepth 100000 in
set_option maxHeartbeats 4000000 in
theorem sh_with {w : World} {A : Option Addr} {n c : Nat} {d : List Int} (h : SlZ w A n c d) (a y : Int) (hy : I64 y) : Calls Try.prog 28 #[.slice A n c, .int .i64 a, .int .i64 y] w (RetZE (withR d a y) (withE d a y) w) := by
  have CK := sh_check h
  have WI := sh_within a n
  have HL := Lib.hid h.len
  have hn := h.small
  have HI := Lib.hid h.i64
  have HY := Lib.hid hy
  by_cases h0 : chk d = 0
  · rw [h0] at CK
    have hn6 : n ≤ 6 := by have := (vd_of h0).len; have := h.len; omega
    have HC := Lib.hid CK
    have H0 := Lib.hid h0
    clear CK h0
    by_cases ha : 0 ≤ a ∧ a < (n : Int)
    · obtain ⟨t, rfl⟩ : ∃ t : Nat, a = (t : Int) := ⟨a.toNat, by omega⟩
      have htn : t < n := by omega
      have hE := withE_in y H0.out (t := t) (by rw [HL.out]; exact htn)
      have CL := z_clone h (by omega) (by omega)
      rw [decide_eq_true ha] at WI
      have HW := Lib.hid WI
      have HCL := Lib.hid CL
      have HE := Lib.hid hE
      clear WI CL ha hE H0
      go_enter Try.func28, Try.ntmps28
      go_wp2_with fail
      refine HC.out.mono ?_
      rintro _ _ ⟨rfl, rfl⟩
      go_wp2_with fail
      refine (HW.out _).mono ?_
      rintro _ _ ⟨rfl, rfl⟩
      go_wp2_with fail
      refine HCL.out.mono ?_
      rintro _ w1 ⟨g, cap, rfl, hz, hnc, hcm, hg, hb⟩
      have c1 := hz.cell (i := t) (by rw [HL.out]; exact htn)
      have f1 := hz.free t
      generalize d.getD t 0 = v0 at c1
      have hz2 := hz.set t y
      have hb2 : Below w.heap.size w (w1.setCell ⟨g, t, none⟩ (.int .i64 y)) := hb.setCell (p := ⟨g, t, none⟩) hg _
      have HZ2 := Lib.hid hz2
      clear hz hz2 HW HCL
      have hlt := hb.size
      go_wp2_with fail
      obtain ⟨w2, hw2⟩ : ∃ w2, w1.setCell ⟨g, t, none⟩ (.int .i64 y) = w2 := ⟨_, rfl⟩
      have hz3 := HZ2.out
      rw [hw2] at hz3 hb2 ⊢
      have hs3 := hz3.slz (c := cap) (set_i64 HI.out t HY.out) (by rw [List.length_set, HL.out]; exact hnc) hcm
      rw [List.length_set, HL.out] at hs3
      have CK2 := sh_check hs3
      have HS3 := Lib.hid hs3
      clear HZ2 hz3 hw2 c1 f1
      by_cases hc2 : chk (d.set t y) = 0
      · rw [hc2] at CK2
        have hE := HE.out
        rw [hc2] at hE
        have HF := Lib.hid hE
        have HC2 := Lib.hid CK2
        clear CK2 hc2 hE HE hs3
        refine HC2.out.mono ?_
        rintro _ _ ⟨rfl, rfl⟩
        go_wp2_with fail
        go_ret2
        rw [withR_ok HF.out, HF.out]
        exact ⟨_, _, _, rfl, HS3.out, fun _ => New.some_ hg, hb2⟩
      · have hE := HE.out
        have HF := Lib.hid hE
        have HG := Lib.hid hc2
        have hz : (chk (d.set t y) != 0) = true := by simpa using hc2
        have HC2 := Lib.hid CK2
        clear CK2 hc2 hE HE hs3
        refine HC2.out.mono ?_
        rintro _ _ ⟨rfl, rfl⟩
        go_wp2_with fail
        go_ret2
        rw [withR_no (by rw [HF.out]; exact HG.out), HF.out]
        exact retZE_no _ hb2
    · have hE := withE_no (a := a) y H0.out (by rw [HL.out]; exact ha)
      rw [decide_eq_false ha] at WI
      rw [withR_no (by rw [hE]; decide), hE]
      have HW := Lib.hid WI
      clear WI ha hE H0
      go_enter Try.func28, Try.ntmps28
      go_wp2_with fail
      refine HC.out.mono ?_
      rintro _ _ ⟨rfl, rfl⟩
      go_wp2_with fail
      refine (HW.out _).mono ?_
      rintro _ _ ⟨rfl, rfl⟩
      go_wp2_with fail
      go_ret2
      exact retZE_no _ (Below.refl _ _)
  · have hE := withE_chk a y h0
    have hz : (chk d != 0) = true := by simpa using h0
    rw [withR_no (by rw [hE]; exact h0), hE]
    have HC := Lib.hid CK
    clear CK h0 hE WI
    go_enter Try.func28, Try.ntmps28
    go_wp2_with fail
    refine HC.out.mono ?_
    rintro _ _ ⟨rfl, rfl⟩
    go_wp2_with fail
    go_ret2
    exact retZE_no _ (Below.refl _ _)

theorem withL_next {d : List Int} {t k : Nat} {y : Int} (hk : k < d.length) (ht : t < d.length) : (d.set t y).take (k + 1) = (d.set t y).take k ++ [if k = t then y else d.getD k 0] := by
  rw [take_snocZ (by rw [List.length_set]; exact hk), setI_at ht]

set_option maxRecDepth 100000 in
set_option maxHeartbeats 4000000 in
theorem ref_with19 {w : World} {A : Option Addr} {n c : Nat} {d : List Int} (h : SlZ w A n c d) (a y : Int) (hy : I64 y) : Calls Try.prog 29 #[.slice A n c, .int .i64 a, .int .i64 y] w (RetZE (withR d a y) (withE d a y) w) := by
  have CK := ref_check19 h
  have HL := Lib.hid h.len
  have hn := h.small
  have HI := Lib.hid h.i64
  have HY := Lib.hid hy
  by_cases h0 : chk d = 0
  · rw [h0] at CK
    have hn6 : n ≤ 6 := by have := (vd_of h0).len; have := h.len; omega
    have HC := Lib.hid CK
    have H0 := Lib.hid h0
    clear CK h0
    by_cases ha0 : a < 0
    · have hE := withE_no (a := a) y H0.out (by rw [HL.out]; omega)
      rw [withR_no (by rw [hE]; decide), hE]
      clear hE H0
      go_enter Try.func29, Try.ntmps29
      go_wp2_with fail
      refine HC.out.mono ?_
      rintro _ _ ⟨rfl, rfl⟩
      go_wp2_with fail
      go_ret2
      exact retZE_no _ (Below.refl _ _)
    · obtain ⟨t, rfl⟩ : ∃ t : Nat, a = (t : Int) := ⟨a.toNat, by omega⟩
      by_cases htn : t < n
      · have hE := withE_in y H0.out (t := t) (by rw [HL.out]; exact htn)
        have HE := Lib.hid hE
        have hd0 : decide ((t : Int) < 0) = false := by rw [decide_eq_false_iff_not]; omega
        have hd9 : decide (n ≤ t) = false := by rw [decide_eq_false_iff_not]; omega
        clear hE H0 ha0
        go_enter Try.func29, Try.ntmps29
        go_wp2_with fail
        refine HC.out.mono ?_
        rintro _ _ ⟨rfl, rfl⟩
        go_wp2_with fail
        go_loopw [9, 26] (fun kv iv wr => ∃ (k : Nat) (zs : List Int), k ≤ n ∧ iv = .int .i64 k ∧ Hid (OwnC 1 zc 3 w.heap.size wr kv zs) ∧ Hid (zs = (d.set t y).take k) ∧ Below w.heap.size w wr) (fun _ iv _ => n - mes iv)
        case atStart => exact ⟨0, [], by omega, rfl, Lib.hid OwnC.nil, Lib.hid (by simp), Below.refl _ _⟩
        case round =>
          obtain ⟨k, zs, hk, rfl, HO, HZ, hb⟩ := hrel
          have hzl : zs.length ≤ k := by rw [HZ.out, List.length_take]; omega
          have hwr := hb.size
          by_cases hk2 : k < n
          · have hnext := withL_next (y := y) (k := k) (t := t) (by rw [HL.out]; exact hk2) (by rw [HL.out]; exact htn)
            rw [← HZ.out] at hnext
            by_cases hkt : k = t
            · rw [if_pos hkt] at hnext
              have hd1 : ((k : Int) == (t : Int)) = true := by rw [hkt]; simp
              have HN := Lib.hid hnext
              clear hnext hkt
              go_wp2_with (at_builtin; refine wpList_append_z rfl _ _ rfl w.heap.size _ zs rfl HO.out 1 y rfl (by omega) hwr ?_)
              intro av2 w3 hown hb4
              have hb3 := hb.trans hb4
              rw [← HN.out] at hown
              have HO3 := Lib.hid hown
              clear hown hb4 HO HZ
              go_wp2_with fail
              go_roundw
              case rel => exact ⟨k + 1, _, by omega, by go_num, HO3, Lib.hid rfl, hb3⟩
              case measure => simp [mes, intOf]; omega
            · rw [if_neg hkt] at hnext
              have hd1 : ((k : Int) == (t : Int)) = false := by simp; omega
              have hd2 : (k == t) = false := by simpa using hkt
              obtain ⟨b, off, x, hx, rfl, hlt, hi, hc⟩ := (h.below hb).get hk2
              rw [hx] at hnext
              have HN := Lib.hid hnext
              clear hnext hkt hx
              go_wp2_with (at_builtin; refine wpList_append_z rfl _ _ rfl w.heap.size _ zs rfl HO.out 1 x rfl (by omega) hwr ?_)
              intro av2 w3 hown hb4
              have hb3 := hb.trans hb4
              rw [← HN.out] at hown
              have HO3 := Lib.hid hown
              clear hown hb4 HO HZ
              go_wp2_with fail
              go_roundw
              case rel => exact ⟨k + 1, _, by omega, by go_num, HO3, Lib.hid rfl, hb3⟩
              case measure => simp [mes, intOf]; omega
          · obtain rfl : k = n := by omega
            have hz := HZ.out
            rw [List.take_of_length_le (by rw [List.length_set, HL.out]; exact Nat.le_refl _)] at hz
            obtain ⟨A2, n2, c2, rfl, hs2, hn2⟩ := HO.out.retz (by rw [hz]; exact set_i64 HI.out t HY.out)
            rw [hz] at hs2
            have CK2 := ref_check19 hs2
            have HS2 := Lib.hid hs2
            clear HO HZ hs2 hzl hz
            by_cases hc2 : chk (d.set t y) = 0
            · rw [hc2] at CK2
              have hE := HE.out
              rw [hc2] at hE
              have HF := Lib.hid hE
              have HC2 := Lib.hid CK2
              clear CK2 hc2 hE HE
              go_wp2_with fail
              refine HC2.out.mono ?_
              rintro _ _ ⟨rfl, rfl⟩
              go_wp2_with fail
              go_ret2
              rw [withR_ok HF.out, HF.out]
              exact ⟨_, _, _, rfl, HS2.out, fun h9 b off e => hn2 h9 b off e, hb⟩
            · have hE := HE.out
              have HF := Lib.hid hE
              have HG := Lib.hid hc2
              have hz : (chk (d.set t y) != 0) = true := by simpa using hc2
              have HC2 := Lib.hid CK2
              clear CK2 hc2 hE HE
              go_wp2_with fail
              refine HC2.out.mono ?_
              rintro _ _ ⟨rfl, rfl⟩
              go_wp2_with fail
              go_ret2
              rw [withR_no (by rw [HF.out]; exact HG.out), HF.out]
              exact retZE_no _ hb
      · have hE := withE_no (a := (t : Int)) y H0.out (by rw [HL.out]; omega)
        rw [withR_no (by rw [hE]; decide), hE]
        have hd1 : decide (n ≤ t) = true := by simp; omega
        clear hE H0
        go_enter Try.func29, Try.ntmps29
        go_wp2_with fail
        refine HC.out.mono ?_
        rintro _ _ ⟨rfl, rfl⟩
        go_wp2_with fail
        go_ret2
        exact retZE_no _ (Below.refl _ _)
  · have hE := withE_chk a y h0
    have hz : (chk d != 0) = true := by simpa using h0
    rw [withR_no (by rw [hE]; exact h0), hE]
    have HC := Lib.hid CK
    clear CK h0 hE
    go_enter Try.func29, Try.ntmps29
    go_wp2_with fail
    refine HC.out.mono ?_
    rintro _ _ ⟨rfl, rfl⟩
    go_wp2_with fail
    go_ret2
    exact retZE_no _ (Below.refl _ _)

end Go.Proofs.Ythhmofmncjodfaa
