/-
  What digit.split and digit.Show do. Conditions: the slice reads as a list of words, of at most 1000 words.
-/
import Derived.Test.YtnheefhbchkbdaaGreatDoorGcdRun
import Derived.Test.YtnheefhbchkbdaaGreatDoorDigitStr
import Derived.Laws.BytesArg
namespace Go.Proofs.YtnheefhbchkbdaaGreatDoor
set_option maxRecDepth 100000
open Go.RowKit
set_option linter.unusedVariables false
set_option linter.unusedSimpArgs false

theorem Own.below {t : TypeId} {base : Nat} {w w' : World} {v : Value} {zs : List Int} (h : Own t base w v zs) (hb : Below w.heap.size w w') : Own t base w' v zs := by
  obtain ⟨h1, h2⟩ := h
  refine ⟨h1, ?_⟩
  rcases h2 with h2 | ⟨g, cap, cur, hv, hg, hh, r⟩
  · exact .inl h2
  · have hlt : g < w.heap.size := by
      rcases Nat.lt_or_ge g w.heap.size with h9 | h9
      · exact h9
      · rw [Array.getElem?_eq_none h9] at hh; cases hh
    exact .inr ⟨g, cap, cur, hv, hg, (hb.block g hlt).trans hh, r⟩
theorem Own.lit {w w1 : World} {t : TypeId} (hs : w.heap.size ≤ w1.heap.size) (x : Int) : Own t w.heap.size (w1.alloc (.cells #[.int .u64 x] t)) (.slice (some ⟨w1.heap.size, 0, none⟩) 1 1) [x] :=
  ⟨rfl, .inr ⟨w1.heap.size, 1, _, rfl, hs, heap_alloc_new w1 _, Nat.le_refl _, by unfold maxLen; omega, rfl, rfl⟩⟩
/-- a slice apart from the row that grows -/
theorem Sl.grown {w w1 : World} {o : Obj} {r : Option Nat} {A : Option Addr} {n c : Nat} {xs : List Int} (s : Sl w A n c xs) (hg : (w.alloc o).grownBy w1 r) (hne : ∀ b off, A = some ⟨b, off, none⟩ → some b ≠ r) : Sl w1 A n c xs := by
  refine ⟨s.1, fun h0 => ?_⟩
  obtain ⟨b, off, e, hlt, hc⟩ := s.2 h0
  have hsz := hg.size
  refine ⟨b, off, e, by simp at hsz; omega, fun j hj => ?_⟩
  have hbl := hg.block b (by simp; omega) (hne b off e)
  have e1 : w1.cell? ⟨b, off + j, none⟩ = (w.alloc o).cell? ⟨b, off + j, none⟩ := World.cell?_of_block (a := ⟨b, off + j, none⟩) hbl
  rw [e1, World.cell?_alloc_past _ _ _ hlt]
  exact hc j hj

/-- a call that returns the groups of a number -/
def RetGrp (v N : Nat) (w : World) (e : Ending) (w' : World) : Prop := ∃ x gs, e = .returned x ∧ Own 52 w.heap.size w' x gs ∧ Dg B gs ∧ valB B gs = v ∧ 0 < gs.length ∧ gs.length ≤ 2 * N + 1 ∧ Below w.heap.size w w'

theorem words_nil_iff {R n : Nat} (h : n = (words R).length) : n = 0 ↔ R = 0 := by
  constructor
  · intro e
    rw [e] at h
    rw [← val_words R, List.eq_nil_of_length_eq_zero h.symm]
    rfl
  · rintro rfl; exact h

set_option maxHeartbeats 1000000 in
theorem digit_split {w : World} {A : Option Addr} {n c N : Nat} {xs : List Int} (h : Sl w A n c xs) (hn : n ≤ N) (hN : N ≤ 1000) :
    Calls Tryz.prog 79 #[.slice A n c] w (RetGrp (val xs) N w) := by
  have va : val xs < W ^ N := val_lt_pow h.us (by have := h.len; omega)
  have QW := quot_word_new h (by omega) 10000000000000000000 (by unfold U; omega) (by omega)
  rw [show (10000000000000000000 : Int).toNat = B from rfl] at QW
  have hi0 := spInv_0 (val xs)
  have hdl : val xs / B < W ^ N := Nat.lt_of_le_of_lt (Nat.div_le_self _ _) va
  obtain ⟨i0, hi, hz0, hz1, hz2⟩ := info_parts infoW
  generalize val xs / B = R0 at *
  generalize ((val xs % B : Nat) : Int) = g0 at *
  have HQ := Lib.hid QW
  have HI := Lib.hid hi0
  have HV := Lib.hid va
  have HD := Lib.hid hdl
  clear QW hi0 hdl va
  go_enter Tryz.func79, Tryz.ntmps79
  go_wp2_with fail
  refine HQ.out.mono ?_
  rintro e w1 ⟨A1, n1, c1, rfl, s1, b1, _⟩
  have hown := Own.lit (t := 52) b1.size g0
  have hb1 := b1.alloc b1.size (.cells #[.int .u64 g0] 52)
  have s1' := s1.below (below_alloc w1 (.cells #[.int .u64 g0] 52))
  have HO := Lib.hid hown
  clear hown s1 b1 HQ
  go_wp2_with fail
  go_loopw [3, 6] (fun rv gv wr => ∃ (R : Nat) (A : Option Addr) (n c : Nat) (gs : List Int), rv = .slice A n c ∧ Sl wr A n c (words R) ∧ Own 52 w.heap.size wr gv gs ∧ Hid (SpInv (val xs) R gs) ∧ Hid (R < W ^ N) ∧ 0 < gs.length ∧ gs.length ≤ 2 * N + 1 ∧ Below w.heap.size w wr) (fun rv _ wr => mesV rv wr)
  case atStart => exact ⟨R0, _, _, _, [g0], rfl, s1', HO.out, HI, HD, by simp, by simp, hb1⟩
  case round =>
    clear s1' HO HI HD hb1
    obtain ⟨R, A, n, c, gs, rfl, s, hown, HI, HR, hl0, hl1, hb⟩ := hrel
    have hnw := words_nil_iff s.len
    by_cases h0 : n = 0
    · subst h0
      obtain rfl : R = 0 := hnw.1 rfl
      have he := spInv_end HI.out
      have HE := Lib.hid he
      clear he hnw
      go_wp2_with fail
      go_ret
      exact ⟨_, gs, rfl, hown, HE.out.1, HE.out.2, hl0, hl1, hb⟩
    · have hnp : 0 < n := by omega
      have hRp : 0 < R := by
        rcases Nat.eq_zero_or_pos R with e | e
        · exact absurd (hnw.2 e) h0
        · exact e
      have hgl := spInv_small HI.out HV.out hRp
      have hst := spInv_step HI.out
      have hnN : n ≤ N := s.small HR.out
      have QW := quot_word_new s (by omega) 10000000000000000000 (by unfold U; omega) (by omega)
      rw [show (10000000000000000000 : Int).toNat = B from rfl, val_words] at QW
      have hm := mesV_val s
      rw [val_words] at hm
      have hlt : R / B < R := Nat.div_lt_self hRp (by unfold B; omega)
      generalize R / B = R' at *
      generalize ((R % B : Nat) : Int) = g at *
      have HQ := Lib.hid QW
      have HS := Lib.hid hst
      have HM := Lib.hid hm
      have HLT := Lib.hid hlt
      clear QW hst hm hlt hnw hRp s
      go_wp2_with fail
      refine HQ.out.mono ?_
      rintro e w2 ⟨A2, n2, c2, rfl, s2, b2, nw2⟩
      have hb2 := hb.trans (b2.mono hb.size)
      have hown2 := hown.below b2
      have hne : ∀ b off, A2 = some ⟨b, off, none⟩ → some b ≠ u6.ownBlock := fun b off e1 e2 => by
        have h1 := nw2 b off e1
        have h2 := (hown.out.lt b e2.symm).2
        omega
      clear hown b2 HQ nw2
      go_wp2_with (at_builtin; refine wpList_append_own _ rfl (.tmp 24) (.tmp 26) 22 rfl w.heap.size 52 i0 (.int .u64 0) 1 8 Tryz.underlying22 hi hz0 hz1 hz2 rfl (by decide) _ _ _ rfl (hown2.out.alloc _) ⟨w2.heap.size, 0, none⟩ 1 1 [.int .u64 g] rfl rfl ?c1 ?c2 ?c3 ?c4 ?c5 ?_)
      case c1 => exact cell_one_new _ _ _
      case c2 => intro u hu; simp at hu; subst hu; rfl
      case c3 => unfold maxLen; omega
      case c4 => omega
      case c5 => have := hb2.size; simp; omega
      intro v' w3 hown' hgrow _
      have hb3 := own_below hb2 hown2 hgrow
      have hown3 : Own 52 w.heap.size w3 v' (gs ++ [g]) := Own.snoc hown'
      have s3 := s2.grown hgrow hne
      have hm3 := mesV_val s3
      rw [val_words] at hm3
      have HM3 := Lib.hid hm3
      have HO := Lib.hid hown3
      have hgl1 : (gs ++ [g]).length ≤ 2 * N + 1 := by simp; omega
      have hgl0 : 0 < (gs ++ [g]).length := by simp
      have HL1 := Lib.hid hgl1
      have HL0 := Lib.hid hgl0
      clear hown' hgrow hm3 hown3 hgl1 hgl0 hne hown2 s2
      go_wp2_with fail
      go_roundw
      case rel => exact ⟨R', _, _, _, gs ++ [g], rfl, s3, HO.out, HS, Lib.hid (Nat.lt_trans HLT.out HR.out), HL0.out, HL1.out, hb3⟩
      case measure => rw [HM3.out, HM.out]; exact HLT.out

end Go.Proofs.YtnheefhbchkbdaaGreatDoor
