/-
  What nat.Trim returns: the number, normalized, in new memory. Conditions: the slice reads as a list of words, of at most 10^8 words.
-/
import Derived.Test.YteedipcmhaiglaaNatMake
namespace Go.Proofs.Yteedipcmhaiglaa
set_option maxRecDepth 100000
open Go.RowKit
set_option linter.unusedVariables false
set_option linter.unusedSimpArgs false

theorem sizeW : (Try.prog.info? 22).map (·.size) = some 1 := by kernel_rfl
theorem splice_all (ys cs : List Value) (h : cs.length = ys.length) : splice ys 0 cs = cs := by
  unfold splice; simp [h]

set_option maxHeartbeats 400000 in
theorem nat_trim_new {w : World} {A : Option Addr} {n c : Nat} {xs : List Int} (h : Sl w A n c xs) (hn : n ≤ 100000000) :
    Calls Try.prog 95 #[.slice A n c] w (RetSlN (words (val xs)) w) := by
  have hs : sz xs ≤ n := by rw [h.len]; exact sz_le xs
  have S1 := nat_size h (by omega)
  have hlen := h.len
  have hw : words (val xs) = xs.take (sz xs) := words_val (Dg_U h.us)
  generalize hp : sz xs = p at S1 hs hw
  have T1 := Lib.hid S1
  have HW := Lib.hid hw
  have HL := Lib.hid hlen
  clear hp S1 hw hlen
  have hmk := run_make_row' (P := Try.prog) 37 22 (.int .u64 0) 8 Try.underlying37 infoW rfl .i64 .i64 p (by omega) (by omega)
  obtain ⟨X, hX⟩ : ∃ X, X = (xs.take p).map (Value.int .u64) := ⟨_, rfl⟩
  obtain ⟨Z, hZ⟩ : ∃ Z, Z = (List.replicate p (0 : Int)).map (Value.int .u64) := ⟨_, rfl⟩
  have hrow := Row.new w 22 p
  unfold Row at hrow
  rw [← hZ] at hrow
  have hl : (xs.take p).length = p := by have := HL.out; rw [List.length_take]; omega
  have lX : X.length = p := by rw [hX, List.length_map, hl]
  have lZ : Z.length = p := by rw [hZ]; simp
  have oX : ∀ u ∈ X, u.oneCell' = true := by rw [hX]; exact ints_oneCell .u64 _
  have cX : ∀ j v, X[j]? = some v → j < p ∧ v = .int .u64 (xs.getD j 0) := by
    intro j v hv
    have hj : j < X.length := (List.getElem?_eq_some_iff.1 hv).1
    refine ⟨by omega, ?_⟩
    rw [hX] at hv
    have hjx : j < xs.length := by rw [List.length_take] at hl; omega
    simp [List.getElem?_take, show j < p by omega, List.getElem?_eq_getElem hjx] at hv
    rw [← hv, List.getD_eq_getElem?_getD, List.getElem?_eq_getElem hjx]
    rfl
  have HROW := Lib.hid hrow
  have LX := Lib.hid lX
  have LZ := Lib.hid lZ
  have OX := Lib.hid oX
  have CX := Lib.hid cX
  have EX := Lib.hid hX
  clear hrow lX lZ oX cX hl hX hZ
  go_enter Try.func95, Try.ntmps95
  go_wp2_with fail
  refine T1.out.mono ?_
  rintro e w' ⟨rfl, rfl⟩
  go_wp2_with (with_reducible refine wpList_copy_splice rfl (.tmp 7) (.tmp 8) 37 37 rfl 22 Try.underlying37 sizeW (some ⟨w.heap.size, 0, none⟩) A p p n c rfl rfl w.heap.size 0 Z 22 ?hg X ?hn ?hpos ?hfit ?h1 w.heap.size w ?hb (Nat.le_refl _) ?_)
  case hg => exact HROW.out
  case hn => rw [LX.out]; exact (Nat.min_eq_right hs).symm
  case hpos =>
    intro h0
    rw [LX.out] at h0
    obtain ⟨b, off, rfl, hb, hc⟩ := h.at_ (k := 0) (by omega)
    refine ⟨_, rfl, fun j v hv => ?_⟩
    obtain ⟨hj, rfl⟩ := CX.out j v hv
    have e : ((⟨b, off, none⟩ : Addr).add j) = ⟨b, off + j, none⟩ := by
      unfold Addr.add; split
      · subst_vars; rfl
      · rfl
    rw [e, World.cell?_alloc_past _ _ _ hb]
    exact hc j (by omega)
  case hfit => rw [LX.out, LZ.out]; omega
  case h1 => exact OX.out
  case hb => exact (Below.refl _ _).alloc (Nat.le_refl _) _
  intro w1 hg1 hb1
  go_wp2_with fail
  go_ret
  have hl : (xs.take p).length = p := by have := LX.out; rw [EX.out, List.length_map] at this; exact this
  have hrow1 : Row 22 w1 w.heap.size (xs.take p) := by
    have := hg1.out
    rw [splice_all _ _ (by rw [LX.out, LZ.out]), EX.out] at this
    exact this
  have hsl := hrow1.sl (c := p) (fun x hx => h.us x (List.mem_of_mem_take hx)) (by omega)
  rw [hl] at hsl
  refine ⟨_, _, _, rfl, ?_, hb1, New.some_ (Nat.le_refl _)⟩
  rw [HW.out]
  exact hsl

theorem nat_trim {w : World} {A : Option Addr} {n c : Nat} {xs : List Int} (h : Sl w A n c xs) (hn : n ≤ 100000000) :
    Calls Try.prog 95 #[.slice A n c] w (RetSl (words (val xs)) w) := (nat_trim_new h hn).mono fun _ _ => RetSlN.old

end Go.Proofs.Yteedipcmhaiglaa
