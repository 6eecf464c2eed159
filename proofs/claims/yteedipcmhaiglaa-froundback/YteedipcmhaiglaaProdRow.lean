/-
  What the functions of package prod that add into a list do: a row of a product, a sum. Conditions: the lists read as lists of words, of at most 10^8 words, in memory apart.
-/
import Derived.Test.YteedipcmhaiglaaMem2
import Derived.Test.YteedipcmhaiglaaProdMath
namespace Go.Proofs.Yteedipcmhaiglaa
set_option maxRecDepth 100000
open Go.RowKit
set_option linter.unusedVariables false
set_option linter.unusedSimpArgs false

set_option maxHeartbeats 1000000 in
theorem prod_addRow {w : World} {g off L C : Nat} {zs : List Int} {A : Option Addr} {n c : Nat} {xs : List Int} (hr : Row 22 w g zs) (hd : Dg W zs) (ha : SlN g w A n c xs) (m : Int) (hm : U m) (hn : n ≤ 100000000) (hL : n < L) (hfit : off + L ≤ zs.length) (h0 : zs.getD (off + n) 0 = 0) :
    Calls Try.prog 112 #[.slice (some ⟨g, off, none⟩) L C, .slice A n c, .int .u64 m] w (Wrote 22 g (Rowed zs xs off n (val xs * m.toNat)) w) := by
  have hlen := ha.sl.len
  have HL := Lib.hid hlen
  have H0 := Lib.hid h0
  have HR0 := Lib.hid hr
  have HD := Lib.hid hd
  have HF := Lib.hid hfit
  clear hlen h0 hr hd hfit
  go_enter Try.func112, Try.ntmps112
  go_wp2_with fail
  go_loopw [6, 15] (fun cy i wr => ∃ (k : Nat) (c0 : Int) (ys : List Int), k ≤ n ∧ i = .int .i64 k ∧ cy = .int .u64 c0 ∧ RowInv zs xs off m k c0 ys ∧ Row 22 wr g ys ∧ Keep g w wr) (fun _ i _ => n - mes i)
  case atStart => exact ⟨0, 0, _, by omega, rfl, rfl, rowInv_0 HD.out _ _ _, HR0.out, Keep.refl _ _⟩
  case round =>
    obtain ⟨k, c0, ys, hk, rfl, rfl, hz, hr, hb⟩ := hrel
    have hlz : off + k < zs.length := by have := HF.out; omega
    have hly : ys.length = zs.length := hz.1
    have hcell := hr.cell (i := off + k) (by omega)
    rw [hz.2.2.2.2 (off + k) (Nat.le_refl _)] at hcell
    have hfree := hr.free (off + k)
    have huc : U c0 := hz.2.2.1
    by_cases hk2 : k < n
    · obtain ⟨ba, offa, rfl, hba, hac⟩ := (ha.keep hb).at_ hk2
      have hux : U (xs.getD k 0) := ha.sl.u k
      have huz : U (zs.getD (off + k) 0) := by have := HD.out.at_ W_pos (off + k); unfold U; unfold W at this; omega
      obtain ⟨hq, hw⟩ := row_word hux hm huz huc
      have hst := rowInv_step (Dg_U ha.sl.us) hz hlz (U_lo _) hq hw
      have hul : U (lo64 (xs.getD k 0 * m)) := U_lo _
      have M := fun w => limb_mul (xs.getD k 0) m hux hm w
      have AD := fun w => limb_add (lo64 (xs.getD k 0 * m)) (zs.getD (off + k) 0) c0 hul huz huc w
      have hwr : IntKind.u64.wrap (hi64 (xs.getD k 0 * m) + hi64 (lo64 (xs.getD k 0 * m) + zs.getD (off + k) 0 + c0)) = hi64 (xs.getD k 0 * m) + hi64 (lo64 (xs.getD k 0 * m) + zs.getD (off + k) 0 + c0) := by rw [wrapU_lo, lo_U hq]
      generalize xs.getD k 0 = x at *
      generalize zs.getD (off + k) 0 = z at *
      generalize hi64 (x * m) = p at *
      generalize lo64 (x * m) = l at *
      generalize lo64 (l + z + c0) = d at *
      generalize hi64 (l + z + c0) = o at *
      obtain ⟨q, eq⟩ : ∃ q, p + o = q := ⟨_, rfl⟩
      rw [eq] at hst
      have hwq : IntKind.u64.wrap (p + o) = q := hwr.trans eq
      clear hwr eq
      have HM := Lib.hid M
      have HA := Lib.hid AD
      have HS := Lib.hid hst
      have HR := Lib.hid hr
      clear M AD hst hr hz hw hux huz huc hul hq hly hlz
      have hkL : k < L := by omega
      go_wp2_with fail
      refine (HM.out _).mono ?_
      rintro e w' ⟨rfl, rfl⟩
      go_wp2_with fail
      refine (HA.out _).mono ?_
      rintro e w' ⟨rfl, rfl⟩
      go_wp2_with fail
      go_roundw
      case rel => exact ⟨k + 1, _, _, by omega, by go_num, rfl, HS.out, HR.out.set (off + k) _, hb.setCell (off + k) _⟩
      case measure => simp [mes, intOf]; omega
    · obtain rfl : k = n := by omega
      have he := rowInv_end hz HL.out.symm hlz H0.out
      rw [H0.out] at hcell
      have hwr : IntKind.u64.wrap (0 + c0) = c0 := by rw [Int.zero_add, wrapU_lo, lo_U huc]
      have hwr' : IntKind.u64.wrap c0 = c0 := by rw [wrapU_lo, lo_U huc]
      have HE := Lib.hid he
      have HR := Lib.hid hr
      clear hr hz he hly hlz huc
      go_wp2_with fail
      go_end0
      exact ⟨_, rfl, HR.out.set (off + k) _, hb.setCell (off + k) _, HE.out⟩

set_option maxHeartbeats 1000000 in
/-- nothing is added -/
theorem prod_addRow_nil {w : World} {g off L C : Nat} {zs : List Int} {A : Option Addr} {c : Nat} {xs : List Int} (hr : Row 22 w g zs) (hd : Dg W zs) (ha : SlN g w A 0 c xs) (m : Int) (hL : 0 < L) (hfit : off + L ≤ zs.length) :
    Calls Try.prog 112 #[.slice (some ⟨g, off, none⟩) L C, .slice A 0 c, .int .u64 m] w (Wrote 22 g (Rowed zs xs off 0 (val xs * m.toNat)) w) := by
  obtain rfl : xs = [] := List.eq_nil_of_length_eq_zero ha.sl.len.symm
  have hcell := hr.cell (i := off) (by omega)
  have hfree := hr.free off
  have huz : U (zs.getD off 0) := by have := hd.at_ W_pos off; unfold U; unfold W at this; omega
  have he : Rowed zs [] off 0 (val [] * m.toNat) (zs.set off (zs.getD off 0)) := by
    refine ⟨by simp, hd.set _ huz.1 (by have := huz.2; unfold W; omega), ?_, fun j hj => getD_set_ne _ (by omega) _⟩
    have := valB_set W zs off (by omega) (zs.getD off 0)
    rw [show val [] = 0 from rfl, Nat.zero_mul, Nat.mul_zero]
    omega
  have hwr : IntKind.u64.wrap (zs.getD off 0 + 0) = zs.getD off 0 := by rw [Int.add_zero, wrapU_lo, lo_U huz]
  have hwr' : IntKind.u64.wrap (zs.getD off 0) = zs.getD off 0 := by rw [wrapU_lo, lo_U huz]
  generalize zs.getD off 0 = z at *
  have HE := Lib.hid he
  have HR := Lib.hid hr
  clear he hr hd huz
  go_enter Try.func112, Try.ntmps112
  go_wp2_with fail
  go_loopw [6, 15] (fun cy i wr => i = .int .i64 0 ∧ cy = .int .u64 0 ∧ w = wr) (fun _ i _ => mes i)
  case atStart => exact ⟨rfl, rfl, rfl⟩
  case round =>
    obtain ⟨rfl, rfl, rfl⟩ := hrel
    go_wp2_with fail
    go_end0
    exact ⟨_, rfl, HR.out.set off _, (Keep.refl _ _).setCell off _, HE.out⟩

set_option maxHeartbeats 1000000 in
theorem prod_word_new {w : World} {A : Option Addr} {n c : Nat} {xs : List Int} (h : Sl w A n c xs) (hn : n ≤ 10000000) (m q : Int) (hm : U m) (hq : U q) :
    Calls Try.prog 107 #[.slice A n c, .int .u64 m, .int .u64 q] w (RetSlN (words (val xs * m.toNat + q.toNat)) w) := by
  obtain ⟨w0, hmk, hr0, hb0, _⟩ := make_words w (n + 1) (by omega)
  rw [show ((n + 1 : Nat) : Int) = (n : Int) + 1 by omega] at hmk
  have hr1 := hr0.set 0 q
  have hb1 := hb0.setCell (p := ⟨w.heap.size, 0, none⟩) (Nat.le_refl _) (.int .u64 q)
  have hd1 : Dg W ((List.replicate (n + 1) (0 : Int)).set 0 q) := (Dg.zeros W_pos _).set _ hq.1 (by have := hq.2; unfold W; omega)
  have hv1 : valB W ((List.replicate (n + 1) (0 : Int)).set 0 q) = q.toNat := by
    have := valB_set W (List.replicate (n + 1) (0 : Int)) 0 (by simp) q
    rw [valB_zeros, getD_zeros] at this
    simpa using this
  have hl1 : ((List.replicate (n + 1) (0 : Int)).set 0 q).length = n + 1 := by simp
  have key : Calls Try.prog 112 #[.slice (some ⟨w.heap.size, 0, none⟩) (n + 1) (n + 1), .slice A n c, .int .u64 m] (w0.setCell ⟨w.heap.size, 0, none⟩ (.int .u64 q)) (Wrote 22 w.heap.size (Rowed ((List.replicate (n + 1) (0 : Int)).set 0 q) xs 0 n (val xs * m.toNat)) (w0.setCell ⟨w.heap.size, 0, none⟩ (.int .u64 q))) := by
    have ha := h.apart' hb1 (Nat.le_refl _)
    by_cases h0 : n = 0
    · subst h0
      exact prod_addRow_nil hr1 hd1 ha m (by omega) (by omega)
    · exact prod_addRow hr1 hd1 ha m hm (by omega) (by omega) (by omega) (by rw [getD_set_ne _ (by omega)]; exact getD_zeros _ _)
  have hcell := hr0.cell (i := 0) (by simp)
  rw [getD_zeros] at hcell
  have hfree := hr0.free 0
  generalize (List.replicate (n + 1) (0 : Int)).set 0 q = zs1 at *
  have HK := Lib.hid key
  have HB := Lib.hid hb1
  have HV := Lib.hid hv1
  have HL := Lib.hid hl1
  clear key hr0 hr1 hb0 hb1 hd1 hv1 hl1
  go_enter Try.func107, Try.ntmps107
  go_wp2_with fail
  refine HK.out.mono ?_
  rintro e w1 ⟨us, rfl, hr2, hk2, r1, r2, r3, r4⟩
  have hb2 := Below.keep HB.out hk2 (Nat.le_refl _) (Nat.le_refl _)
  have hsl := hr2.sl (c := n + 1) (U_Dg r2) (by rw [r1, HL.out]; omega)
  rw [r1, HL.out] at hsl
  have hv : val us = val xs * m.toNat + q.toNat := by unfold val at *; rw [r3, HV.out]; simp; omega
  have T := nat_trim_new hsl (by omega)
  rw [hv] at T
  have HT := Lib.hid T
  clear T hv hsl r1 r2 r3 r4 hr2 hk2 HK HB HV HL hcell hfree
  go_wp2_with fail
  refine HT.out.mono ?_
  rintro e w2 ⟨A2, n2, c2, rfl, s2, b2, nw2⟩
  go_wp2_with fail
  go_ret
  exact ⟨_, _, _, rfl, s2, hb2.trans (b2.mono hb2.size), nw2.mono hb2.size⟩

theorem prod_word {w : World} {A : Option Addr} {n c : Nat} {xs : List Int} (h : Sl w A n c xs) (hn : n ≤ 10000000) (m q : Int) (hm : U m) (hq : U q) :
    Calls Try.prog 107 #[.slice A n c, .int .u64 m, .int .u64 q] w (RetSl (words (val xs * m.toNat + q.toNat)) w) := (prod_word_new h hn m q hm hq).mono fun _ _ => RetSlN.old

end Go.Proofs.Yteedipcmhaiglaa
