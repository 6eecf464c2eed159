/-
  Plain mathematics of long division and of roots: quotients word by word, Knuth's digits, Newton's steps. No Go in sight. Conditions: those that each theorem names.
-/
import Derived.Test.YthpbaaanbimapaaGreatDoorNatShlAllC
import Derived.Deep.RegionWith
namespace Go.Proofs.YthpbaaanbimapaaGreatDoor
set_option maxRecDepth 100000
open Go.RowKit
set_option linter.unusedVariables false
set_option linter.unusedSimpArgs false

set_option maxHeartbeats 1000000 in
theorem prod_addRow {w : World} {g off L C : Nat} {zs : List Int} {A : Option Addr} {n c : Nat} {xs : List Int} (hr : Row 34 w g zs) (hd : Dg W zs) (ha : SlN g w A n c xs) (m : Int) (hm : U m) (hn : n ≤ 100000000) (hL : n < L) (hfit : off + L ≤ zs.length) (h0 : zs.getD (off + n) 0 = 0) :
    Calls Tryz.prog 236 #[.slice (some ⟨g, off, none⟩) L C, .slice A n c, .int .u64 m] w (Wrote 34 g (Rowed zs xs off n (val xs * m.toNat)) w) := by
  have hlen := ha.sl.len
  have HL := Lib.hid hlen
  have H0 := Lib.hid h0
  have HR0 := Lib.hid hr
  have HD := Lib.hid hd
  have HF := Lib.hid hfit
  clear hlen h0 hr hd hfit
  go_enter Tryz.func236, Tryz.ntmps236
  go_wp2_with fail
  go_loopw [6, 15] (fun cy i wr => ∃ (k : Nat) (c0 : Int) (ys : List Int), k ≤ n ∧ i = .int .i64 k ∧ cy = .int .u64 c0 ∧ RowInv zs xs off m k c0 ys ∧ Row 34 wr g ys ∧ Keep g w wr) (fun _ i _ => n - mes i)
  case atStart => exact ⟨0, 0, _, by omega, rfl, rfl, rowInv_0 HD.out _ _ _, HR0.out, Keep.refl _ _⟩
  case round =>
    obtain ⟨k, c0, ys, hk, rfl, rfl, hz, hr, hb⟩ := hrel
    have hlz : off + k < zs.length := by have := HF.out; omega
    have hly : ys.length = zs.length := hz.1
    have hcell := hr.cell (i := off + k) (by omega)
    rw [hz.2.2.2.2 (off + k) (Nat.le_refl _)] at hcell
    have hfree := hr.free (off + k)
    have huc : U c0 := hz.2.2.1
    by_cases hk2 : k < n
    · obtain ⟨ba, offa, rfl, hba, hac⟩ := (ha.keep hb).at_ hk2
      have hux : U (xs.getD k 0) := ha.sl.u k
      have huz : U (zs.getD (off + k) 0) := by have := HD.out.at_ W_pos (off + k); unfold U; unfold W at this; omega
      obtain ⟨hq, hw⟩ := row_word hux hm huz huc
      have hst := rowInv_step (Dg_U ha.sl.us) hz hlz (U_lo _) hq hw
      have hul : U (lo64 (xs.getD k 0 * m)) := U_lo _
      have M := fun w => limb_mul (xs.getD k 0) m hux hm w
      have AD := fun w => limb_add (lo64 (xs.getD k 0 * m)) (zs.getD (off + k) 0) c0 hul huz huc w
      have hwr : IntKind.u64.wrap (hi64 (xs.getD k 0 * m) + hi64 (lo64 (xs.getD k 0 * m) + zs.getD (off + k) 0 + c0)) = hi64 (xs.getD k 0 * m) + hi64 (lo64 (xs.getD k 0 * m) + zs.getD (off + k) 0 + c0) := by rw [wrapU_lo, lo_U hq]
      generalize xs.getD k 0 = x at *
      generalize zs.getD (off + k) 0 = z at *
      generalize hi64 (x * m) = p at *
      generalize lo64 (x * m) = l at *
      generalize lo64 (l + z + c0) = d at *
      generalize hi64 (l + z + c0) = o at *
      obtain ⟨q, eq⟩ : ∃ q, p + o = q := ⟨_, rfl⟩
      rw [eq] at hst
      have hwq : IntKind.u64.wrap (p + o) = q := hwr.trans eq
      clear hwr eq
      have HM := Lib.hid M
      have HA := Lib.hid AD
      have HS := Lib.hid hst
      have HR := Lib.hid hr
      clear M AD hst hr hz hw hux huz huc hul hq hly hlz
      have hkL : k < L := by omega
      go_wp2_with fail
      refine (HM.out _).mono ?_
      rintro e w' ⟨rfl, rfl⟩
      go_wp2_with fail
      refine (HA.out _).mono ?_
      rintro e w' ⟨rfl, rfl⟩
      go_wp2_with fail
      go_roundw
      case rel => exact ⟨k + 1, _, _, by omega, by go_num, rfl, HS.out, HR.out.set (off + k) _, hb.setCell (off + k) _⟩
      case measure => simp [mes, intOf]; omega
    · obtain rfl : k = n := by omega
      have he := rowInv_end hz HL.out.symm hlz H0.out
      rw [H0.out] at hcell
      have hwr : IntKind.u64.wrap (0 + c0) = c0 := by rw [Int.zero_add, wrapU_lo, lo_U huc]
      have hwr' : IntKind.u64.wrap c0 = c0 := by rw [wrapU_lo, lo_U huc]
      have HE := Lib.hid he
      have HR := Lib.hid hr
      clear hr hz he hly hlz huc
      go_wp2_with fail
      go_end0
      exact ⟨_, rfl, HR.out.set (off + k) _, hb.setCell (off + k) _, HE.out⟩

set_option maxHeartbeats 1000000 in
/-- nothing is added -/
theorem prod_addRow_nil {w : World} {g off L C : Nat} {zs : List Int} {A : Option Addr} {c : Nat} {xs : List Int} (hr : Row 34 w g zs) (hd : Dg W zs) (ha : SlN g w A 0 c xs) (m : Int) (hL : 0 < L) (hfit : off + L ≤ zs.length) :
    Calls Tryz.prog 236 #[.slice (some ⟨g, off, none⟩) L C, .slice A 0 c, .int .u64 m] w (Wrote 34 g (Rowed zs xs off 0 (val xs * m.toNat)) w) := by
  obtain rfl : xs = [] := List.eq_nil_of_length_eq_zero ha.sl.len.symm
  have hcell := hr.cell (i := off) (by omega)
  have hfree := hr.free off
  have huz : U (zs.getD off 0) := by have := hd.at_ W_pos off; unfold U; unfold W at this; omega
  have he : Rowed zs [] off 0 (val [] * m.toNat) (zs.set off (zs.getD off 0)) := by
    refine ⟨by simp, hd.set _ huz.1 (by have := huz.2; unfold W; omega), ?_, fun j hj => getD_set_ne _ (by omega) _⟩
    have := valB_set W zs off (by omega) (zs.getD off 0)
    rw [show val [] = 0 from rfl, Nat.zero_mul, Nat.mul_zero]
    omega
  have hwr : IntKind.u64.wrap (zs.getD off 0 + 0) = zs.getD off 0 := by rw [Int.add_zero, wrapU_lo, lo_U huz]
  have hwr' : IntKind.u64.wrap (zs.getD off 0) = zs.getD off 0 := by rw [wrapU_lo, lo_U huz]
  generalize zs.getD off 0 = z at *
  have HE := Lib.hid he
  have HR := Lib.hid hr
  clear he hr hd huz
  go_enter Tryz.func236, Tryz.ntmps236
  go_wp2_with fail
  go_loopw [6, 15] (fun cy i wr => i = .int .i64 0 ∧ cy = .int .u64 0 ∧ w = wr) (fun _ i _ => mes i)
  case atStart => exact ⟨rfl, rfl, rfl⟩
  case round =>
    obtain ⟨rfl, rfl, rfl⟩ := hrel
    go_wp2_with fail
    go_end0
    exact ⟨_, rfl, HR.out.set off _, (Keep.refl _ _).setCell off _, HE.out⟩

set_option maxHeartbeats 1000000 in
theorem prod_addTo {w : World} {g off L C : Nat} {zs : List Int} {A : Option Addr} {n c : Nat} {xs : List Int} (hr : Row 34 w g zs) (hd : Dg W zs) (ha : SlN g w A n c xs) (hn : L ≤ 100000000) (hL : n ≤ L) (hfit : off + L = zs.length) (h0 : valB W zs + W ^ off * val xs < W ^ zs.length) :
    Calls Tryz.prog 246 #[.slice (some ⟨g, off, none⟩) L C, .slice A n c] w (Wrote 34 g (Intoed zs off (val xs)) w) := by
  have hlen := ha.sl.len
  have HL := Lib.hid hlen
  have H0 := Lib.hid h0
  have HR0 := Lib.hid hr
  have HD := Lib.hid hd
  have HF := Lib.hid hfit
  clear hlen h0 hr hd hfit
  go_enter Tryz.func246, Tryz.ntmps246
  go_wp2_with fail
  go_loopw [4, 9] (fun cy i wr => ∃ (k : Nat) (c0 : Int) (ys : List Int), k ≤ L ∧ i = .int .i64 k ∧ cy = .int .u64 c0 ∧ IntoInv zs xs off k c0 ys ∧ Row 34 wr g ys ∧ Keep g w wr) (fun _ i _ => L - mes i)
  case atStart => exact ⟨0, 0, _, by omega, rfl, rfl, intoInv_0 HD.out _ _, HR0.out, Keep.refl _ _⟩
  case round =>
    obtain ⟨k, c0, ys, hk, rfl, rfl, hz, hr, hb⟩ := hrel
    have hly : ys.length = zs.length := hz.1
    by_cases hk2 : k < L
    · have hlz : off + k < zs.length := by have := HF.out; omega
      have hcell := hr.cell (i := off + k) (by omega)
      rw [hz.2.2.2.2 (off + k) (Nat.le_refl _)] at hcell
      have hfree := hr.free (off + k)
      have hc0 := hz.2.2.1
      have huc : U c0 := by unfold U; omega
      have hux : U (xs.getD k 0) := ha.sl.u k
      have huz : U (zs.getD (off + k) 0) := by have := HD.out.at_ W_pos (off + k); unfold U; unfold W at this; omega
      obtain ⟨hq, hw⟩ := into_word hux huz hc0
      have hst := intoInv_step hz hlz (U_lo _) hq hw
      have AD := fun w => limb_add (zs.getD (off + k) 0) (xs.getD k 0) c0 huz hux huc w
      by_cases hkn : k < n
      · obtain ⟨ba, offa, rfl, hba, hac⟩ := (ha.keep hb).at_ hkn
        generalize xs.getD k 0 = x at *
        generalize zs.getD (off + k) 0 = z at *
        generalize lo64 (z + x + c0) = d at *
        generalize hi64 (z + x + c0) = o at *
        have HA := Lib.hid AD
        have HS := Lib.hid hst
        have HR := Lib.hid hr
        clear AD hst hr hz hw hux huz huc hq hly hlz
        go_wp2_with fail
        refine (HA.out _).mono ?_
        rintro e w' ⟨rfl, rfl⟩
        go_wp2_with fail
        go_roundw
        case rel => exact ⟨k + 1, _, _, by omega, by go_num, rfl, HS.out, HR.out.set (off + k) _, hb.setCell (off + k) _⟩
        case measure => simp [mes, intOf]; omega
      · have hx0 : xs.getD k 0 = 0 := by rw [List.getD_eq_getElem?_getD, List.getElem?_eq_none (by have := HL.out; omega)]; rfl
        rw [hx0] at AD hst
        by_cases hcc : c0 = 0
        · subst hcc
          have hkn' : n ≤ k := by omega
          have hE := Lib.hid (intoInv_stop hz (by have := HL.out; omega))
          have HR := Lib.hid hr
          clear AD hst hr hz hw hux huz huc hq hly hlz hcell hfree hx0
          go_wp2_with fail
          go_end0
          exact ⟨_, rfl, HR.out, hb, hE.out⟩
        · have hcc' : (c0 == 0) = false := by simpa using hcc
          generalize zs.getD (off + k) 0 = z at *
          generalize lo64 (z + 0 + c0) = d at *
          generalize hi64 (z + 0 + c0) = o at *
          have HA := Lib.hid AD
          have HS := Lib.hid hst
          have HR := Lib.hid hr
          clear AD hst hr hz hw hux huz huc hq hly hlz hx0
          go_wp2_with fail
          refine (HA.out _).mono ?_
          rintro e w' ⟨rfl, rfl⟩
          go_wp2_with fail
          go_roundw
          case rel => exact ⟨k + 1, _, _, by omega, by go_num, rfl, HS.out, HR.out.set (off + k) _, hb.setCell (off + k) _⟩
          case measure => simp [mes, intOf]; omega
    · obtain rfl : k = L := by omega
      have he := intoInv_end hz (by have := HL.out; omega) (by have := HF.out; omega) H0.out
      have HE := Lib.hid he
      have HR := Lib.hid hr
      clear hr hz he hly
      go_wp2_with fail
      go_end0
      exact ⟨_, rfl, HR.out, hb, HE.out⟩

set_option maxHeartbeats 1000000 in
theorem prod_rows {w : World} {A A' : Option Addr} {n n' c c' : Nat} {xs ys : List Int} (h : Sl w A n c xs) (h' : Sl w A' n' c' ys) (hn : n ≤ 10000000) (hn' : n' ≤ 10000000) :
    Calls Tryz.prog 239 #[.slice A n c, .slice A' n' c'] w (RetV (n + n') (val xs * val ys) w) := by
  have hlen := h.len
  have hlen' := h'.len
  have HL := Lib.hid hlen
  have HL' := Lib.hid hlen'
  clear hlen hlen'
  have hmk := run_make_row' (P := Tryz.prog) 49 34 (.int .u64 0) 8 Tryz.underlying49 infoW rfl .i64 .i64 (n + n') (by omega) (by omega)
  rw [show ((n + n' : Nat) : Int) = (n : Int) + (n' : Int) by omega] at hmk
  go_enter Tryz.func239, Tryz.ntmps239
  go_wp2_with fail
  go_loopw [16] (fun i wr => ∃ (k : Nat) (zs : List Int), k ≤ n' ∧ i = .int .i64 k ∧ RowsInv xs ys (n + n') k zs ∧ Row 34 wr w.heap.size zs ∧ Below w.heap.size w wr) (fun i _ => n' - mes i)
  case atStart => exact ⟨0, _, by omega, rfl, rowsInv_0 xs ys (n + n'), Row.new w 34 (n + n'), (Below.refl _ _).alloc (Nat.le_refl _) _⟩
  case round =>
    obtain ⟨k, zs, hk, rfl, hz, hr, hb⟩ := hrel
    have hlz : zs.length = n + n' := hz.1
    by_cases hk2 : k < n'
    · obtain ⟨ba, offa, rfl, hba, hac⟩ := (h'.apart' hb (Nat.le_refl _)).at_ hk2
      have hux : U (ys.getD k 0) := h'.u k
      have R := prod_addRow (L := n + n' - k) (C := n + n' - k) hr hz.2.1 (h.apart' hb (Nat.le_refl _)) (ys.getD k 0) hux (by omega) (by omega) (by omega) (off := k) (hz.2.2.2 _ (by have := HL.out; omega))
      have hst := fun us => rowsInv_step (us := us) hz
      rw [← HL.out] at hst
      generalize ys.getD k 0 = x at *
      have HR := Lib.hid R
      have HS := Lib.hid hst
      clear R hst hr hz hlz
      have hne : ¬ (n + n' = k) := by omega
      go_wp2_with fail
      refine HR.out.mono ?_
      rintro e w' ⟨us, rfl, hr2, hk2', ht⟩
      have HT := Lib.hid (HS.out us ht)
      have HR2 := Lib.hid hr2
      have hb2 := Below.keep hb hk2' (Nat.le_refl _) (Nat.le_refl _)
      clear ht hr2 hk2' HR HS
      go_wp2_with fail
      go_roundw
      case rel => exact ⟨k + 1, _, by omega, by go_num, HT.out, HR2.out, hb2⟩
      case measure => simp [mes, intOf]; omega
    · obtain rfl : k = n' := by omega
      have hd : Dg W zs := hz.2.1
      have hv : val zs = val xs * val ys := by
        have := hz.2.2.1
        rw [List.take_of_length_le (by have := HL'.out; omega)] at this
        exact this
      have hsl := hr.sl (c := n + k) (U_Dg hd) (by omega)
      rw [hlz] at hsl
      have HSL := Lib.hid hsl
      have HV := Lib.hid hv
      clear hr hz hlz hsl hv hd
      go_wp2_with fail
      go_ret
      exact ⟨_, _, _, rfl, HSL.out, HV.out, hb, New.some_ (Nat.le_refl _)⟩

set_option maxHeartbeats 1000000 in
theorem prod_word_new {w : World} {A : Option Addr} {n c : Nat} {xs : List Int} (h : Sl w A n c xs) (hn : n ≤ 10000000) (m q : Int) (hm : U m) (hq : U q) :
    Calls Tryz.prog 205 #[.slice A n c, .int .u64 m, .int .u64 q] w (RetSlN (words (val xs * m.toNat + q.toNat)) w) := by
  obtain ⟨w0, hmk, hr0, hb0, _⟩ := make_words w (n + 1) (by omega)
  rw [show ((n + 1 : Nat) : Int) = (n : Int) + 1 by omega] at hmk
  have hr1 := hr0.set 0 q
  have hb1 := hb0.setCell (p := ⟨w.heap.size, 0, none⟩) (Nat.le_refl _) (.int .u64 q)
  have hd1 : Dg W ((List.replicate (n + 1) (0 : Int)).set 0 q) := (Dg.zeros W_pos _).set _ hq.1 (by have := hq.2; unfold W; omega)
  have hv1 : valB W ((List.replicate (n + 1) (0 : Int)).set 0 q) = q.toNat := by
    have := valB_set W (List.replicate (n + 1) (0 : Int)) 0 (by simp) q
    rw [valB_zeros, getD_zeros] at this
    simpa using this
  have hl1 : ((List.replicate (n + 1) (0 : Int)).set 0 q).length = n + 1 := by simp
  have key : Calls Tryz.prog 236 #[.slice (some ⟨w.heap.size, 0, none⟩) (n + 1) (n + 1), .slice A n c, .int .u64 m] (w0.setCell ⟨w.heap.size, 0, none⟩ (.int .u64 q)) (Wrote 34 w.heap.size (Rowed ((List.replicate (n + 1) (0 : Int)).set 0 q) xs 0 n (val xs * m.toNat)) (w0.setCell ⟨w.heap.size, 0, none⟩ (.int .u64 q))) := by
    have ha := h.apart' hb1 (Nat.le_refl _)
    by_cases h0 : n = 0
    · subst h0
      exact prod_addRow_nil hr1 hd1 ha m (by omega) (by omega)
    · exact prod_addRow hr1 hd1 ha m hm (by omega) (by omega) (by omega) (by rw [getD_set_ne _ (by omega)]; exact getD_zeros _ _)
  have hcell := hr0.cell (i := 0) (by simp)
  rw [getD_zeros] at hcell
  have hfree := hr0.free 0
  generalize (List.replicate (n + 1) (0 : Int)).set 0 q = zs1 at *
  have HK := Lib.hid key
  have HB := Lib.hid hb1
  have HV := Lib.hid hv1
  have HL := Lib.hid hl1
  clear key hr0 hr1 hb0 hb1 hd1 hv1 hl1
  go_enter Tryz.func205, Tryz.ntmps205
  go_wp2_with fail
  refine HK.out.mono ?_
  rintro e w1 ⟨us, rfl, hr2, hk2, r1, r2, r3, r4⟩
  have hb2 := Below.keep HB.out hk2 (Nat.le_refl _) (Nat.le_refl _)
  have hsl := hr2.sl (c := n + 1) (U_Dg r2) (by rw [r1, HL.out]; omega)
  rw [r1, HL.out] at hsl
  have hv : val us = val xs * m.toNat + q.toNat := by unfold val at *; rw [r3, HV.out]; simp; omega
  have T := nat_trim_new hsl (by omega)
  rw [hv] at T
  have HT := Lib.hid T
  clear T hv hsl r1 r2 r3 r4 hr2 hk2 HK HB HV HL hcell hfree
  go_wp2_with fail
  refine HT.out.mono ?_
  rintro e w2 ⟨A2, n2, c2, rfl, s2, b2, nw2⟩
  go_wp2_with fail
  go_ret
  exact ⟨_, _, _, rfl, s2, hb2.trans (b2.mono hb2.size), nw2.mono hb2.size⟩

end Go.Proofs.YthpbaaanbimapaaGreatDoor

namespace Go.Proofs.YthpbaaanbimapaaGreatDoor
set_option maxRecDepth 100000
open Go.RowKit
set_option linter.unusedVariables false
set_option linter.unusedSimpArgs false

theorem Below.undrew {w w' : World} (h : Below w.drew.heap.size w.drew w') : Below w.heap.size w w' := ⟨h.os, h.tape, h.output, h.size, h.block⟩
/-- products of fewer than N words are right -/
def ProdOk (N : Nat) : Prop := ∀ (w : World) (A A' : Option Addr) (n n' c c' : Nat) (xs ys : List Int), Sl w A n c xs → Sl w A' n' c' ys → n + n' < N →
  Calls Tryz.prog 211 #[.slice A n c, .slice A' n' c'] w (RetV (n + n') (val xs * val ys) w)

set_option maxHeartbeats 1000000 in
theorem prod_halves {N : Nat} (ih : ProdOk N) {w : World} {A A' : Option Addr} {n n' c c' half : Nat} {xs ys : List Int} (h : Sl w A n c xs) (h' : Sl w A' n' c' ys)
    (hN : n + n' ≤ N) (hM : n + n' ≤ 1000000) (h1 : n ≤ 2 * half) (h2 : 2 * half ≤ n + 1) (h3 : 4 ≤ n) :
    Calls Tryz.prog 240 #[.slice A n c, .slice A' n' c', .int .i64 half] w (RetV (n + n') (val xs * val ys) w) := by
  obtain ⟨b, off, rfl, _, _⟩ := h.at_ (k := 0) (by omega)
  have hcap := h.cap
  have hlen := h.len
  have hlen' := h'.len
  obtain ⟨w0, hmk, hr0, hb0, _⟩ := make_words w (n + n') (by omega)
  rw [show ((n + n' : Nat) : Int) = (n : Int) + (n' : Int) by omega] at hmk
  have P1 := ih w0 _ _ _ _ _ _ _ _ ((h.below hb0).take (k := half) (by omega)) (h'.below hb0) (by omega)
  have hxy := prod_fits (Dg_U h.us) (Dg_U h'.us)
  rw [← hlen, ← hlen'] at hxy
  have hsp := val_take_drop xs half
  have HP1 := Lib.hid P1
  have HR0 := Lib.hid hr0
  have HXY := Lib.hid hxy
  have HSP := Lib.hid hsp
  have HL := Lib.hid hlen
  have HL' := Lib.hid hlen'
  have IH := Lib.hid ih
  clear ih P1 hr0 hxy hsp hlen hlen'
  have hch : ¬ (c = half) := by omega
  have hch2 : ¬ (n + n' = half) := by omega
  go_enter Tryz.func240, Tryz.ntmps240
  go_wp2_with fail
  refine HP1.out.mono ?_
  rintro e w1 ⟨A1, c1, p1, rfl, s1, v1, b1, _⟩
  have hb1 := hb0.trans (b1.mono hb0.size)
  have hr1 : Row 34 w1 w.heap.size (List.replicate (n + n') 0) := HR0.out.below b1 HR0.out.lt
  have HV1 := Lib.hid v1
  have HR1 := Lib.hid hr1
  have HS1 := Lib.hid s1
  clear v1 hr1 s1 b1 HP1 HR0
  go_wp2_with (with_reducible refine wpList_copy_words rfl (.tmp 14) (.tmp 19) 49 49 rfl 34 Tryz.underlying49 sizeW w.heap.size 0 (n + n') (n + n') A1 (half + n') c1 rfl rfl (List.replicate (n + n') 0) p1 ?hr ?hsl ?hle ?hfit ?_)
  case hr => exact HR1.out
  case hsl => exact HS1.out
  case hle => omega
  case hfit => simp; omega
  intro w2 HR2 HK2
  have hb2 := Below.keep hb1 HK2.out (Nat.le_refl _) (Nat.le_refl _)
  have hb2d : Below w.heap.size w w2.drew := hb2.drew
  have P2 := IH.out w2.drew _ _ _ _ _ _ _ _ ((h.below hb2d).drop (k := half) (by omega)) (h'.below hb2d) (by omega)
  have key : ∀ w3 A3 c3 p3, Sl w3 A3 (n - half + n') c3 p3 → Hid (val p3 = val (xs.drop half) * val ys) → Below w2.drew.heap.size w2.drew w3 → New w2.drew A3 →
      Calls Tryz.prog 246 #[.slice (some ⟨w.heap.size, half, none⟩) (n + n' - half) (n + n' - half), .slice A3 (n - half + n') c3] w3 (Wrote 34 w.heap.size (fun zs' => zs'.length = n + n' ∧ Dg W zs' ∧ val zs' = val xs * val ys) w3) := by
    intro w3 A3 c3 p3 s3 v3 b3 n3
    have hr2 : Row 34 w2.drew w.heap.size (spl (List.replicate (n + n') 0) 0 p1) := HR2.out
    have hr3 := hr2.below b3 hr2.lt
    have hl1 : p1.length = half + n' := HS1.out.len.symm
    have hlz : (spl (List.replicate (n + n') 0) 0 p1).length = n + n' := by rw [length_spl (by simp; omega)]; simp
    have hdz : Dg W (spl (List.replicate (n + n') 0) 0 p1) := (Dg.zeros W_pos _).spl (Dg_U HS1.out.us) 0
    have hvz : valB W (spl (List.replicate (n + n') 0) 0 p1) = val (xs.take half) * val ys := by
      rw [← HV1.out]
      unfold spl val
      simp [valB_over]
    have hsum : val (xs.take half) * val ys + W ^ half * (val (xs.drop half) * val ys) = val xs * val ys := prod_halves_eq _ _ _ HSP.out rfl rfl
    have hap : SlN w.heap.size w3 A3 (n - half + n') c3 p3 := s3.new n3 hr2.lt
    refine (prod_addTo hr3 hdz hap (by omega) (by omega) (by omega) (by rw [hvz, v3.out, hsum, hlz]; exact HXY.out)).mono ?_
    rintro e w4 ⟨us, rfl, hr4, hk4, t1, t2, t3⟩
    exact ⟨us, rfl, hr4, hk4, by rw [t1, hlz], t2, by unfold val at *; rw [t3, hvz, v3.out, hsum]⟩
  have HP2 := Lib.hid P2
  have HKEY := Lib.hid key
  clear P2 key
  go_wp2_with fail
  go_region_with (first | (go_at_call 211; refine HP2.out.mono ?_; rintro e w3 ⟨A3, c3, p3, rfl, s3, v3, b3, n3⟩; have HV3 := Lib.hid v3; clear v3) | (go_at_call 246; refine (HKEY.out _ _ _ _ s3 HV3 b3 n3).mono ?_; rintro e w4 ⟨us, rfl, hr4, hk4, t1, t2, t3⟩))
  all_goals
    have hb4 := Below.keep (hb2d.trans (b3.mono hb2d.size)) hk4 (Nat.le_refl _) (Nat.le_refl _)
    have hsl4 := hr4.sl (c := n + n') (U_Dg t2) (by omega)
    rw [t1] at hsl4
    have HS4 := Lib.hid hsl4
    have HT := Lib.hid t3
    clear hr4 t1 t2 t3 hk4 hsl4
    go_wp2_with fail
    go_ret
    exact ⟨_, _, _, rfl, HS4.out, HT.out, hb4, New.some_ (Nat.le_refl _)⟩

end Go.Proofs.YthpbaaanbimapaaGreatDoor

namespace Go.Proofs.YthpbaaanbimapaaGreatDoor
set_option maxRecDepth 100000
open Go.RowKit
set_option linter.unusedVariables false
set_option linter.unusedSimpArgs false

/-- the slot holds a slice of n words that say v; of what was there in w nothing has turned -/
def Made (w : World) (n v : Nat) (s : Value) (wx : World) : Prop := ∃ A c p, s = .slice A n c ∧ Sl wx A n c p ∧ val p = v ∧ Below w.heap.size w wx
/-- .. a slice of at most K words that say v -/
def Some_ (w : World) (K v : Nat) (s : Value) (wx : World) : Prop := ∃ A n c p, s = .slice A n c ∧ n ≤ K ∧ Sl wx A n c p ∧ val p = v ∧ Below w.heap.size w wx

theorem spl_two {p1 p2 : List Int} {N k : Nat} (h1 : p1.length = k) (h2 : k + p2.length = N) : spl (spl (List.replicate N 0) 0 p1) k p2 = p1 ++ p2 := by
  subst h1
  have e1 : spl (List.replicate N 0) 0 p1 = p1 ++ List.replicate (N - p1.length) 0 := by unfold spl; simp
  rw [e1]
  unfold spl
  rw [List.take_append_of_le_length (Nat.le_refl _), List.take_of_length_le (Nat.le_refl _), List.drop_eq_nil_of_le (by simp; omega), List.append_nil]

set_option maxHeartbeats 2000000 in
theorem prod_karatsuba {N : Nat} (ih : ProdOk N) {w : World} {A A' : Option Addr} {n n' c c' half : Nat} {xs ys : List Int} (h : Sl w A n c xs) (h' : Sl w A' n' c' ys)
    (hN : n + n' ≤ N) (hM : n + n' ≤ 1000000) (h1 : n ≤ 2 * half) (h2 : 2 * half ≤ n + 1) (h3 : 10 ≤ n) (h4 : half < n') (h5 : n' ≤ n) :
    Calls Tryz.prog 241 #[.slice A n c, .slice A' n' c', .int .i64 half] w (RetV (n + n') (val xs * val ys) w) := by
  obtain ⟨b, off, rfl, _, _⟩ := h.at_ (k := 0) (by omega)
  obtain ⟨b', off', rfl, _, _⟩ := h'.at_ (k := 0) (by omega)
  have hcap := h.cap
  have hcap' := h'.cap
  have hlen := h.len
  have hlen' := h'.len
  have hxy := prod_fits (Dg_U h.us) (Dg_U h'.us)
  rw [← hlen, ← hlen'] at hxy
  have hsp := val_take_drop xs half
  have hsp' := val_take_drop ys half
  have s1 := h.drewN 1
  have s1' := h'.drewN 1
  have hch : ¬ (c = half) := by omega
  have hch' : ¬ (c' = half) := by omega
  have g1 : half ≤ c := by omega
  have g2 : half ≤ n := by omega
  have g3 : half ≤ c' := by omega
  have g4 : half ≤ n' := by omega
  have P1 := ih w.drew _ _ _ _ _ _ _ _ (s1.take (k := half) (by omega)) (s1'.take (k := half) (by omega)) (by omega)
  have P2 := fun w1 (hb : Below w.heap.size w w1) => ih w1 _ _ _ _ _ _ _ _ ((h.below hb).drop (k := half) (by omega)) ((h'.below hb).drop (k := half) (by omega)) (by omega)
  have Q1 := fun w1 (hb : Below w.heap.size w w1) => nat_add (w := w1) ((h.below hb).take (k := half) (by omega)) ((h.below hb).drop (k := half) (by omega)) (by omega) (by omega)
  have Q2 := fun w1 (hb : Below w.heap.size w w1) => nat_add (w := w1) ((h'.below hb).take (k := half) (by omega)) ((h'.below hb).drop (k := half) (by omega)) (by omega) (by omega)
  have ux : val (xs.take half) + val (xs.drop half) < W ^ (half + 1) := add_lt_pow (val_lt_pow (fun x hx => h.us x (List.mem_of_mem_take hx)) (by rw [List.length_take]; omega)) (val_lt_pow (fun x hx => h.us x (List.mem_of_mem_drop hx)) (by rw [List.length_drop]; omega))
  have uy : val (ys.take half) + val (ys.drop half) < W ^ (half + 1) := add_lt_pow (val_lt_pow (fun x hx => h'.us x (List.mem_of_mem_take hx)) (by rw [List.length_take]; omega)) (val_lt_pow (fun x hx => h'.us x (List.mem_of_mem_drop hx)) (by rw [List.length_drop]; omega))
  have HP2 := Lib.hid P2
  have HQ1 := Lib.hid Q1
  have HQ2 := Lib.hid Q2
  have HUX := Lib.hid ux
  have HUY := Lib.hid uy
  clear P2 Q1 Q2 ux uy
  have HP1 := Lib.hid P1
  have HXY := Lib.hid hxy
  have HSP := Lib.hid hsp
  have HSP' := Lib.hid hsp'
  have HL := Lib.hid hlen
  have HL' := Lib.hid hlen'
  have IH := Lib.hid ih
  clear ih P1 hxy hsp hsp' hlen hlen'
  go_enter Tryz.func241, Tryz.ntmps241
  go_upto_region 1 with (fail)
  go_cut [7] (fun s wx => Made w (half + half) (val (xs.take half) * val (ys.take half)) s wx)
  case first =>
    go_region_with (first | (go_at_call 211; refine HP1.out.mono ?_; rintro e w1 ⟨A1, c1, p1, rfl, s1, v1, b1, _⟩; have HV1 := Lib.hid v1; clear v1) | fail)
    all_goals
      go_wp2_with fail
      go_meet
      exact ⟨_, _, _, rfl, s1, HV1.out, Below.undrew b1⟩
  case rest =>
    obtain ⟨A1, c1, p1, rfl, s1, v1, hb1⟩ := hcut
    have HV1 := Lib.hid v1
    clear HP1 v1
    go_upto_region 2 with (fail)
    go_cut [8] (fun s wx => Made w (n - half + (n' - half)) (val (xs.drop half) * val (ys.drop half)) s wx ∧ Sl wx A1 (half + half) c1 p1)
    case first =>
      go_region_with (first | (go_at_call 211; refine (HP2.out _ hb1.drew).mono ?_; rintro e w2 ⟨A2, c2, p2, rfl, s2, v2, b2, _⟩; have HV2 := Lib.hid v2; clear v2) | fail)
      all_goals
        go_wp2_with fail
        go_meet
        exact ⟨⟨_, _, _, rfl, s2, HV2.out, hb1.drew.trans (b2.mono hb1.size)⟩, s1.below (Below.undrew b2)⟩
    case rest =>
      clear s1 hb1 HP2
      obtain ⟨⟨A2, c2, p2, rfl, s2, v2, hb2⟩, s1⟩ := hcut
      have HV2 := Lib.hid v2
      clear v2
      go_upto_region 3 with (fail)
      go_cut [9] (fun s wx => Some_ w (half + 1 + (half + 1)) ((val (xs.take half) + val (xs.drop half)) * (val (ys.take half) + val (ys.drop half))) s wx ∧ Sl wx A1 (half + half) c1 p1 ∧ Sl wx A2 (n - half + (n' - half)) c2 p2)
      case first =>
        go_region_with (first | (go_at_call 211; refine (IH.out _ _ _ _ _ _ _ _ _ (s3.below b4) s4 (by have := s3.small HUX.out; have := s4.small HUY.out; omega)).mono ?_; rintro e w5 ⟨A5, c5, p5, rfl, s5, v5, b5, _⟩; have HV5 := Lib.hid v5; clear v5) | (go_at_call 151; (with_reducible refine (HQ1.out _ hb2.drew).mono ?_); rintro e w3 ⟨A3, n3, c3, rfl, s3, b3⟩; have hb3 := hb2.drew.trans (b3.mono hb2.size)) | (go_at_call 151; (with_reducible refine (HQ2.out _ hb3).mono ?_); rintro e w4 ⟨A4, n4, c4, rfl, s4, b4⟩))
        all_goals
          go_wp2_with fail
          go_meet
          have b25 := (Below.undrew b3).trans ((b4.mono (Below.undrew b3).size).trans (b5.mono (Nat.le_trans (Below.undrew b3).size b4.size)))
          refine ⟨⟨_, _, _, _, rfl, ?_, s5, ?_, hb2.trans (b25.mono hb2.size)⟩, s1.below b25, s2.below b25⟩
          · have := s3.small HUX.out; have := s4.small HUY.out; omega
          · rw [HV5.out, val_words, val_words]
      case rest =>
        clear s1 s2 hb2
        obtain ⟨⟨A5, n5, c5, p5, rfl, hn5, s5, v5, hb5⟩, s1, s2⟩ := hcut
        have hle : val p1 + val p2 ≤ val p5 := by rw [HV1.out, HV2.out, v5]; exact kara_le
        have hval : val p1 + W ^ half * W ^ half * val p2 + W ^ half * (val p5 - (val p1 + val p2)) = val xs * val ys := kara (W ^ half) _ _ HSP.out HSP'.out HV1.out HV2.out (by rw [Nat.sub_add_cancel hle, v5])
        have R := nat_add s1 s2 (by omega) (by omega)
        have HR := Lib.hid R
        have HLE := Lib.hid hle
        have HVAL := Lib.hid hval
        clear R v5 hle hval HQ1 HQ2 HUX HUY IH
        go_wp2_with fail
        refine HR.out.mono ?_
        rintro e w6 ⟨A6, n6, c6, rfl, s6, b6⟩
        have hb6 := hb5.trans (b6.mono hb5.size)
        have hn6 : n6 ≤ n + n' := by
          refine s6.small (k := n + n') (Nat.lt_of_le_of_lt ?_ HXY.out)
          rw [← HVAL.out]
          have hp : 1 ≤ W ^ half := Nat.pow_pos W_pos
          have : 1 * val p2 ≤ W ^ half * W ^ half * val p2 := Nat.mul_le_mul_right _ (Nat.mul_le_mul hp hp)
          generalize W ^ half * (val p5 - (val p1 + val p2)) = z
          omega
        have R2 := nat_sub_yes (s5.below b6) s6 (by omega) (by omega) (by rw [val_words]; exact HLE.out)
        rw [val_words] at R2
        have HR2 := Lib.hid R2
        have S1 := Lib.hid (s1.below b6)
        have S2 := Lib.hid (s2.below b6)
        clear R2 HR hb5 s1 s2 s5 s6 b6 hn5
        go_wp2_with fail
        refine HR2.out.mono ?_
        rintro e w7 ⟨A7, n7, c7, rfl, s7, b7⟩
        have hb7 := hb6.trans (b7.mono hb6.size)
        have hmid : W ^ half * (val p5 - (val p1 + val p2)) < W ^ (half + (n + n' - half)) := by
          refine Nat.lt_of_le_of_lt ?_ (show val xs * val ys < _ by rw [show half + (n + n' - half) = n + n' by omega]; exact HXY.out)
          rw [← HVAL.out]
          omega
        have hn7 : n7 ≤ n + n' - half := s7.small (lt_of_mul_lt_pow hmid)
        obtain ⟨w8, hmk, hr8, hb8, hlt8⟩ := make_words w7 (n + n') (by omega)
        rw [show ((n + n' : Nat) : Int) = (n : Int) + (n' : Int) by omega] at hmk
        have S1' := Lib.hid ((S1.out.below b7).below hb8)
        have S2' := Lib.hid ((S2.out.below b7).below hb8)
        have S7 := Lib.hid (s7.apart' hb8 (Nat.le_refl _))
        have HR8 := Lib.hid hr8
        have HB8 := Lib.hid (hb7.trans (hb8.mono hb7.size))
        have HSZ := Lib.hid hb7.size
        have l1 := Lib.hid S1.out.len
        have l2 := Lib.hid S2.out.len
        have a1 := Lib.hid S1'.out
        have a2 := Lib.hid S2'.out
        have x2 : Hid (SlN w7.heap.size w8 A2 (n - half + (n' - half)) c2 p2) := (S2.out.below b7).apart' hb8 (Nat.le_refl _)
        clear HR2 hmid s7 hr8 hb8 hlt8 b7 hb7 hb6 S1 S2 S2'
        have hc2 : ¬ (n + n' = 2 * half) := by omega
        have hc3 : ¬ (n + n' = half) := by omega
        go_wp2_with (with_reducible refine wpList_copy_words rfl (.tmp 56) (.tmp 57) 49 49 rfl 34 Tryz.underlying49 sizeW w7.heap.size 0 (n + n') (n + n') A1 (half + half) c1 rfl rfl (List.replicate (n + n') 0) p1 ?hr ?hsl ?hle ?hfit ?_)
        case hr => exact HR8.out
        case hsl => exact S1'.out
        case hle => omega
        case hfit => simp; omega
        intro w9 HR9 HK9
        have y2 := Lib.hid ((x2.out.keep HK9.out).sl)
        have y7 := Lib.hid (S7.out.keep HK9.out)
        have HB9 := Lib.hid (Below.keep HB8.out HK9.out HSZ.out (Nat.le_refl _))
        clear HR8 S1' S7 HB8
        go_wp2_with (with_reducible refine wpList_copy_words rfl (.tmp 62) (.tmp 63) 49 49 rfl 34 Tryz.underlying49 sizeW w7.heap.size (2 * half) (n + n' - 2 * half) (n + n' - 2 * half) A2 (n - half + (n' - half)) c2 rfl rfl (spl (List.replicate (n + n') 0) 0 p1) p2 ?hr2 ?hsl2 ?hle2 ?hfit2 ?_)
        case hr2 => exact HR9.out
        case hsl2 => exact y2.out
        case hle2 => omega
        case hfit2 => rw [length_spl (by have := l1.out; simp; omega)]; simp; omega
        intro w10 HR10 HK10
        have hr10 := HR10.out
        have L1 := l1.out
        have L2 := l2.out
        rw [spl_two (by omega) (by omega)] at hr10
        have HB10 := Lib.hid (Below.keep HB9.out HK10.out HSZ.out (Nat.le_refl _))
        have hdz : Dg W (p1 ++ p2) := (Dg_U a1.out.us).append (Dg_U a2.out.us)
        have hlz : (p1 ++ p2).length = n + n' := by rw [List.length_append]; omega
        have hvz : valB W (p1 ++ p2) = val p1 + W ^ half * W ^ half * val p2 := by
          rw [valB_append, ← L1, Nat.pow_add]; rfl
        have y7' := y7.out.keep HK10.out
        have K := prod_addTo (off := half) (L := n + n' - half) (C := n + n' - half) hr10 hdz y7' (by omega) hn7 (by rw [hlz]; omega) (by rw [hvz, val_words, HVAL.out, hlz]; exact HXY.out)
        have HK := Lib.hid K
        have HVZ := Lib.hid hvz
        have HLZ := Lib.hid hlz
        clear K hr10 hdz hlz hvz y7' L1 L2 HR10 HR9 y2 y7
        go_wp2_with fail
        refine HK.out.mono ?_
        rintro e w11 ⟨us, rfl, hr11, hk11, t1, t2, t3⟩
        have hb11 := Below.keep HB10.out hk11 HSZ.out (Nat.le_refl _)
        have hsl11 := hr11.sl (c := n + n') (U_Dg t2) (by rw [t1, HLZ.out]; omega)
        rw [t1, HLZ.out] at hsl11
        have hv11 : val us = val xs * val ys := by
          have e : valB W us = valB W (p1 ++ p2) + W ^ half * (val p5 - (val p1 + val p2)) := by rw [t3, val_words]
          unfold val at e ⊢
          rw [e, HVZ.out]
          exact HVAL.out
        have HS11 := Lib.hid hsl11
        have HV11 := Lib.hid hv11
        clear hr11 hk11 t1 t2 t3 hsl11 hv11 HK HVZ HLZ
        go_wp2_with fail
        go_ret
        exact ⟨_, _, _, rfl, HS11.out, HV11.out, hb11, New.some_ HSZ.out⟩

set_option maxHeartbeats 1000000 in
theorem prod_product_step {N : Nat} (ih : ProdOk N) (hM : N ≤ 1000000) : ProdOk (N + 1) := by
  intro w A A' n n' c c' xs ys h h' hN
  have key : ∀ (w : World) (A A' : Option Addr) (n n' c c' : Nat) (xs ys : List Int), Sl w A n c xs → Sl w A' n' c' ys → n + n' < N + 1 → n' ≤ n →
      (n' < 40 → Calls Tryz.prog 239 #[.slice A n c, .slice A' n' c'] w (RetV (n + n') (val xs * val ys) w)) ∧
      (40 ≤ n' → n' ≤ (n + 1) / 2 → Calls Tryz.prog 240 #[.slice A n c, .slice A' n' c', .int .i64 (((n + 1) / 2 : Nat) : Int)] w (RetV (n + n') (val xs * val ys) w)) ∧
      (40 ≤ n' → (n + 1) / 2 < n' → Calls Tryz.prog 241 #[.slice A n c, .slice A' n' c', .int .i64 (((n + 1) / 2 : Nat) : Int)] w (RetV (n + n') (val xs * val ys) w)) := by
    intro w A A' n n' c c' xs ys h h' hN hle
    exact ⟨fun _ => prod_rows h h' (by omega) (by omega), fun _ _ => prod_halves ih h h' (by omega) (by omega) (by omega) (by omega) (by omega),
      fun _ _ => prod_karatsuba ih h h' (by omega) (by omega) (by omega) (by omega) (by omega) (by omega) hle⟩
  have HKEY := Lib.hid key
  clear key ih
  by_cases hle : n' ≤ n
  · have hlt : ¬ (n < n') := by omega
    obtain ⟨k1, k2, k3⟩ := HKEY.out w A A' n n' c c' xs ys h h' hN hle
    obtain ⟨half, hh⟩ : ∃ k, (n + 1) / 2 = k := ⟨_, rfl⟩
    have hh2 : ((n : Int) + 1) / 2 = (half : Int) := by omega
    rw [hh] at k2 k3
    by_cases h40 : n' < 40
    · have K := Lib.hid (k1 h40)
      clear k1 k2 k3 hh
      go_enter Tryz.func211, Tryz.ntmps211
      go_wp2_with fail
      refine K.out.mono ?_
      rintro e w1 ⟨A1, c1, p1, rfl, s1, v1, b1, n1⟩
      have HV := Lib.hid v1
      clear v1
      go_wp2_with fail
      go_ret
      exact ⟨_, _, _, rfl, s1, HV.out, b1, n1⟩
    · by_cases hhf : n' ≤ half
      · have K := Lib.hid (k2 (by omega) (by omega))
        clear k1 k2 k3 hh
        go_enter Tryz.func211, Tryz.ntmps211
        go_wp2_with fail
        refine K.out.mono ?_
        rintro e w1 ⟨A1, c1, p1, rfl, s1, v1, b1, n1⟩
        have HV := Lib.hid v1
        clear v1
        go_wp2_with fail
        go_ret
        exact ⟨_, _, _, rfl, s1, HV.out, b1, n1⟩
      · have K := Lib.hid (k3 (by omega) (by omega))
        clear k1 k2 k3 hh
        go_enter Tryz.func211, Tryz.ntmps211
        go_wp2_with fail
        refine K.out.mono ?_
        rintro e w1 ⟨A1, c1, p1, rfl, s1, v1, b1, n1⟩
        have HV := Lib.hid v1
        clear v1
        go_wp2_with fail
        go_ret
        exact ⟨_, _, _, rfl, s1, HV.out, b1, n1⟩
  · have hlt : n < n' := by omega
    obtain ⟨k1, k2, k3⟩ := HKEY.out w A' A n' n c' c ys xs h' h (by omega) (by omega)
    obtain ⟨half, hh⟩ : ∃ k, (n' + 1) / 2 = k := ⟨_, rfl⟩
    have hh2 : ((n' : Int) + 1) / 2 = (half : Int) := by omega
    rw [hh] at k2 k3
    rw [Nat.mul_comm (val ys), Nat.add_comm n'] at k1 k2 k3
    by_cases h40 : n < 40
    · have K := Lib.hid (k1 h40)
      clear k1 k2 k3 hh
      go_enter Tryz.func211, Tryz.ntmps211
      go_wp2_with fail
      refine K.out.mono ?_
      rintro e w1 ⟨A1, c1, p1, rfl, s1, v1, b1, n1⟩
      have HV := Lib.hid v1
      clear v1
      go_wp2_with fail
      go_ret
      exact ⟨_, _, _, rfl, s1, HV.out, b1, n1⟩
    · by_cases hhf : n ≤ half
      · have K := Lib.hid (k2 (by omega) (by omega))
        clear k1 k2 k3 hh
        go_enter Tryz.func211, Tryz.ntmps211
        go_wp2_with fail
        refine K.out.mono ?_
        rintro e w1 ⟨A1, c1, p1, rfl, s1, v1, b1, n1⟩
        have HV := Lib.hid v1
        clear v1
        go_wp2_with fail
        go_ret
        exact ⟨_, _, _, rfl, s1, HV.out, b1, n1⟩
      · have K := Lib.hid (k3 (by omega) (by omega))
        clear k1 k2 k3 hh
        go_enter Tryz.func211, Tryz.ntmps211
        go_wp2_with fail
        refine K.out.mono ?_
        rintro e w1 ⟨A1, c1, p1, rfl, s1, v1, b1, n1⟩
        have HV := Lib.hid v1
        clear v1
        go_wp2_with fail
        go_ret
        exact ⟨_, _, _, rfl, s1, HV.out, b1, n1⟩

theorem prod_product_all (N : Nat) (hM : N ≤ 1000001) : ProdOk N := by
  induction N with
  | zero => intro w A A' n n' c c' xs ys h h' hN; omega
  | succ N ih => exact prod_product_step (ih (by omega)) (by omega)

set_option maxHeartbeats 1000000 in
theorem prod_mul {w : World} {A A' : Option Addr} {n n' c c' : Nat} {xs ys : List Int} (h : Sl w A n c xs) (h' : Sl w A' n' c' ys) (hn : n + n' ≤ 1000000) :
    Calls Tryz.prog 156 #[.slice A n c, .slice A' n' c'] w (RetSl (words (val xs * val ys)) w) := by
  have l1 := Lib.hid h.len
  have l2 := Lib.hid h'.len
  have T1 := nat_trim h (by omega)
  have HT1 := Lib.hid T1
  clear T1
  go_enter Tryz.func156, Tryz.ntmps156
  go_wp2_with fail
  refine HT1.out.mono ?_
  rintro e w1 ⟨A1, n1, c1, rfl, s1, b1⟩
  have T2 := Lib.hid (nat_trim (h'.below b1) (by omega))
  go_wp2_with fail
  refine T2.out.mono ?_
  rintro e w2 ⟨A2, n2, c2, rfl, s2, b2⟩
  have hb2 := b1.trans (b2.mono b1.size)
  have e1 : n1 ≤ n := by rw [l1.out]; exact s1.small (val_lt_pow h.us (Nat.le_refl _))
  have e2 : n2 ≤ n' := by rw [l2.out]; exact s2.small (val_lt_pow h'.us (Nat.le_refl _))
  have P := prod_product_all 1000001 (by omega) w2 _ _ _ _ _ _ _ _ (s1.below b2) s2 (by omega)
  have HP := Lib.hid P
  clear P s1 s2 b1 b2 HT1 T2
  go_wp2_with fail
  refine HP.out.mono ?_
  rintro e w3 ⟨A3, c3, p3, rfl, s3, v3, b3, _⟩
  have hb3 := hb2.trans (b3.mono hb2.size)
  have T3 := nat_trim s3 (by omega)
  rw [v3, val_words, val_words] at T3
  have HT3 := Lib.hid T3
  clear T3 s3 v3 b3 HP
  go_wp2_with fail
  refine HT3.out.mono ?_
  rintro e w4 ⟨A4, n4, c4, rfl, s4, b4⟩
  go_wp2_with fail
  go_ret
  exact ⟨_, _, _, rfl, s4, hb3.trans (b4.mono hb3.size)⟩

end Go.Proofs.YthpbaaanbimapaaGreatDoor

namespace Go.Proofs.YthpbaaanbimapaaGreatDoor
set_option maxRecDepth 100000
open Go.RowKit
set_option linter.unusedVariables false
set_option linter.unusedSimpArgs false

/-! ### division by a word -/
/-- where a division by a word stands: the words from k on are divided -/
def WdInv (xs : List Int) (d : Int) (k : Nat) (r : Int) (qs : List Int) : Prop :=
  qs.length = xs.length ∧ Dg W qs ∧ (0 ≤ r ∧ r < d) ∧ valB W (qs.drop k) * d.toNat + r.toNat = valB W (xs.drop k)
theorem wdInv_0 (xs : List Int) {d : Int} (hd : 0 < d) : WdInv xs d xs.length 0 (List.replicate xs.length 0) :=
  ⟨by simp, Dg.zeros W_pos _, by omega, by rw [List.drop_eq_nil_of_le (by simp), List.drop_eq_nil_of_le (Nat.le_refl _)]; simp [valB]⟩
theorem valB_drop_set (b : Nat) (qs : List Int) (k : Nat) (hk : k < qs.length) (x : Int) : valB b ((qs.set k x).drop k) = x.toNat + b * valB b (qs.drop (k + 1)) := by
  rw [valB_drop, getD_set_self _ hk, List.drop_set_of_lt (by omega)]
theorem wd_alg (b q d r x t X r' : Nat) (h : q * d + r = X) (e : r * b + x = t * d + r') : (t + b * q) * d + r' = x + b * X := by
  subst h
  have e1 : (t + b * q) * d = t * d + b * (q * d) := by grind
  have e2 : b * (q * d + r) = b * (q * d) + r * b := by grind
  omega
theorem wd_core (b R X D : Nat) (hX : X < b) (hRD : R < D) : (R * b + X) / D < b ∧ (R * b + X) % D < D ∧ R * b + X = (R * b + X) / D * D + (R * b + X) % D := by
  have h1 : (R + 1) * b ≤ D * b := Nat.mul_le_mul_right b hRD
  rw [Nat.add_mul] at h1
  have hD : 0 < D := by omega
  refine ⟨?_, Nat.mod_lt _ hD, ?_⟩
  · rw [Nat.div_lt_iff_lt_mul hD, Nat.mul_comm b D]; omega
  · rw [Nat.mul_comm (_ / D) D]; exact (Nat.div_add_mod _ D).symm
theorem wd_cast (b R X D : Nat) : ((R : Int) * (b : Int) + (X : Int)) / (D : Int) = (((R * b + X) / D : Nat) : Int) ∧ ((R : Int) * (b : Int) + (X : Int)) % (D : Int) = (((R * b + X) % D : Nat) : Int) := by
  constructor <;> push_cast <;> rfl
theorem wd_digit_b (b : Nat) {r x d : Int} (hr : 0 ≤ r) (hrd : r < d) (hx0 : 0 ≤ x) (hx : x < (b : Int)) :
    (0 ≤ (r * (b : Int) + x) / d ∧ (r * (b : Int) + x) / d < (b : Int)) ∧ (0 ≤ (r * (b : Int) + x) % d ∧ (r * (b : Int) + x) % d < d) ∧ r.toNat * b + x.toNat = ((r * (b : Int) + x) / d).toNat * d.toNat + ((r * (b : Int) + x) % d).toNat := by
  obtain ⟨D, rfl⟩ := Int.eq_ofNat_of_zero_le (show 0 ≤ d by omega)
  obtain ⟨R, rfl⟩ := Int.eq_ofNat_of_zero_le hr
  obtain ⟨X, rfl⟩ := Int.eq_ofNat_of_zero_le hx0
  have c := wd_core b R X D (by omega) (by omega)
  have e := wd_cast b R X D
  rw [e.1, e.2]
  clear e
  generalize (R * b + X) / D = Q at *
  generalize (R * b + X) % D = M at *
  obtain ⟨c1, c2, c3⟩ := c
  refine ⟨⟨by omega, by omega⟩, ⟨by omega, by omega⟩, ?_⟩
  simp only [Int.toNat_natCast]
  exact c3
theorem W_int : ((W : Nat) : Int) = 18446744073709551616 := by unfold W; rfl
theorem wd_digit {r x d : Int} (hr : 0 ≤ r) (hrd : r < d) (hx : U x) :
    U ((r * 18446744073709551616 + x) / d) ∧ (0 ≤ (r * 18446744073709551616 + x) % d ∧ (r * 18446744073709551616 + x) % d < d) ∧ r.toNat * W + x.toNat = ((r * 18446744073709551616 + x) / d).toNat * d.toNat + ((r * 18446744073709551616 + x) % d).toNat := by
  have h := wd_digit_b W hr hrd hx.1 (by rw [W_int]; exact hx.2)
  rw [W_int] at h
  exact h
theorem wdInv_step {xs qs : List Int} {d r t r' : Int} {k : Nat} (h : WdInv xs d (k + 1) r qs) (hk : k < xs.length) (ht : U t) (hr' : 0 ≤ r' ∧ r' < d)
    (e : r.toNat * W + (xs.getD k 0).toNat = t.toNat * d.toNat + r'.toNat) : WdInv xs d k r' (qs.set k t) := by
  obtain ⟨h1, h2, h3, h4⟩ := h
  refine ⟨by rw [List.length_set, h1], h2.set _ ht.1 (by have := ht.2; unfold W; omega), hr', ?_⟩
  rw [valB_drop_set _ _ _ (by omega), valB_drop W xs k]
  exact wd_alg _ _ _ _ _ _ _ _ h4 e
theorem wdInv_end {xs qs : List Int} {d r : Int} (h : WdInv xs d 0 r qs) : val qs = val xs / d.toNat ∧ r.toNat = val xs % d.toNat := by
  obtain ⟨h1, h2, h3, h4⟩ := h
  simp only [List.drop_zero] at h4
  have hd : 0 < d.toNat := by omega
  have hr : r.toNat < d.toNat := by omega
  unfold val
  rw [← h4, Nat.mul_comm]
  exact ⟨by rw [Nat.mul_add_div hd, Nat.div_eq_of_lt hr, Nat.add_zero], by rw [Nat.mul_add_mod, Nat.mod_eq_of_lt hr]⟩

/-! ### digits of a long quotient -/
/-- where a long division stands: the digits from k on are found; us is what is left -/
def DivInv (A V n m k : Nat) (us qs : List Int) : Prop :=
  (us.length = m + n ∧ Dg W us) ∧ (qs.length = m ∧ Dg W qs) ∧ valB W qs * V + valB W us = A ∧ (∀ j, j < k → qs.getD j 0 = 0) ∧ valB W (us.drop k) < V
theorem divInv_0 {A V n m : Nat} {us : List Int} (h1 : us.length = m + n) (h2 : Dg W us) (h3 : valB W us = A) (h4 : A < W ^ m * V) : DivInv A V n m m us (List.replicate m 0) := by
  refine ⟨⟨h1, h2⟩, ⟨by simp, Dg.zeros W_pos _⟩, by rw [valB_zeros]; omega, fun j _ => getD_zeros _ j, ?_⟩
  rw [← valB_div W_pos h2, h3]
  rw [Nat.div_lt_iff_lt_mul (Nat.pow_pos W_pos), Nat.mul_comm]
  exact h4
theorem div_part {A V n m i : Nat} {us qs : List Int} (h : DivInv A V n m (i + 1) us qs) (hV : V ≤ W ^ n) (hi : i < m) :
    ((us.drop i).take (n + 1)).length = n + 1 ∧ valB W (us.drop (i + (n + 1))) = 0 ∧ valB W (us.drop i) = val ((us.drop i).take (n + 1)) ∧ val ((us.drop i).take (n + 1)) < W * V := by
  obtain ⟨⟨h1, h2⟩, h3, h4, h5, h6⟩ := h
  have e0 := valB_split W (us.drop (i + 1)) n
  rw [List.drop_drop] at e0
  have z : valB W (us.drop (i + 1 + n)) = 0 := by
    rcases Nat.eq_zero_or_pos (valB W (us.drop (i + 1 + n))) with z | z
    · exact z
    · exfalso
      have : W ^ n * 1 ≤ W ^ n * valB W (us.drop (i + 1 + n)) := Nat.mul_le_mul_left _ z
      omega
  have e1 := valB_split W (us.drop i) (n + 1)
  rw [List.drop_drop, show i + (n + 1) = i + 1 + n by omega, z, Nat.mul_zero, Nat.add_zero] at e1
  have e2 := valB_drop W us i
  have hu := h2.at_ W_pos i
  refine ⟨by rw [List.length_take, List.length_drop]; omega, by rw [show i + (n + 1) = i + 1 + n by omega]; exact z, e1, ?_⟩
  unfold val
  rw [← e1, e2]
  have : W * (valB W (us.drop (i + 1)) + 1) ≤ W * V := Nat.mul_le_mul_left _ h6
  rw [Nat.mul_add] at this
  omega
/-- part of a list was replaced by a number -/
def Replaced (zs : List Int) (off L v : Nat) (ys : List Int) : Prop :=
  ys.length = zs.length ∧ Dg W ys ∧ ys.take off = zs.take off ∧ ys.drop (off + L) = zs.drop (off + L) ∧ valB W ((ys.drop off).take L) = v
theorem div_alg (q V T p r t D : Nat) {A Q : Nat} (h : q * V + (T + D * p) = A) (hp : p = t * V + r) (hQ : Q = q + D * t) : Q * V + (T + D * r) = A := by
  subst hQ hp h
  grind
theorem divInv_step {A V n m i p : Nat} {us qs ys : List Int} {t : Nat} (h : DivInv A V n m (i + 1) us qs) (hV : V ≤ W ^ n) (hi : i < m) (hp : p = val ((us.drop i).take (n + 1)))
    (ht : t = p / V) (hV0 : 0 < V) (hr : Replaced us i (n + 1) (p % V) ys) : DivInv A V n m i ys (qs.set i (t : Int)) ∧ t < W := by
  have hpart := div_part h hV hi
  obtain ⟨⟨h1, h2⟩, ⟨h3, h3'⟩, h4, h5, h6⟩ := h
  obtain ⟨r1, r2, r3, r4, r5⟩ := hr
  obtain ⟨p1, p2, p3, p4⟩ := hpart
  rw [← hp] at p3 p4
  have htW : t < W := by rw [ht, Nat.div_lt_iff_lt_mul hV0]; exact p4
  have ed : valB W (ys.drop i) = p % V := by
    rw [valB_split W (ys.drop i) (n + 1), r5, List.drop_drop, r4, p2]; omega
  refine ⟨⟨⟨by rw [r1, h1], r2⟩, ⟨by rw [List.length_set, h3], h3'.set _ (by omega) (by omega)⟩, ?_, fun j hj => ?_, ?_⟩, htW⟩
  · have e1 := valB_split W us i
    have e2 := valB_split W ys i
    rw [r3, ed] at e2
    rw [p3] at e1
    have hq := set_val W qs i (by omega) t (h5 i (by omega))
    rw [e2]
    rw [e1] at h4
    have hdm := Nat.div_add_mod p V
    exact div_alg _ _ _ _ _ _ _ h4 (by rw [ht, Nat.mul_comm]; exact hdm.symm) hq
  · rw [getD_set_ne _ (by omega)]
    exact h5 j (by omega)
  · rw [ed]; exact Nat.mod_lt _ hV0
/-- an estimate from the two highest words and the highest one of the divisor is not too small -/
theorem est_ge {ps vs : List Int} {n : Nat} (hp : ps.length = n + 1) (hdp : Dg W ps) (hv : vs.length = n) (hdv : Dg W vs) (hn : 1 ≤ n) (h0 : 0 < (vs.getD (n - 1) 0).toNat) :
    val ps / val vs ≤ ((ps.getD n 0).toNat * W + (ps.getD (n - 1) 0).toNat) / (vs.getD (n - 1) 0).toNat := by
  have e1 : val ps / W ^ (n - 1) = (ps.getD n 0).toNat * W + (ps.getD (n - 1) 0).toNat := by
    unfold val
    rw [valB_div W_pos hdp, valB_drop, show n - 1 + 1 = n by omega, valB_drop, List.drop_eq_nil_of_le (by omega)]
    simp [valB]
    rw [Nat.mul_comm]
    omega
  have e2 : W ^ (n - 1) * (vs.getD (n - 1) 0).toNat ≤ val vs := by
    unfold val
    rw [valB_split W vs (n - 1), valB_drop, show n - 1 + 1 = n by omega, List.drop_eq_nil_of_le (by omega)]
    simp [valB]
  rw [← e1, Nat.div_div_eq_div_mul]
  exact Nat.div_le_div_left e2 (Nat.mul_pos (Nat.pow_pos W_pos) h0)
/-- the divisor and the dividend, shifted -/
theorem norm_div {a b n la s : Nat} (hb : W ^ (n - 1) * 2 ^ (63 - s) ≤ b) (hb2 : b < W ^ (n - 1) * 2 ^ (64 - s)) (hn : 1 ≤ n) (hs : s ≤ 63) (ha : a < W ^ la) (hla : n ≤ la) :
    W ^ (n - 1) ≤ b * 2 ^ s ∧ b * 2 ^ s ≤ W ^ n ∧ b * 2 ^ s < W ^ n ∧ a * 2 ^ s < W ^ (la + 1) ∧ a * 2 ^ s < W ^ (la - n + 1) * (b * 2 ^ s) := by
  have p0 : 0 < 2 ^ s := Nat.two_pow_pos s
  have e1 : W ^ (n - 1) * 2 ^ 63 ≤ b * 2 ^ s := by
    have := Nat.mul_le_mul_right (2 ^ s) hb
    rw [Nat.mul_assoc, ← Nat.pow_add, show 63 - s + s = 63 by omega] at this
    exact this
  have e2 : b * 2 ^ s < W ^ n := by
    have := Nat.mul_lt_mul_of_pos_right hb2 p0
    rw [Nat.mul_assoc, ← Nat.pow_add, show 64 - s + s = 64 by omega, ← W_pow, ← Nat.pow_succ, show (n - 1).succ = n by omega] at this
    exact this
  have hs2 : 2 ^ s ≤ 2 ^ 63 := Nat.pow_le_pow_right (by omega) hs
  have e3 : a * 2 ^ s < W ^ la * 2 ^ 63 := by
    have h1 : a * 2 ^ s < W ^ la * 2 ^ s := Nat.mul_lt_mul_of_pos_right ha p0
    have h2 : W ^ la * 2 ^ s ≤ W ^ la * 2 ^ 63 := Nat.mul_le_mul_left _ hs2
    omega
  refine ⟨Nat.le_trans ?_ e1, Nat.le_of_lt e2, e2, ?_, ?_⟩
  · exact Nat.le_mul_of_pos_right _ (by decide)
  · rw [Nat.pow_succ]
    have : W ^ la * 2 ^ 63 ≤ W ^ la * W := Nat.mul_le_mul_left _ (by decide)
    omega
  · have : W ^ la * 2 ^ 63 ≤ W ^ (la - n + 1) * (b * 2 ^ s) := by
      have h1 := Nat.mul_le_mul_left (W ^ (la - n + 1)) e1
      rw [← Nat.mul_assoc, ← Nat.pow_add, show la - n + 1 + (n - 1) = la by omega] at h1
      exact h1
    omega
theorem div_end {A V n m a b s : Nat} {us qs : List Int} (h : DivInv A V n m 0 us qs) (hA : A = a * 2 ^ s) (hV : V = b * 2 ^ s) : val qs = a / b ∧ val us / 2 ^ s = a % b := by
  obtain ⟨_, _, h4, _, h6⟩ := h
  simp only [List.drop_zero] at h6
  have p0 : 0 < 2 ^ s := Nat.two_pow_pos s
  unfold val
  rw [Nat.mul_comm] at h4
  have hq : valB W qs = A / V := by rw [← h4, Nat.mul_add_div (by omega), Nat.div_eq_of_lt h6, Nat.add_zero]
  have hr : valB W us = A % V := by rw [← h4, Nat.mul_add_mod, Nat.mod_eq_of_lt h6]
  rw [hq, hr, hA, hV, Nat.mul_div_mul_right _ _ p0, Nat.mul_mod_mul_right, Nat.mul_div_cancel _ p0]
  exact ⟨rfl, rfl⟩
/-- the highest word of a normalized list, and how far it can be shifted -/
theorem top_word {xs : List Int} (hd : Dg W xs) {n : Nat} (hl : xs.length = n) (hn : 1 ≤ n) (h0 : xs.getD (n - 1) 0 ≠ 0) :
    ∃ s, s ≤ 63 ∧ blen (xs.getD (n - 1) 0).toNat + s = 64 ∧ W ^ (n - 1) * 2 ^ (63 - s) ≤ val xs ∧ val xs < W ^ (n - 1) * 2 ^ (64 - s) := by
  have ht := hd.at_ W_pos (n - 1)
  generalize e : (xs.getD (n - 1) 0).toNat = x
  have hx0 : 0 < x := by omega
  have hxW : x < 2 ^ 64 := by rw [← W_pow]; omega
  have b1 := blen_le hxW
  have b2 := blen_pos hx0
  have b3 := blen_lt x
  have b4 := blen_self hx0
  refine ⟨64 - blen x, by omega, by omega, ?_, ?_⟩
  all_goals
    have e1 := valB_split W xs (n - 1)
    rw [valB_drop, show n - 1 + 1 = n by omega, List.drop_eq_nil_of_le (by omega), e] at e1
    have hz : valB W [] = 0 := rfl
    rw [hz, Nat.mul_zero, Nat.add_zero] at e1
    have e2 := valB_take_lt W_pos hd (n - 1)
    unfold val
    rw [e1]
  · rw [show 63 - (64 - blen x) = blen x - 1 by omega]
    have := Nat.mul_le_mul_left (W ^ (n - 1)) b4
    omega
  · rw [show 64 - (64 - blen x) = blen x by omega]
    have := Nat.mul_le_mul_left (W ^ (n - 1)) (show x + 1 ≤ 2 ^ blen x by omega)
    rw [Nat.mul_add] at this
    omega
theorem words_len_ge {v k : Nat} (h : W ^ k ≤ v) : k + 1 ≤ (words v).length := by
  rcases Nat.lt_or_ge (words v).length (k + 1) with hl | hl
  · exfalso
    have h1 := valB_lt (words_Dg v)
    have h2 : valB W (words v) = v := val_words v
    have h3 : W ^ (words v).length ≤ W ^ k := Nat.pow_le_pow_right W_pos (by omega)
    omega
  · exact hl

/-! ### roots -/
/-- the root of a number, rounded down -/
def rt : Nat → Nat
  | 0 => 0
  | a + 1 => if (rt a + 1) * (rt a + 1) ≤ a + 1 then rt a + 1 else rt a
end Go.Proofs.YthpbaaanbimapaaGreatDoor
