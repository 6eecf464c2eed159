/-
  What the functions of package prod that add into a list do: a row of a product, a sum. Conditions: the lists read as lists of words, of at most 10^8 words, in memory apart.
-/
import Derived.Test.YtnheefhbchkbdaaGreatDoorMem2
import Derived.Test.YtnheefhbchkbdaaGreatDoorProdMath
namespace Go.Proofs.YtnheefhbchkbdaaGreatDoor
set_option maxRecDepth 100000
open Go.RowKit
set_option linter.unusedVariables false
set_option linter.unusedSimpArgs false

set_option maxHeartbeats 1000000 in
theorem prod_addRow {w : World} {g off L C : Nat} {zs : List Int} {A : Option Addr} {n c : Nat} {xs : List Int} (hr : Row 52 w g zs) (hd : Dg W zs) (ha : SlN g w A n c xs) (m : Int) (hm : U m) (hn : n ≤ 100000000) (hL : n < L) (hfit : off + L ≤ zs.length) (h0 : zs.getD (off + n) 0 = 0) :
    Calls Tryz.prog 92 #[.slice (some ⟨g, off, none⟩) L C, .slice A n c, .int .u64 m] w (Wrote 52 g (Rowed zs xs off n (val xs * m.toNat)) w) := by
  have hlen := ha.sl.len
  have HL := Lib.hid hlen
  have H0 := Lib.hid h0
  have HR0 := Lib.hid hr
  have HD := Lib.hid hd
  have HF := Lib.hid hfit
  clear hlen h0 hr hd hfit
  go_enter Tryz.func92, Tryz.ntmps92
  go_wp2_with fail
  go_loopw [6, 15] (fun cy i wr => ∃ (k : Nat) (c0 : Int) (ys : List Int), k ≤ n ∧ i = .int .i64 k ∧ cy = .int .u64 c0 ∧ RowInv zs xs off m k c0 ys ∧ Row 52 wr g ys ∧ Keep g w wr) (fun _ i _ => n - mes i)
  case atStart => exact ⟨0, 0, _, by omega, rfl, rfl, rowInv_0 HD.out _ _ _, HR0.out, Keep.refl _ _⟩
  case round =>
    obtain ⟨k, c0, ys, hk, rfl, rfl, hz, hr, hb⟩ := hrel
    have hlz : off + k < zs.length := by have := HF.out; omega
    have hly : ys.length = zs.length := hz.1
    have hcell := hr.cell (i := off + k) (by omega)
    rw [hz.2.2.2.2 (off + k) (Nat.le_refl _)] at hcell
    have hfree := hr.free (off + k)
    have huc : U c0 := hz.2.2.1
    by_cases hk2 : k < n
    · obtain ⟨ba, offa, rfl, hba, hac⟩ := (ha.keep hb).at_ hk2
      have hux : U (xs.getD k 0) := ha.sl.u k
      have huz : U (zs.getD (off + k) 0) := by have := HD.out.at_ W_pos (off + k); unfold U; unfold W at this; omega
      obtain ⟨hq, hw⟩ := row_word hux hm huz huc
      have hst := rowInv_step (Dg_U ha.sl.us) hz hlz (U_lo _) hq hw
      have hul : U (lo64 (xs.getD k 0 * m)) := U_lo _
      have M := fun w => limb_mul (xs.getD k 0) m hux hm w
      have AD := fun w => limb_add (lo64 (xs.getD k 0 * m)) (zs.getD (off + k) 0) c0 hul huz huc w
      have hwr : IntKind.u64.wrap (hi64 (xs.getD k 0 * m) + hi64 (lo64 (xs.getD k 0 * m) + zs.getD (off + k) 0 + c0)) = hi64 (xs.getD k 0 * m) + hi64 (lo64 (xs.getD k 0 * m) + zs.getD (off + k) 0 + c0) := by rw [wrapU_lo, lo_U hq]
      generalize xs.getD k 0 = x at *
      generalize zs.getD (off + k) 0 = z at *
      generalize hi64 (x * m) = p at *
      generalize lo64 (x * m) = l at *
      generalize lo64 (l + z + c0) = d at *
      generalize hi64 (l + z + c0) = o at *
      obtain ⟨q, eq⟩ : ∃ q, p + o = q := ⟨_, rfl⟩
      rw [eq] at hst
      have hwq : IntKind.u64.wrap (p + o) = q := hwr.trans eq
      clear hwr eq
      have HM := Lib.hid M
      have HA := Lib.hid AD
      have HS := Lib.hid hst
      have HR := Lib.hid hr
      clear M AD hst hr hz hw hux huz huc hul hq hly hlz
      have hkL : k < L := by omega
      go_wp2_with fail
      refine (HM.out _).mono ?_
      rintro e w' ⟨rfl, rfl⟩
      go_wp2_with fail
      refine (HA.out _).mono ?_
      rintro e w' ⟨rfl, rfl⟩
      go_wp2_with fail
      go_roundw
      case rel => exact ⟨k + 1, _, _, by omega, by go_num, rfl, HS.out, HR.out.set (off + k) _, hb.setCell (off + k) _⟩
      case measure => simp [mes, intOf]; omega
    · obtain rfl : k = n := by omega
      have he := rowInv_end hz HL.out.symm hlz H0.out
      rw [H0.out] at hcell
      have hwr : IntKind.u64.wrap (0 + c0) = c0 := by rw [Int.zero_add, wrapU_lo, lo_U huc]
      have hwr' : IntKind.u64.wrap c0 = c0 := by rw [wrapU_lo, lo_U huc]
      have HE := Lib.hid he
      have HR := Lib.hid hr
      clear hr hz he hly hlz huc
      go_wp2_with fail
      go_end0
      exact ⟨_, rfl, HR.out.set (off + k) _, hb.setCell (off + k) _, HE.out⟩

set_option maxHeartbeats 1000000 in
/-- nothing is added -/
theorem prod_addRow_nil {w : World} {g off L C : Nat} {zs : List Int} {A : Option Addr} {c : Nat} {xs : List Int} (hr : Row 52 w g zs) (hd : Dg W zs) (ha : SlN g w A 0 c xs) (m : Int) (hL : 0 < L) (hfit : off + L ≤ zs.length) :
    Calls Tryz.prog 92 #[.slice (some ⟨g, off, none⟩) L C, .slice A 0 c, .int .u64 m] w (Wrote 52 g (Rowed zs xs off 0 (val xs * m.toNat)) w) := by
  obtain rfl : xs = [] := List.eq_nil_of_length_eq_zero ha.sl.len.symm
  have hcell := hr.cell (i := off) (by omega)
  have hfree := hr.free off
  have huz : U (zs.getD off 0) := by have := hd.at_ W_pos off; unfold U; unfold W at this; omega
  have he : Rowed zs [] off 0 (val [] * m.toNat) (zs.set off (zs.getD off 0)) := by
    refine ⟨by simp, hd.set _ huz.1 (by have := huz.2; unfold W; omega), ?_, fun j hj => getD_set_ne _ (by omega) _⟩
    have := valB_set W zs off (by omega) (zs.getD off 0)
    rw [show val [] = 0 from rfl, Nat.zero_mul, Nat.mul_zero]
    omega
  have hwr : IntKind.u64.wrap (zs.getD off 0 + 0) = zs.getD off 0 := by rw [Int.add_zero, wrapU_lo, lo_U huz]
  have hwr' : IntKind.u64.wrap (zs.getD off 0) = zs.getD off 0 := by rw [wrapU_lo, lo_U huz]
  generalize zs.getD off 0 = z at *
  have HE := Lib.hid he
  have HR := Lib.hid hr
  clear he hr hd huz
  go_enter Tryz.func92, Tryz.ntmps92
  go_wp2_with fail
  go_loopw [6, 15] (fun cy i wr => i = .int .i64 0 ∧ cy = .int .u64 0 ∧ w = wr) (fun _ i _ => mes i)
  case atStart => exact ⟨rfl, rfl, rfl⟩
  case round =>
    obtain ⟨rfl, rfl, rfl⟩ := hrel
    go_wp2_with fail
    go_end0
    exact ⟨_, rfl, HR.out.set off _, (Keep.refl _ _).setCell off _, HE.out⟩

set_option maxHeartbeats 1000000 in
theorem prod_addTo {w : World} {g off L C : Nat} {zs : List Int} {A : Option Addr} {n c : Nat} {xs : List Int} (hr : Row 52 w g zs) (hd : Dg W zs) (ha : SlN g w A n c xs) (hn : L ≤ 100000000) (hL : n ≤ L) (hfit : off + L = zs.length) (h0 : valB W zs + W ^ off * val xs < W ^ zs.length) :
    Calls Tryz.prog 108 #[.slice (some ⟨g, off, none⟩) L C, .slice A n c] w (Wrote 52 g (Intoed zs off (val xs)) w) := by
  have hlen := ha.sl.len
  have HL := Lib.hid hlen
  have H0 := Lib.hid h0
  have HR0 := Lib.hid hr
  have HD := Lib.hid hd
  have HF := Lib.hid hfit
  clear hlen h0 hr hd hfit
  go_enter Tryz.func108, Tryz.ntmps108
  go_wp2_with fail
  go_loopw [4, 9] (fun cy i wr => ∃ (k : Nat) (c0 : Int) (ys : List Int), k ≤ L ∧ i = .int .i64 k ∧ cy = .int .u64 c0 ∧ IntoInv zs xs off k c0 ys ∧ Row 52 wr g ys ∧ Keep g w wr) (fun _ i _ => L - mes i)
  case atStart => exact ⟨0, 0, _, by omega, rfl, rfl, intoInv_0 HD.out _ _, HR0.out, Keep.refl _ _⟩
  case round =>
    obtain ⟨k, c0, ys, hk, rfl, rfl, hz, hr, hb⟩ := hrel
    have hly : ys.length = zs.length := hz.1
    by_cases hk2 : k < L
    · have hlz : off + k < zs.length := by have := HF.out; omega
      have hcell := hr.cell (i := off + k) (by omega)
      rw [hz.2.2.2.2 (off + k) (Nat.le_refl _)] at hcell
      have hfree := hr.free (off + k)
      have hc0 := hz.2.2.1
      have huc : U c0 := by unfold U; omega
      have hux : U (xs.getD k 0) := ha.sl.u k
      have huz : U (zs.getD (off + k) 0) := by have := HD.out.at_ W_pos (off + k); unfold U; unfold W at this; omega
      obtain ⟨hq, hw⟩ := into_word hux huz hc0
      have hst := intoInv_step hz hlz (U_lo _) hq hw
      have AD := fun w => limb_add (zs.getD (off + k) 0) (xs.getD k 0) c0 huz hux huc w
      by_cases hkn : k < n
      · obtain ⟨ba, offa, rfl, hba, hac⟩ := (ha.keep hb).at_ hkn
        generalize xs.getD k 0 = x at *
        generalize zs.getD (off + k) 0 = z at *
        generalize lo64 (z + x + c0) = d at *
        generalize hi64 (z + x + c0) = o at *
        have HA := Lib.hid AD
        have HS := Lib.hid hst
        have HR := Lib.hid hr
        clear AD hst hr hz hw hux huz huc hq hly hlz
        go_wp2_with fail
        refine (HA.out _).mono ?_
        rintro e w' ⟨rfl, rfl⟩
        go_wp2_with fail
        go_roundw
        case rel => exact ⟨k + 1, _, _, by omega, by go_num, rfl, HS.out, HR.out.set (off + k) _, hb.setCell (off + k) _⟩
        case measure => simp [mes, intOf]; omega
      · have hx0 : xs.getD k 0 = 0 := by rw [List.getD_eq_getElem?_getD, List.getElem?_eq_none (by have := HL.out; omega)]; rfl
        rw [hx0] at AD hst
        by_cases hcc : c0 = 0
        · subst hcc
          have hkn' : n ≤ k := by omega
          have hE := Lib.hid (intoInv_stop hz (by have := HL.out; omega))
          have HR := Lib.hid hr
          clear AD hst hr hz hw hux huz huc hq hly hlz hcell hfree hx0
          go_wp2_with fail
          go_end0
          exact ⟨_, rfl, HR.out, hb, hE.out⟩
        · have hcc' : (c0 == 0) = false := by simpa using hcc
          generalize zs.getD (off + k) 0 = z at *
          generalize lo64 (z + 0 + c0) = d at *
          generalize hi64 (z + 0 + c0) = o at *
          have HA := Lib.hid AD
          have HS := Lib.hid hst
          have HR := Lib.hid hr
          clear AD hst hr hz hw hux huz huc hq hly hlz hx0
          go_wp2_with fail
          refine (HA.out _).mono ?_
          rintro e w' ⟨rfl, rfl⟩
          go_wp2_with fail
          go_roundw
          case rel => exact ⟨k + 1, _, _, by omega, by go_num, rfl, HS.out, HR.out.set (off + k) _, hb.setCell (off + k) _⟩
          case measure => simp [mes, intOf]; omega
    · obtain rfl : k = L := by omega
      have he := intoInv_end hz (by have := HL.out; omega) (by have := HF.out; omega) H0.out
      have HE := Lib.hid he
      have HR := Lib.hid hr
      clear hr hz he hly
      go_wp2_with fail
      go_end0
      exact ⟨_, rfl, HR.out, hb, HE.out⟩

set_option maxHeartbeats 1000000 in
theorem prod_rows {w : World} {A A' : Option Addr} {n n' c c' : Nat} {xs ys : List Int} (h : Sl w A n c xs) (h' : Sl w A' n' c' ys) (hn : n ≤ 10000000) (hn' : n' ≤ 10000000) :
    Calls Tryz.prog 98 #[.slice A n c, .slice A' n' c'] w (RetV (n + n') (val xs * val ys) w) := by
  have hlen := h.len
  have hlen' := h'.len
  have HL := Lib.hid hlen
  have HL' := Lib.hid hlen'
  clear hlen hlen'
  have hmk := run_make_row' (P := Tryz.prog) 22 52 (.int .u64 0) 8 Tryz.underlying22 infoW rfl .i64 .i64 (n + n') (by omega) (by omega)
  rw [show ((n + n' : Nat) : Int) = (n : Int) + (n' : Int) by omega] at hmk
  go_enter Tryz.func98, Tryz.ntmps98
  go_wp2_with fail
  go_loopw [16] (fun i wr => ∃ (k : Nat) (zs : List Int), k ≤ n' ∧ i = .int .i64 k ∧ RowsInv xs ys (n + n') k zs ∧ Row 52 wr w.heap.size zs ∧ Below w.heap.size w wr) (fun i _ => n' - mes i)
  case atStart => exact ⟨0, _, by omega, rfl, rowsInv_0 xs ys (n + n'), Row.new w 52 (n + n'), (Below.refl _ _).alloc (Nat.le_refl _) _⟩
  case round =>
    obtain ⟨k, zs, hk, rfl, hz, hr, hb⟩ := hrel
    have hlz : zs.length = n + n' := hz.1
    by_cases hk2 : k < n'
    · obtain ⟨ba, offa, rfl, hba, hac⟩ := (h'.apart' hb (Nat.le_refl _)).at_ hk2
      have hux : U (ys.getD k 0) := h'.u k
      have R := prod_addRow (L := n + n' - k) (C := n + n' - k) hr hz.2.1 (h.apart' hb (Nat.le_refl _)) (ys.getD k 0) hux (by omega) (by omega) (by omega) (off := k) (hz.2.2.2 _ (by have := HL.out; omega))
      have hst := fun us => rowsInv_step (us := us) hz
      rw [← HL.out] at hst
      generalize ys.getD k 0 = x at *
      have HR := Lib.hid R
      have HS := Lib.hid hst
      clear R hst hr hz hlz
      have hne : ¬ (n + n' = k) := by omega
      go_wp2_with fail
      refine HR.out.mono ?_
      rintro e w' ⟨us, rfl, hr2, hk2', ht⟩
      have HT := Lib.hid (HS.out us ht)
      have HR2 := Lib.hid hr2
      have hb2 := Below.keep hb hk2' (Nat.le_refl _) (Nat.le_refl _)
      clear ht hr2 hk2' HR HS
      go_wp2_with fail
      go_roundw
      case rel => exact ⟨k + 1, _, by omega, by go_num, HT.out, HR2.out, hb2⟩
      case measure => simp [mes, intOf]; omega
    · obtain rfl : k = n' := by omega
      have hd : Dg W zs := hz.2.1
      have hv : val zs = val xs * val ys := by
        have := hz.2.2.1
        rw [List.take_of_length_le (by have := HL'.out; omega)] at this
        exact this
      have hsl := hr.sl (c := n + k) (U_Dg hd) (by omega)
      rw [hlz] at hsl
      have HSL := Lib.hid hsl
      have HV := Lib.hid hv
      clear hr hz hlz hsl hv hd
      go_wp2_with fail
      go_ret
      exact ⟨_, _, _, rfl, HSL.out, HV.out, hb, New.some_ (Nat.le_refl _)⟩

set_option maxHeartbeats 1000000 in
theorem prod_word_new {w : World} {A : Option Addr} {n c : Nat} {xs : List Int} (h : Sl w A n c xs) (hn : n ≤ 10000000) (m q : Int) (hm : U m) (hq : U q) :
    Calls Tryz.prog 75 #[.slice A n c, .int .u64 m, .int .u64 q] w (RetSlN (words (val xs * m.toNat + q.toNat)) w) := by
  obtain ⟨w0, hmk, hr0, hb0, _⟩ := make_words w (n + 1) (by omega)
  rw [show ((n + 1 : Nat) : Int) = (n : Int) + 1 by omega] at hmk
  have hr1 := hr0.set 0 q
  have hb1 := hb0.setCell (p := ⟨w.heap.size, 0, none⟩) (Nat.le_refl _) (.int .u64 q)
  have hd1 : Dg W ((List.replicate (n + 1) (0 : Int)).set 0 q) := (Dg.zeros W_pos _).set _ hq.1 (by have := hq.2; unfold W; omega)
  have hv1 : valB W ((List.replicate (n + 1) (0 : Int)).set 0 q) = q.toNat := by
    have := valB_set W (List.replicate (n + 1) (0 : Int)) 0 (by simp) q
    rw [valB_zeros, getD_zeros] at this
    simpa using this
  have hl1 : ((List.replicate (n + 1) (0 : Int)).set 0 q).length = n + 1 := by simp
  have key : Calls Tryz.prog 92 #[.slice (some ⟨w.heap.size, 0, none⟩) (n + 1) (n + 1), .slice A n c, .int .u64 m] (w0.setCell ⟨w.heap.size, 0, none⟩ (.int .u64 q)) (Wrote 52 w.heap.size (Rowed ((List.replicate (n + 1) (0 : Int)).set 0 q) xs 0 n (val xs * m.toNat)) (w0.setCell ⟨w.heap.size, 0, none⟩ (.int .u64 q))) := by
    have ha := h.apart' hb1 (Nat.le_refl _)
    by_cases h0 : n = 0
    · subst h0
      exact prod_addRow_nil hr1 hd1 ha m (by omega) (by omega)
    · exact prod_addRow hr1 hd1 ha m hm (by omega) (by omega) (by omega) (by rw [getD_set_ne _ (by omega)]; exact getD_zeros _ _)
  have hcell := hr0.cell (i := 0) (by simp)
  rw [getD_zeros] at hcell
  have hfree := hr0.free 0
  generalize (List.replicate (n + 1) (0 : Int)).set 0 q = zs1 at *
  have HK := Lib.hid key
  have HB := Lib.hid hb1
  have HV := Lib.hid hv1
  have HL := Lib.hid hl1
  clear key hr0 hr1 hb0 hb1 hd1 hv1 hl1
  go_enter Tryz.func75, Tryz.ntmps75
  go_wp2_with fail
  refine HK.out.mono ?_
  rintro e w1 ⟨us, rfl, hr2, hk2, r1, r2, r3, r4⟩
  have hb2 := Below.keep HB.out hk2 (Nat.le_refl _) (Nat.le_refl _)
  have hsl := hr2.sl (c := n + 1) (U_Dg r2) (by rw [r1, HL.out]; omega)
  rw [r1, HL.out] at hsl
  have hv : val us = val xs * m.toNat + q.toNat := by unfold val at *; rw [r3, HV.out]; simp; omega
  have T := nat_trim_new hsl (by omega)
  rw [hv] at T
  have HT := Lib.hid T
  clear T hv hsl r1 r2 r3 r4 hr2 hk2 HK HB HV HL hcell hfree
  go_wp2_with fail
  refine HT.out.mono ?_
  rintro e w2 ⟨A2, n2, c2, rfl, s2, b2, nw2⟩
  go_wp2_with fail
  go_ret
  exact ⟨_, _, _, rfl, s2, hb2.trans (b2.mono hb2.size), nw2.mono hb2.size⟩

theorem prod_word {w : World} {A : Option Addr} {n c : Nat} {xs : List Int} (h : Sl w A n c xs) (hn : n ≤ 10000000) (m q : Int) (hm : U m) (hq : U q) :
    Calls Tryz.prog 75 #[.slice A n c, .int .u64 m, .int .u64 q] w (RetSl (words (val xs * m.toNat + q.toNat)) w) := (prod_word_new h hn m q hm hq).mono fun _ _ => RetSlN.old

end Go.Proofs.YtnheefhbchkbdaaGreatDoor
