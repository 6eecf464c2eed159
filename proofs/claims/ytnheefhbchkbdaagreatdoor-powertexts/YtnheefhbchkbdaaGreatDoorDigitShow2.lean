/-
  What digit.Show does. Conditions: the slice reads as a list of words, of at most 1000 words.
-/
import Derived.Test.YtnheefhbchkbdaaGreatDoorDigitShow
namespace Go.Proofs.YtnheefhbchkbdaaGreatDoor
set_option maxRecDepth 100000
open Go.RowKit
set_option linter.unusedVariables false
set_option linter.unusedSimpArgs false

/-- block g begins with the integers zs, none frozen -/
def Cl (k : IntKind) (w : World) (g : Nat) (zs : List Int) : Prop := ∀ j, j < zs.length → w.cell? ⟨g, j, none⟩ = some (.int k (zs.getD j 0)) ∧ w.frozen? ⟨g, j, none⟩ = false
theorem Cl.set {k : IntKind} {w : World} {g : Nat} {zs : List Int} (h : Cl k w g zs) (i : Nat) (hi : i < zs.length) (u : Int) : Cl k (w.setCell ⟨g, i, none⟩ (.int k u)) g (zs.set i u) := by
  intro j hj
  rw [List.length_set] at hj
  refine ⟨?_, by rw [World.frozen?_setCell]; exact (h j hj).2⟩
  by_cases e : i = j
  · subst e
    rw [World.cell?_setCell_same _ _ _ (h i hi).1, getD_set_self _ hi]
  · rw [World.cell?_setCell_other _ _ _ _ (by intro e2; injection e2 with _ e3; exact e e3), getD_set_ne _ e]
    exact (h j hj).1
theorem Cl.other {k : IntKind} {w : World} {g : Nat} {zs : List Int} (h : Cl k w g zs) {g' : Nat} (hg : g' ≠ g) (i : Nat) (u : Value) : Cl k (w.setCell ⟨g', i, none⟩ u) g zs := by
  intro j hj
  refine ⟨?_, by rw [World.frozen?_setCell]; exact (h j hj).2⟩
  rw [World.cell?_setCell_other _ _ _ _ (by intro e2; injection e2 with e3; exact hg e3)]
  exact (h j hj).1
theorem Cl.below {k : IntKind} {w w' : World} {g : Nat} {zs : List Int} (h : Cl k w g zs) (hb : Below w.heap.size w w') (hg : g < w.heap.size) : Cl k w' g zs := by
  intro j hj
  exact ⟨(hb.cell (p := ⟨g, j, none⟩) hg).trans (h j hj).1, (hb.frozen (p := ⟨g, j, none⟩) hg).trans (h j hj).2⟩
theorem Own.cl {t : TypeId} {base : Nat} {w : World} {v : Value} {zs : List Int} (h : Own t base w v zs) (h0 : 0 < zs.length) : ∃ g cap, v = .slice (some ⟨g, 0, none⟩) zs.length cap ∧ base ≤ g ∧ g < w.heap.size ∧ Cl .u64 w g zs := by
  have ho := h.out
  obtain ⟨h1, h2⟩ := h
  rcases h2 with ⟨_, e⟩ | ⟨g, cap, cur, rfl, hg, hh, r⟩
  · omega
  · have hlt : g < w.heap.size := (ho.lt g rfl).2
    refine ⟨g, cap, rfl, hg, hlt, fun j hj => ⟨?_, ho.frozenAt j⟩⟩
    rw [ho.cellAt j (by omega)]
    simp [vs, List.getD_eq_getElem?_getD, List.getElem?_eq_getElem hj]
theorem infoB : (Tryz.prog.info? 5).map (fun i => (i.zero, i.size, i.bytes)) = some (some (.int .u8 0), 1, 1) := by kernel_rfl
theorem make_bytes (w : World) (n : Nat) (hn : n ≤ 1000000) : ∃ w1, (Instr.makeSlice 79 (.int .i64 (n : Int)) (.int .i64 (n : Int))).run Tryz.prog w = .ok (.slice (some ⟨w.heap.size, 0, none⟩) n n) w1 ∧ Cl .u8 w1 w.heap.size (List.replicate n 0) ∧ Below w.heap.size w w1 ∧ w1.heap.size = w.heap.size + 1 := by
  refine ⟨_, run_make_row' (P := Tryz.prog) 79 5 (.int .u8 0) 1 Tryz.underlying79 infoB rfl .i64 .i64 n (by omega) (by omega) w, ?_, (Below.refl _ _).alloc (Nat.le_refl _) _, by simp⟩
  intro j hj
  have hj' : j < n := by simpa using hj
  have e : madeCells #[.int .u8 0] n = ((List.replicate n (0 : Int)).map (Value.int .u8)).toArray := by
    apply Array.toList_inj.1
    rw [toList_madeCells_one]
    simp
  have hh := heap_alloc_new w (.cells (madeCells #[.int .u8 0] n) 5)
  rw [e] at hh ⊢
  refine ⟨?_, by unfold World.frozen?; simp only [hh]; simp⟩
  rw [cell_of_row _ w.heap.size j _ 5 (0, 0) hh]
  simp [List.getD_eq_getElem?_getD, hj']

/-- a call that returns a string -/
def RetS (l : List UInt8) (w : World) (e : Ending) (w' : World) : Prop := ∃ s, e = .returned (.string s) ∧ by_ s = l ∧ Below w.heap.size w w'

set_option maxHeartbeats 1000000 in
theorem digit_show {w : World} {A : Option Addr} {n c N : Nat} {xs : List Int} (h : Sl w A n c xs) (hn : n ≤ N) (hN : N ≤ 1000) :
    Calls Tryz.prog 43 #[.slice A n c] w (RetS (txt (val xs)) w) := by
  have SP := digit_split h hn hN
  have HSP := Lib.hid SP
  clear SP h
  generalize val xs = v at *
  go_enter Tryz.func43, Tryz.ntmps43
  go_wp2_with fail
  refine HSP.out.mono ?_
  rintro e w1 ⟨x, gs, rfl, ho, hd, hv, hl0, hl1, b1⟩
  obtain ⟨g1, cap, rfl, hg1, hg1', hcl⟩ := ho.cl hl0
  obtain ⟨m, em⟩ : ∃ m, gs.length = m := ⟨_, rfl⟩
  rw [em] at hl0 hl1
  rw [em]
  obtain ⟨L, eL⟩ : ∃ L, m * 19 = L := ⟨_, rfl⟩
  have hL1 : L ≤ 50000 := by omega
  have hL2 : 19 ≤ L := by omega
  have hL3 : L ≤ 19 * gs.length := by omega
  have hL4 : ∀ k, k < L → k / 19 < m := fun k hk => by omega
  obtain ⟨w2, hmk, hcz, hb2, hs2⟩ := make_bytes w1 L (by omega)
  rw [show (L : Int) = (m : Int) * 19 by omega] at hmk
  have hcl2 := hcl.below hb2 hg1'
  have hbw2 := b1.trans (hb2.mono b1.size)
  have hsi := shInv_0 hd L
  have hne : w1.heap.size ≠ g1 := by omega
  have hbw1 := b1.size
  have HEL := Lib.hid eL
  have HEM := Lib.hid em
  have HD := Lib.hid hd
  have HV := Lib.hid hv
  have HL3 := Lib.hid hL3
  have HL4 := Lib.hid hL4
  have HCL := Lib.hid hcl2
  have HCZ := Lib.hid hcz
  have HSI := Lib.hid hsi
  clear ho hd hv hcl hcl2 hcz hsi hL3 hL4 em eL hs2 b1 hb2 HSP
  go_wp2_with fail
  go_loopw [16] (fun iv wr => ∃ (k : Nat) (hs zs : List Int), k ≤ L ∧ iv = .int .i64 k ∧ Hid (ShInv gs L k hs zs) ∧ Hid (Cl .u64 wr g1 hs) ∧ Hid (Cl .u8 wr w1.heap.size zs) ∧ Below w.heap.size w wr) (fun iv _ => L - (intOf iv).toNat)
  case atStart => exact ⟨0, _, _, by omega, rfl, HSI, HCL, HCZ, hbw2⟩
  case round =>
    clear HSI HCL HCZ hbw2 hmk
    obtain ⟨k, hs, zs, hk, rfl, HSI, HCL, HCZ, hb⟩ := hrel
    by_cases hk2 : k < L
    · obtain ⟨q, eq⟩ : ∃ q, k / 19 = q := ⟨_, rfl⟩
      have hqm : q < m := by rw [← eq]; exact HL4.out k hk2
      obtain ⟨p, ep⟩ : ∃ p, L - 1 - k = p := ⟨_, rfl⟩
      have hp : p < L := by omega
      have hlz : zs.length = L := HSI.out.2.1
      have hlh : hs.length = m := by rw [HSI.out.1.1]; exact HEM.out
      obtain ⟨z, ez⟩ : ∃ z, zs.getD p 0 = z := ⟨_, rfl⟩
      obtain ⟨x, ex⟩ : ∃ x, hs.getD q 0 = x := ⟨_, rfl⟩
      have hc1 := (HCL.out q (by omega)).1
      have hf1 := (HCL.out q (by omega)).2
      have hc2 := (HCZ.out p (by omega)).1
      have hf2 := (HCZ.out p (by omega)).2
      rw [ex] at hc1
      rw [ez] at hc2
      have hxb := HSI.out.1.2.1.at_ B_pos q
      rw [ex] at hxb
      have hxu : 0 ≤ x ∧ x < 18446744073709551616 := by have h9 := B_le_W; have h8 : (W : Int) = 18446744073709551616 := rfl; omega
      obtain ⟨d, ed⟩ : ∃ d : Int, x % 10 = d := ⟨_, rfl⟩
      obtain ⟨t, et⟩ : ∃ t : Int, x / 10 = t := ⟨_, rfl⟩
      have hd0 : 0 ≤ d ∧ d < 10 := by omega
      have hdig := shInv_digit HD.out HSI.out
      have hst := fun v d => shInv_step (v := v) (d := d) HD.out HSI.out hk2 HL3.out
      rw [eq, ex] at hdig
      simp only [eq, ex, ep] at hst
      have hst2 := hst t (48 + d) (by rw [← et]; exact (Int.tdiv_eq_ediv_of_nonneg hxu.1).symm) (by rw [Int.tmod_eq_emod_of_nonneg hxu.1, ed] at hdig; rw [hdig]; omega)
      have hcl2 := (HCZ.out.set p (by omega) (48 + d)).other (g' := g1) hne.symm q (.int .u64 t)
      have hcl1 := (HCL.out.other hne p (.int .u8 (48 + d))).set q (by omega) t
      have hcx := (HCL.out.other hne p (.int .u8 (48 + d)) q (by omega)).1
      rw [ex] at hcx
      have eqi : (k : Int) / 19 = (q : Int) := by omega
      have epi : (L : Int) - 1 - (k : Int) = (p : Int) := by omega
      have HST := Lib.hid hst2
      have HC1 := Lib.hid hcl1
      have HC2 := Lib.hid hcl2
      clear hst hst2 hcl1 hcl2 hdig ez ex eq ep hlz hlh hxb HCL HCZ HSI
      go_wp2_with fail
      go_roundw
      case rel => exact ⟨k + 1, _, _, by omega, by go_num, HST, HC1, HC2, (hb.setCell hbw1 _).setCell hg1 _⟩
      case measure => simp [intOf]; omega
    · obtain rfl : k = L := by omega
      have hlz : zs.length = k := HSI.out.2.1
      have hen := shInv_end HSI.out
      have hlt := valB_lt HD.out
      rw [HEM.out, B_eq, ← Nat.pow_mul] at hlt
      have htr := digs_trim k (valB B gs) (by rw [← HEL.out, Nat.mul_comm]; exact hlt)
      rw [HV.out] at hen htr
      have hcv := run_convert_bytes_arg (P := Tryz.prog) wr 79 5 Tryz.underlying79 Tryz.underlying5 w1.heap.size 0 k k zs hlz (fun i hi => by rw [Nat.zero_add]; exact (HCZ.out i (by omega)).1) 9 Tryz.underlying9
      have hby : by_ (strOfNums zs) = digs k v := by unfold by_; rw [strOfNums_data]; exact hen
      have TL := trim_left (strOfNums zs) wr
      rw [hby, htr] at TL
      generalize strOfNums zs = s0 at *
      have HTL := Lib.hid TL
      clear TL hby hen htr hlt hlz HCZ HCL HSI
      go_wp2_with fail
      refine HTL.out.mono ?_
      rintro e w' ⟨s1, rfl, hs1, rfl⟩
      have htx := txt_of hs1
      by_cases hv0 : by_ s1 = []
      · rw [if_pos hv0] at htx
        obtain rfl : s1 = ⟨#[]⟩ := by rw [← str_by s1, hv0]; rfl
        have HX := Lib.hid htx
        clear htx hv0 hs1 HTL hcv
        go_wp2_with fail
        go_ret
        exact ⟨_, rfl, HX.out, hb⟩
      · rw [if_neg hv0] at htx
        have e3 : ¬ s1.toList = [] := by rw [toList_by]; exact hv0
        have e2 : s1.toList.isEmpty = false := by
          cases h : s1.toList with
          | nil => exact absurd h e3
          | cons => rfl
        have HX := Lib.hid htx
        clear htx hv0 hs1 HTL hcv
        go_wp2_with fail
        go_ret
        exact ⟨_, rfl, HX.out, hb⟩

end Go.Proofs.YtnheefhbchkbdaaGreatDoor
