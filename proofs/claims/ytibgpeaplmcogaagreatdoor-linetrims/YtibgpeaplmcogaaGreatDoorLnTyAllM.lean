/-
  The walks of the laws FbitsTells and FbitsMakes: each returns true for any words, signs and ints. No condition but that they fit their kinds.
-/
import Derived.Test.YtibgpeaplmcogaaGreatDoorProg
import Derived.Test.YtibgpeaplmcogaaGreatDoorLnMemAllM
import Derived.KernelRfl
import Derived.Test.YtibgpeaplmcogaaGreatDoorLnNdAllM
import Derived.Test.YtibgpeaplmcogaaGreatDoorNatMathOneM
import Derived.Test.YtibgpeaplmcogaaGreatDoorQuotMathAllM
import Derived.Test.YtibgpeaplmcogaaGreatDoorRefShiftAllM
import Derived.Laws.BytesArg
import Derived.Test.YtibgpeaplmcogaaGreatDoorGcdLawsAllM
import Derived.Test.YtibgpeaplmcogaaGreatDoorU64AllM
import Derived.Deep.DeepCutAuto
import Derived.Below
namespace Go.Proofs.YtibgpeaplmcogaaGreatDoor
set_option maxRecDepth 100000
open Go.RowKit Go.WideShapes Go.ChangeShapes
set_option linter.unusedVariables false

theorem rat_ty : RatTy Tryz.prog 25 :=
  ⟨⟨_, _, _, Tryz.underlying25, rfl, rfl, rfl, by kernel_rfl, by kernel_rfl, by kernel_rfl, Tryz.underlying4, _, _, Tryz.underlying23, Tryz.underlying23, Tryz.underlying76, Tryz.underlying76, by kernel_rfl, by kernel_rfl⟩, by kernel_rfl⟩
theorem ins_ty : InsTy Tryz.prog 27 :=
  ⟨⟨_, _, _, _, Tryz.underlying27, rfl, rfl, rfl, rfl, by kernel_rfl, by kernel_rfl, by kernel_rfl, Tryz.underlying3, Tryz.underlying3, Tryz.underlying3, rat_ty⟩, by kernel_rfl⟩
section
variable {H : Type} {enc : TypeId × Value → H} {w : World} {base b0 : Nat} {held : Bool} {r : Reach} {v : Value} {d : DataW H} {p : List MemPlace}
theorem arg_rats (hv : Value.okWide Tryz.prog w r b0 47 v) (h : DataW.Trod enc Tryz.prog w base (fun _ => true) held 47 v d p) : ∃ A n c xs, v = .slice A n c ∧ SlR w A n c xs := by
  obtain ⟨A, n, c, rfl⟩ := okWide_slice Tryz.underlying47 hv
  obtain ⟨fuel, hf⟩ := h
  exact open_slr Tryz.underlying47 rat_ty (by simpa [Value.cells] using hf)
theorem arg_inss (hv : Value.okWide Tryz.prog w r b0 22 v) (h : DataW.Trod enc Tryz.prog w base (fun _ => true) held 22 v d p) : ∃ A n c xs, v = .slice A n c ∧ SlP w A n c xs := by
  obtain ⟨A, n, c, rfl⟩ := okWide_slice Tryz.underlying22 hv
  obtain ⟨fuel, hf⟩ := h
  exact open_slp Tryz.underlying22 ins_ty (by simpa [Value.cells] using hf)
theorem arg_ints (hv : Value.okWide Tryz.prog w r b0 38 v) (h : DataW.Trod enc Tryz.prog w base (fun _ => true) held 38 v d p) : ∃ A n c xs, v = .slice A n c ∧ SlZ w A n c xs := by
  obtain ⟨A, n, c, rfl⟩ := okWide_slice Tryz.underlying38 hv
  obtain ⟨fuel, hf⟩ := h
  exact open_slz Tryz.underlying38 Tryz.underlying3 (by kernel_rfl) (by simpa [Value.cells] using hf)
theorem arg_words (hv : Value.okWide Tryz.prog w r b0 23 v) (h : DataW.Trod enc Tryz.prog w base (fun _ => true) held 23 v d p) : ∃ A n c z, v = .slice A n c ∧ Sl w A n c z ∧ n ≤ maxLen := by
  obtain ⟨A, n, c, rfl⟩ := okWide_slice Tryz.underlying23 hv
  obtain ⟨fuel, hf⟩ := h
  exact open_sl Tryz.underlying23 Tryz.underlying76 (by kernel_rfl) (by simpa [Value.cells] using hf)
theorem arg_rat (hv : Value.okWide Tryz.prog w r b0 25 v) (h : DataW.Trod enc Tryz.prog w base (fun _ => true) held 25 v d p) : ∃ q : RQ, v = .agg #[.bool q.s, .slice q.A q.n q.c, .slice q.A' q.n' q.c'] ∧ q.ok w := by
  obtain ⟨cs, rfl, hsz⟩ := okWide_struct Tryz.underlying25 hv
  obtain ⟨fuel, hf⟩ := h
  obtain ⟨q, e, ok⟩ := open_rq rat_ty (by simpa [Value.cells] using hf)
  obtain ⟨l⟩ := cs
  refine ⟨q, ?_, ok⟩
  have e2 : l = q.cells := by simpa using e
  rw [e2]
  rfl
theorem arg_ins (hv : Value.okWide Tryz.prog w r b0 27 v) (h : DataW.Trod enc Tryz.prog w base (fun _ => true) held 27 v d p) : ∃ q : RI, v = .agg #[.int .i64 q.op, .int .i64 q.a, .int .i64 q.b, .bool q.q.s, .slice q.q.A q.q.n q.q.c, .slice q.q.A' q.q.n' q.q.c'] ∧ q.ok w := by
  obtain ⟨cs, rfl, hsz⟩ := okWide_struct Tryz.underlying27 hv
  obtain ⟨fuel, hf⟩ := h
  obtain ⟨q, e, ok⟩ := open_ri ins_ty (by simpa [Value.cells] using hf)
  obtain ⟨l⟩ := cs
  refine ⟨q, ?_, ok⟩
  have e2 : l = q.cells := by simpa using e
  rw [e2]
  rfl
end

end Go.Proofs.YtibgpeaplmcogaaGreatDoor

namespace Go.Proofs.YtibgpeaplmcogaaGreatDoor
set_option maxRecDepth 100000
open Go.RowKit Go.Maps
set_option linter.unusedVariables false
set_option linter.unusedSimpArgs false

/-- a row of ints -/
def ZRow (w : World) (g : Nat) (zs : List Int) : Prop := Box 3 w g (zs.map (Value.int .i64)).toArray
theorem ZRow.set {w : World} {g : Nat} {zs : List Int} (h : ZRow w g zs) (i : Nat) (z : Int) : ZRow (w.setCell ⟨g, i, none⟩ (.int .i64 z)) g (zs.set i z) := by
  unfold ZRow Box at *
  unfold World.setCell
  simp [Array.getElem?_modify, h, List.map_set]
theorem ZRow.cell {w : World} {g : Nat} {zs : List Int} (h : ZRow w g zs) {i : Nat} (hi : i < zs.length) : w.cell? ⟨g, i, none⟩ = some (.int .i64 (zs.getD i 0)) := by
  rw [Box.cell h]
  simp [List.getD, hi]
theorem ZRow.slz {w : World} {g : Nat} {zs : List Int} (h : ZRow w g zs) (hi : ∀ z ∈ zs, I64 z) (hn : zs.length ≤ maxLen) : SlZ w (some ⟨g, 0, none⟩) zs.length zs.length zs := by
  refine ⟨⟨rfl, Nat.le_refl _, hn, fun x hx => ⟨hi x hx, rfl⟩⟩, fun h0 => ⟨g, 0, rfl, Box.lt h, fun j hj i hi2 => ?_⟩⟩
  obtain rfl : i = 0 := by omega
  rw [Nat.zero_add, Nat.mul_one, Nat.add_zero, h.cell hj, List.getElem?_eq_getElem hj]
  simp [List.getD, List.getElem?_eq_getElem hj]
theorem make_ints (w : World) (n : Nat) (hn : n ≤ 1000000) : ∃ w1, (Instr.makeSlice 38 (.int .i64 (n : Int)) (.int .i64 (n : Int))).run Tryz.prog w = .ok (.slice (some ⟨w.heap.size, 0, none⟩) n n) w1 ∧ ZRow w1 w.heap.size (List.replicate n 0) ∧ Below w.heap.size w w1 := by
  refine ⟨_, run_make_row' (P := Tryz.prog) 38 3 (.int .i64 0) 8 Tryz.underlying38 (by kernel_rfl) rfl .i64 .i64 n (by omega) (by omega) w, ?_, below_alloc _ _⟩
  have e : madeCells #[.int .i64 0] n = ((List.replicate n (0 : Int)).map (Value.int .i64)).toArray := by
    apply Array.toList_inj.1
    rw [toList_madeCells_one]
    simp
  unfold ZRow
  rw [e]
  exact Box.new w _ _
theorem setZ_at {zs : List Int} {i : Nat} (hi : i < zs.length) (z : Int) (k : Nat) : (zs.set i z).getD k 0 = if k = i then z else zs.getD k 0 := by
  rw [List.getD_eq_getElem?_getD, List.getElem?_set, List.getD_eq_getElem?_getD]
  by_cases h : i = k
  · subst h; simp [hi]
  · rw [if_neg h, if_neg (fun e => h e.symm)]

set_option maxRecDepth 100000 in
set_option maxHeartbeats 4000000 in
theorem line_newNumbers {w : World} {B : Option Addr} {m d : Nat} {outs : List Int} {mb N : Nat} {th : Int → Bool} {v : Int → Int} (ho : SlZ w B m d outs) (M : MapIs w mb N th v) (hm : m ≤ 65536) :
    Calls Tryz.prog 54 #[.slice B m d, .map (some mb)] w (RetZ (outs.map fun o => if th o = true then v o else -1) w) := by
  have hol : outs.length = m := ho.1.1
  obtain ⟨D, hD, hDm, hM⟩ := M
  obtain ⟨w1, hmk, hz1, b1⟩ := make_ints w m (by omega)
  have hD1 : w1.ownsMap Tryz.prog 3 (plainElem Tryz.prog 3) mb N D := by
    have hlt := hD.lt
    obtain ⟨es, clock, h1, r⟩ := hD
    exact ⟨es, clock, (b1.block mb hlt).trans h1, r⟩
  have hne : mb ≠ w.heap.size := by have := hD.lt; omega
  have HMK := Lib.hid hmk
  have HZ0 := Lib.hid hz1
  have HOL := Lib.hid hol
  have HM := Lib.hid hM
  have HD1 := Lib.hid hD1
  clear hmk hz1 hol hM hD hD1 hDm
  have hmk := HMK.out
  go_enter Tryz.func54, Tryz.ntmps54
  go_wp2_with fail
  clear hmk HMK
  go_loopw [15] (fun iv wr => ∃ (k : Nat) (zs : List Int), k ≤ m ∧ iv = .int .i64 k ∧ Hid (zs.length = m) ∧ Hid (ZRow wr w.heap.size zs) ∧ Hid (wr.ownsMap Tryz.prog 3 (plainElem Tryz.prog 3) mb N D) ∧ Hid (∀ i, i < k → I64 (zs.getD i 0) ∧ zs.getD i 0 = if th (outs.getD i 0) = true then v (outs.getD i 0) else -1) ∧ Below w.heap.size w wr) (fun iv _ => m - mes iv)
  case atStart => exact ⟨0, _, by omega, rfl, Lib.hid (by simp), HZ0, HD1, Lib.hid (fun i hi => absurd hi (by omega)), b1⟩
  case round =>
    clear HZ0 HD1 b1
    obtain ⟨k, zs, hk, rfl, HL, HZ, HD, HT, hb⟩ := hrel
    by_cases hk2 : k < m
    · obtain ⟨b0, off, o, rfl, hlt, hok, hoi, c0⟩ := (ho.below hb).at_ hk2
      have hog : outs.getD k 0 = o := by rw [List.getD_eq_getElem?_getD, hok]; rfl
      obtain ⟨hth, hat0⟩ := HM.out o hoi
      have c1 := HZ.out.cell (i := k) (by have := HL.out; omega)
      have c2 := Box.free HZ.out k
      have hwf := wfI hoi
      have HG := Lib.hid hog
      clear hog hok hoi
      cases hto : th o
      case false =>
        rw [hto] at hth
        have HTO := Lib.hid hto
        have HAT := Lib.hid hat0
        clear hto hat0
        go_wp2_with (at_lookup; refine wpList_lookup_own_ok_int _ rfl _ _ 71 rfl 3 3 .i64 lawI Tryz.underlying71 Tryz.underlying3 (zeroI _) mb N D rfl HD.out (.int .i64 o) _ rfl (keyOf_int_mk Tryz.underlying3 hwf) ?_; intro c9 hat hwc)
        go_roundw
        case rel =>
          refine ⟨k + 1, zs.set k (-1), by omega, by go_num, Lib.hid (by rw [List.length_set]; exact HL.out), Lib.hid (HZ.out.set k _), Lib.hid ?_, Lib.hid (fun i hi => ?_), hb.setCell (p := ⟨w.heap.size, k, none⟩) (Nat.le_refl _) _⟩
          · have hlt9 := HD.out.lt
            obtain ⟨es, clock, h1, r⟩ := HD.out
            exact ⟨es, clock, (((Keep.refl w.heap.size wr).setCell k _).block mb hlt9 hne).trans h1, r⟩
          · rw [setZ_at (by have := HL.out; omega)]
            rcases Nat.lt_or_eq_of_le (Nat.le_of_lt_succ hi) with h9 | h9
            · rw [if_neg (by omega)]; exact HT.out i h9
            · rw [if_pos h9, h9, HG.out, HTO.out]
              rw [if_neg (by decide)]
              exact ⟨by unfold I64; omega, rfl⟩
        case measure => simp [mes, intOf]; omega
      case true =>
        rw [hto] at hth
        have HTO := Lib.hid hto
        have HAT := Lib.hid hat0
        clear hto hat0
        go_wp2_with (at_lookup; refine wpList_lookup_own_ok_int _ rfl _ _ 71 rfl 3 3 .i64 lawI Tryz.underlying71 Tryz.underlying3 (zeroI _) mb N D rfl HD.out (.int .i64 o) _ rfl (keyOf_int_mk Tryz.underlying3 hwf) ?_; intro c9 hat hwc)
        go_roundw
        case rel =>
          refine ⟨k + 1, zs.set k c9, by omega, by go_num, Lib.hid (by rw [List.length_set]; exact HL.out), Lib.hid (HZ.out.set k _), Lib.hid ?_, Lib.hid (fun i hi => ?_), hb.setCell (p := ⟨w.heap.size, k, none⟩) (Nat.le_refl _) _⟩
          · have hlt9 := HD.out.lt
            obtain ⟨es, clock, h1, r⟩ := HD.out
            exact ⟨es, clock, (((Keep.refl w.heap.size wr).setCell k _).block mb hlt9 hne).trans h1, r⟩
          · rw [setZ_at (by have := HL.out; omega)]
            rcases Nat.lt_or_eq_of_le (Nat.le_of_lt_succ hi) with h9 | h9
            · rw [if_neg (by omega)]; exact HT.out i h9
            · rw [if_pos h9, h9, HG.out, HTO.out]
              rw [if_pos rfl]
              have h8 := HAT.out
              rw [HTO.out, if_pos rfl] at h8
              rw [h8] at hat
              injection hat with hat
              injection hat with _ hat
              exact ⟨I64_of_wf hwc, hat.symm⟩
        case measure => simp [mes, intOf]; omega
    · obtain rfl : k = m := by omega
      go_wp2_with fail
      go_ret
      have hzs : zs = outs.map fun o => if th o = true then v o else -1 := by
        apply List.ext_getElem
        · rw [List.length_map, HL.out, HOL.out]
        · intro i h1 h2
          have h3 := (HT.out i (by rw [HL.out] at h1; exact h1)).2
          have h4 : i < outs.length := by rw [HOL.out]; rw [HL.out] at h1; exact h1
          rw [List.getD_eq_getElem?_getD, List.getElem?_eq_getElem h1, List.getD_eq_getElem?_getD, List.getElem?_eq_getElem h4] at h3
          rw [List.getElem_map]
          exact h3
      have hl := HL.out
      refine ⟨_, _, _, rfl, ?_, hb⟩
      rw [← hzs]
      have hsz := HZ.out.slz (fun z hz => by
        obtain ⟨i, hi⟩ := List.mem_iff_getElem?.1 hz
        have hil : i < zs.length := by
          rcases Nat.lt_or_ge i zs.length with h9 | h9
          · exact h9
          · rw [List.getElem?_eq_none h9] at hi; cases hi
        have h3 := (HT.out i (by omega)).1
        rw [List.getD_eq_getElem?_getD, hi] at h3
        exact h3) (by unfold maxLen; omega)
      rw [hl] at hsz
      exact hsz

theorem line_Needs {w : World} {A B : Option Addr} {n c m d : Nat} {xs : List RI} {outs : List Int} (h : SlP w A n c xs) (hs : Shrt 1000 xs) (ho : SlZ w B m d outs) (hn : n ≤ 65536) (hm : m ≤ 65536) (hp : IsProg vq nq (xs.map RI.pi)) :
    Calls Tryz.prog 26 #[.slice A n c, .slice B m d] w fun e w' => ∃ g bs, e = .returned (.slice (some ⟨g, 0, none⟩) n n) ∧ bs.length = n ∧ BRow w' g bs ∧ IsNeed (xs.map RI.pi) outs (fun i => bs.getD i false) ∧ Below w.heap.size w w' := by
  have P1 := line_right h hs (by omega) hn
  rw [(progB_iff _).2 hp] at P1
  have P2 := fun (w1 : World) (hb : Below w.heap.size w w1) => line_needs (h.below hb) (ho.below hb) (prog_ahead hp) hn hm
  have HP1 := Lib.hid P1
  have HP2 := Lib.hid P2
  clear P1 P2
  go_enter Tryz.func26, Tryz.ntmps26
  go_wp2_with fail
  with_reducible refine HP1.out.mono ?_
  rintro _ w1 ⟨rfl, b1⟩
  go_wp2_with fail
  with_reducible refine (HP2.out _ b1).mono ?_
  rintro _ w2 ⟨g, bs, rfl, h1, h2, h3, h4, b2⟩
  go_wp2_with fail
  go_ret
  exact ⟨g, bs, rfl, h2, h3, h4, bb b1 b2⟩
theorem line_Needs_no {w : World} {A B : Option Addr} {n c m d : Nat} {xs : List RI} (h : SlP w A n c xs) (hs : Shrt 1000 xs) (hn : n ≤ 65536) (hp : ¬ IsProg vq nq (xs.map RI.pi)) :
    Calls Tryz.prog 26 #[.slice A n c, .slice B m d] w fun e w' => e = .returned (.slice none 0 0) ∧ Below w.heap.size w w' := by
  have P1 := line_right h hs (by omega) hn
  rw [progB_false hp] at P1
  have HP1 := Lib.hid P1
  clear P1
  go_enter Tryz.func26, Tryz.ntmps26
  go_wp2_with fail
  with_reducible refine HP1.out.mono ?_
  rintro _ w1 ⟨rfl, b1⟩
  go_wp2_with fail
  go_ret
  exact ⟨rfl, b1⟩
theorem line_Trim_no {w : World} {A B : Option Addr} {n c m d : Nat} {xs : List RI} (h : SlP w A n c xs) (hs : Shrt 1000 xs) (hn : n ≤ 65536) (hp : ¬ IsProg vq nq (xs.map RI.pi)) :
    Calls Tryz.prog 27 #[.slice A n c, .slice B m d] w fun e w' => e = .returned (.tuple #[.slice none 0 0, .slice none 0 0]) ∧ Below w.heap.size w w' := by
  have P1 := line_right h hs (by omega) hn
  rw [progB_false hp] at P1
  have HP1 := Lib.hid P1
  clear P1
  go_enter Tryz.func27, Tryz.ntmps27
  go_wp2_with fail
  with_reducible refine HP1.out.mono ?_
  rintro _ w1 ⟨rfl, b1⟩
  go_wp2_with fail
  go_ret2
  exact ⟨rfl, b1⟩

end Go.Proofs.YtibgpeaplmcogaaGreatDoor

namespace Go.Proofs.YtibgpeaplmcogaaGreatDoor
set_option maxRecDepth 100000
set_option linter.unusedVariables false
set_option linter.unusedSimpArgs false

/-! ### the text of a number -/
/-! ### digits of a given number of places -/
/-! ### reading -/
def rd (l : List UInt8) : Nat := l.foldl (fun v c => v * 10 + (c.toNat - 48)) 0
/-! ### lengths and order -/
/-! ### groups of nineteen digits -/
def B : Nat := 10000000000000000000
/-! ### by ten, half word by half word -/
end Go.Proofs.YtibgpeaplmcogaaGreatDoor

namespace Go.Proofs.YtibgpeaplmcogaaGreatDoor
set_option maxRecDepth 100000
open Go.RowKit
set_option linter.unusedVariables false
set_option linter.unusedSimpArgs false

end Go.Proofs.YtibgpeaplmcogaaGreatDoor

namespace Go.Proofs.YtibgpeaplmcogaaGreatDoor
set_option maxRecDepth 100000
open Go.RowKit
set_option linter.unusedVariables false
set_option linter.unusedSimpArgs false

theorem Own.below {t : TypeId} {base : Nat} {w w' : World} {v : Value} {zs : List Int} (h : Own t base w v zs) (hb : Below w.heap.size w w') : Own t base w' v zs := by
  obtain ⟨h1, h2⟩ := h
  refine ⟨h1, ?_⟩
  rcases h2 with h2 | ⟨g, cap, cur, hv, hg, hh, r⟩
  · exact .inl h2
  · have hlt : g < w.heap.size := by
      rcases Nat.lt_or_ge g w.heap.size with h9 | h9
      · exact h9
      · rw [Array.getElem?_eq_none h9] at hh; cases hh
    exact .inr ⟨g, cap, cur, hv, hg, (hb.block g hlt).trans hh, r⟩
theorem Own.lit {w w1 : World} {t : TypeId} (hs : w.heap.size ≤ w1.heap.size) (x : Int) : Own t w.heap.size (w1.alloc (.cells #[.int .u64 x] t)) (.slice (some ⟨w1.heap.size, 0, none⟩) 1 1) [x] :=
  ⟨rfl, .inr ⟨w1.heap.size, 1, _, rfl, hs, heap_alloc_new w1 _, Nat.le_refl _, by unfold maxLen; omega, rfl, rfl⟩⟩
/-- a slice apart from the row that grows -/
theorem Sl.grown {w w1 : World} {o : Obj} {r : Option Nat} {A : Option Addr} {n c : Nat} {xs : List Int} (s : Sl w A n c xs) (hg : (w.alloc o).grownBy w1 r) (hne : ∀ b off, A = some ⟨b, off, none⟩ → some b ≠ r) : Sl w1 A n c xs := by
  refine ⟨s.1, fun h0 => ?_⟩
  obtain ⟨b, off, e, hlt, hc⟩ := s.2 h0
  have hsz := hg.size
  refine ⟨b, off, e, by simp at hsz; omega, fun j hj => ?_⟩
  have hbl := hg.block b (by simp; omega) (hne b off e)
  have e1 : w1.cell? ⟨b, off + j, none⟩ = (w.alloc o).cell? ⟨b, off + j, none⟩ := World.cell?_of_block (a := ⟨b, off + j, none⟩) hbl
  rw [e1, World.cell?_alloc_past _ _ _ hlt]
  exact hc j hj

end Go.Proofs.YtibgpeaplmcogaaGreatDoor

namespace Go.Proofs.YtibgpeaplmcogaaGreatDoor
set_option maxRecDepth 100000
open Go.RowKit
set_option linter.unusedVariables false
set_option linter.unusedSimpArgs false

/-- block g begins with the integers zs, none frozen -/
def Cl (k : IntKind) (w : World) (g : Nat) (zs : List Int) : Prop := ∀ j, j < zs.length → w.cell? ⟨g, j, none⟩ = some (.int k (zs.getD j 0)) ∧ w.frozen? ⟨g, j, none⟩ = false
theorem Cl.set {k : IntKind} {w : World} {g : Nat} {zs : List Int} (h : Cl k w g zs) (i : Nat) (hi : i < zs.length) (u : Int) : Cl k (w.setCell ⟨g, i, none⟩ (.int k u)) g (zs.set i u) := by
  intro j hj
  rw [List.length_set] at hj
  refine ⟨?_, by rw [World.frozen?_setCell]; exact (h j hj).2⟩
  by_cases e : i = j
  · subst e
    rw [World.cell?_setCell_same _ _ _ (h i hi).1, getD_set_self _ hi]
  · rw [World.cell?_setCell_other _ _ _ _ (by intro e2; injection e2 with _ e3; exact e e3), getD_set_ne _ e]
    exact (h j hj).1
theorem Cl.below {k : IntKind} {w w' : World} {g : Nat} {zs : List Int} (h : Cl k w g zs) (hb : Below w.heap.size w w') (hg : g < w.heap.size) : Cl k w' g zs := by
  intro j hj
  exact ⟨(hb.cell (p := ⟨g, j, none⟩) hg).trans (h j hj).1, (hb.frozen (p := ⟨g, j, none⟩) hg).trans (h j hj).2⟩
end Go.Proofs.YtibgpeaplmcogaaGreatDoor

namespace Go.Proofs.YtibgpeaplmcogaaGreatDoor
set_option maxRecDepth 100000
open Go.RowKit
set_option linter.unusedVariables false
set_option linter.unusedSimpArgs false

/-- the digits so far -/
def DigTo (s : ByteArray) (k : Nat) : Prop := ∀ j (hj : j < s.size), j < k → 48 ≤ s[j].toNat ∧ s[j].toNat ≤ 57
theorem DigTo.step {s : ByteArray} {k : Nat} (h : DigTo s k) (hk : k < s.size) (h1 : ¬ s[k].toNat < 48) (h2 : ¬ 57 < s[k].toNat) : DigTo s (k + 1) := fun j hj hjk => by
  by_cases e : j = k
  · subst e; omega
  · exact h j hj (by omega)


end Go.Proofs.YtibgpeaplmcogaaGreatDoor

namespace Go.Proofs.YtibgpeaplmcogaaGreatDoor
set_option maxRecDepth 100000
open Go.RowKit
set_option linter.unusedVariables false
set_option linter.unusedSimpArgs false

/-- whether a text is a number's -/
def numB (l : List UInt8) : Bool := !l.isEmpty && (!(l.head? == some 48) || l == [48]) && l.all fun c => decide (48 ≤ c.toNat ∧ c.toNat ≤ 57)
/-- the number that is read, and the error's number -/
def rdv (l : List UInt8) : Nat := if decide (l.length ≤ 400) && numB l then rd l else 0
def rde (l : List UInt8) : Int := if 400 < l.length then 3 else if numB l then 0 else 2
/-- a call that returns the number of a text, or why it is none -/
def RetRd (l : List UInt8) (w : World) (e : Ending) (w' : World) : Prop := ∃ A n c, e = .returned (.tuple #[.slice A n c, .int .i64 (rde l)]) ∧ Sl w' A n c (words (rdv l)) ∧ Below w.heap.size w w'
theorem RetRd.of {l : List UInt8} {w w' : World} {A : Option Addr} {n c v : Nat} {x : Int} (h : rdv l = v ∧ rde l = x) (s : Sl w' A n c (words v)) (b : Below w.heap.size w w') : RetRd l w (.returned (.tuple #[.slice A n c, .int .i64 x])) w' := by
  obtain ⟨rfl, rfl⟩ := h
  exact ⟨A, n, c, rfl, s, b⟩
end Go.Proofs.YtibgpeaplmcogaaGreatDoor

namespace Go.Proofs.YtibgpeaplmcogaaGreatDoor
set_option maxRecDepth 100000
set_option linter.unusedVariables false
set_option linter.unusedSimpArgs false

/-- what precedes the first / and what follows it -/
def above (l : List UInt8) : List UInt8 := l.takeWhile (· != 47)
def behind (l : List UInt8) : List UInt8 := if l.contains 47 then (l.dropWhile (· != 47)).drop 1 else [49]
end Go.Proofs.YtibgpeaplmcogaaGreatDoor

namespace Go.Proofs.YtibgpeaplmcogaaGreatDoor
set_option maxRecDepth 100000
open Go.RowKit
set_option linter.unusedVariables false
set_option linter.unusedSimpArgs false

end Go.Proofs.YtibgpeaplmcogaaGreatDoor

namespace Go.Proofs.YtibgpeaplmcogaaGreatDoor
set_option maxRecDepth 100000
open Go.RowKit
set_option linter.unusedVariables false
set_option linter.unusedSimpArgs false

end Go.Proofs.YtibgpeaplmcogaaGreatDoor

namespace Go.Proofs.YtibgpeaplmcogaaGreatDoor
set_option maxRecDepth 100000
open Go.RowKit
set_option linter.unusedVariables false
set_option linter.unusedSimpArgs false

theorem news_new (w : World) (cs : Array Value) (t : TypeId) : ∀ (j : Nat) (u : Value), cs.toList[j]? = some u → (w.alloc (.cells cs t)).cell? ((⟨w.heap.size, 0, none⟩ : Addr).add j) = some u := by
  intro j u hj
  have e1 : (⟨w.heap.size, 0, none⟩ : Addr).add j = ⟨w.heap.size, j, none⟩ := by
    unfold Addr.add; split
    · rename_i h9; rw [h9]
    · rw [Nat.zero_add]
  rw [e1, cell_of_row _ w.heap.size j cs t (0, 0) (heap_alloc_new w _)]
  simpa using hj
theorem OwnC.base {k : Nat} {V : Type} {cells : V → List Value} {t : TypeId} {B : Nat} {w : World} {v : Value} {xs : List V} (h : OwnC k cells t B w v xs) : ∀ g, v.ownBlock = some g → B ≤ g := by
  intro g hg
  rcases h.2 with ⟨rfl, rfl⟩ | ⟨g', cap, cur, rfl, h1, _⟩
  · cases hg
  · have e : g' = g := by simpa [Value.ownBlock] using hg
    rw [← e]; exact h1
theorem SlQ.tail {w : World} {b off l f : Nat} {Xs : List Rat} (h : SlQ w (some ⟨b, off, none⟩) l f Xs) (h0 : 0 < l) : SlQ w (some ⟨b, off + 3, none⟩) (l - 1) (f - 1) (Xs.drop 1) := by
  obtain ⟨xs, h1, h2, h3⟩ := h
  have hl := h1.1.1
  obtain ⟨b', off', e, hlt, hc⟩ := h1.2 h0
  injection e with e
  injection e with e1 e2
  subst e1 e2
  refine ⟨xs.drop 1, ⟨⟨by rw [List.length_drop, hl], by have := h1.1.2.1; omega, by have := h1.1.2.2.1; omega, fun x hx => h1.1.2.2.2 x (List.mem_of_mem_drop hx)⟩, fun h9 => ⟨b, off + 3, rfl, hlt, fun j hj i hi => ?_⟩⟩, by rw [List.length_drop, List.length_drop, h2], fun j x hx => ?_⟩
  · have := hc (j + 1) (by omega) i hi
    rw [List.getElem?_drop, Nat.add_comm 1 j, ← this]
    congr 2
    omega
  · rw [List.getElem?_drop] at hx
    have := h3 _ x hx
    rw [List.getD_eq_getElem?_getD, List.getElem?_drop, ← List.getD_eq_getElem?_getD]
    exact this

end Go.Proofs.YtibgpeaplmcogaaGreatDoor

namespace Go.Proofs.YtibgpeaplmcogaaGreatDoor
set_option maxRecDepth 100000
open Go.RowKit Go.Maps
set_option linter.unusedVariables false
set_option linter.unusedSimpArgs false

theorem infoP : (Tryz.prog.info? 27).map (fun i => (i.zero, i.size, i.bytes)) = some (some (.agg #[.int .i64 0, .int .i64 0, .int .i64 0, .bool false, .slice none 0 0, .slice none 0 0]), 6, 80) := by kernel_rfl
theorem zeroP : ∀ u ∈ (Value.agg #[.int .i64 0, .int .i64 0, .int .i64 0, .bool false, .slice none 0 0, .slice none 0 0]).cells.toList, NoW u := by
  intro u hu
  have e : (Value.agg #[.int .i64 0, .int .i64 0, .int .i64 0, .bool false, .slice none 0 0, .slice none 0 0]).cells.toList = [.int .i64 0, .int .i64 0, .int .i64 0, .bool false, .slice none 0 0, .slice none 0 0] := rfl
  rw [e] at hu
  simp only [List.mem_cons, List.not_mem_nil, or_false] at hu
  rcases hu with rfl | rfl | rfl | rfl | rfl | rfl
  · exact NoW_i64 _
  · exact NoW_i64 _
  · exact NoW_i64 _
  · exact NoW_bool _
  · exact NoW_slice _ _ _
  · exact NoW_slice _ _ _
/-- a row of instructions that the call made -/
def OwnP (B : Nat) (w : World) (v : Value) (ys : List RI) : Prop := OwnC 6 RI.cells 27 B w v ys ∧ ∀ y ∈ ys, y.ok w
theorem OwnP.below {B : Nat} {w w' : World} {v : Value} {ys : List RI} (h : OwnP B w v ys) (hb : Below w.heap.size w w') : OwnP B w' v ys := ⟨h.1.below hb, fun y hy => RI.below (h.2 y hy) hb⟩
theorem OwnP.slp {B : Nat} {w : World} {A : Option Addr} {n c : Nat} {ys : List RI} (h : OwnP B w (.slice A n c) ys) : SlP w A n c ys := h.1.slc h.2
/-- a map has been stored into -/
theorem OwnP.mapped {B : Nat} {w w' : World} {v : Value} {ys : List RI} {mb : Nat} (h : OwnP B w v ys) (hg : w.grownBy w' (some mb)) (hm : ∃ es clock, w.heap[mb]? = some (.map es clock)) (hn : NoWAt w mb) : OwnP B w' v ys := by
  refine ⟨⟨h.1.1, ?_⟩, fun y hy => RI.grownC (h.2 y hy) hg (fun g e => by cases e; exact hn)⟩
  rcases h.1.2 with h2 | ⟨g, cap, cur, hv, hg2, hh, r⟩
  · exact .inl h2
  · have hlt : g < w.heap.size := by
      rcases Nat.lt_or_ge g w.heap.size with h9 | h9
      · exact h9
      · rw [Array.getElem?_eq_none h9] at hh; cases hh
    refine .inr ⟨g, cap, cur, hv, hg2, (hg.block g hlt (fun e => ?_)).trans hh, r⟩
    cases e
    obtain ⟨es, clock, h8⟩ := hm
    rw [h8] at hh
    cases hh
theorem OwnP.append {B : Nat} {w w' : World} {v v' : Value} {ys : List RI} {y : RI} {o : Obj} (h : OwnP B w v ys) (hy : y.ok w) (ho : OwnC 6 RI.cells 27 B w' v' (ys ++ [y])) (hg : (w.alloc o).grownBy w' v.ownBlock) : OwnP B w' v' (ys ++ [y]) := by
  have ba := below_alloc w o
  have hn := (h.1.below ba).noW
  refine ⟨ho, fun x hx => ?_⟩
  rcases List.mem_append.1 hx with hx | hx
  · exact RI.grownC (RI.below (h.2 x hx) ba) hg hn
  · rw [List.mem_singleton.1 hx]
    exact RI.grownC (RI.below hy ba) hg hn
theorem ownC_block {w : World} {B : Nat} {v : Value} {ys : List RI} (h : OwnC 6 RI.cells 27 B w v ys) : ∀ g, v.ownBlock = some g → ∃ cur, w.heap[g]? = some (.cells cur 27 (0, 0)) := by
  intro g hg
  rcases h.2 with ⟨rfl, rfl⟩ | ⟨g', cap, cur, rfl, _, h2, _⟩
  · cases hg
  · have e : g' = g := by simpa [Value.ownBlock] using hg
    subst e
    exact ⟨cur, h2⟩
/-- which numbers stand in the map after j instructions, and which new ones -/
def thM (mk : Nat → Bool) (j : Nat) (z : Int) : Bool := decide (0 ≤ z ∧ z < (j : Int)) && mk z.toNat
def vM (mk : Nat → Bool) (z : Int) : Int := (cnt mk z.toNat : Int)
theorem thM_no {mk : Nat → Bool} {j : Nat} (h : mk j = false) (z : Int) : thM mk j z = thM mk (j + 1) z := by
  unfold thM
  by_cases e : z = (j : Int)
  · subst e
    rw [show ((j : Int)).toNat = j by omega, h, Bool.and_false, Bool.and_false]
  · congr 1
    rw [decide_eq_decide]
    omega
theorem thM_yes {mk : Nat → Bool} {j : Nat} (h : mk j = true) (z : Int) : (thM mk j z || decide (z = (j : Int))) = thM mk (j + 1) z := by
  unfold thM
  by_cases e : z = (j : Int)
  · subst e
    rw [show ((j : Int)).toNat = j by omega, h, decide_eq_true (rfl : (j : Int) = j), Bool.or_true, decide_eq_true (by omega : (0 : Int) ≤ (j : Int) ∧ (j : Int) < ((j + 1 : Nat) : Int))]
    rfl
  · rw [decide_eq_false e, Bool.or_false]
    congr 1
    rw [decide_eq_decide]
    omega
/-- what is left, and the new numbers -/
def RetTr (l : List PI) (outs : List Int) (N : Nat) (w : World) (e : Ending) (w' : World) : Prop := ∃ mk, IsNeed l outs mk ∧ ∃ A1 n1 c1 ys A2 n2 c2, e = .returned (.tuple #[.slice A1 n1 c1, .slice A2 n2 c2]) ∧
  SlP w' A1 n1 c1 ys ∧ ys.map RI.pi = trimL l mk ∧ Shrt N ys ∧ SlZ w' A2 n2 c2 (trimO l mk outs) ∧ Below w.heap.size w w'

set_option maxRecDepth 100000 in
set_option maxHeartbeats 4000000 in
theorem line_Trim {w : World} {A B : Option Addr} {n c m d N : Nat} {xs : List RI} {outs : List Int} (h : SlP w A n c xs) (hs : Shrt N xs) (hN : N ≤ 1000) (ho : SlZ w B m d outs) (hn : n ≤ 300) (hm : m ≤ 65536) (hp : IsProg vq nq (xs.map RI.pi)) :
    Calls Tryz.prog 27 #[.slice A n c, .slice B m d] w (RetTr (xs.map RI.pi) outs N w) := by
  have hlen : (xs.map RI.pi).length = n := by rw [List.length_map]; exact h.1.1
  have P1 := line_right h hs hN (by omega)
  rw [(progB_iff _).2 hp] at P1
  have P2 := fun (w1 : World) (hb : Below w.heap.size w w1) => line_needs (h.below hb) (ho.below hb) (prog_ahead hp) (by omega) hm
  have HP1 := Lib.hid P1
  have HP2 := Lib.hid P2
  have HL := Lib.hid hlen
  have HPR := Lib.hid hp
  have HSH := Lib.hid hs
  have hmm := @run_makeMap Tryz.prog
  obtain ⟨i0, hi0, hz0, hz1, hz2⟩ := info_parts infoP
  clear P1 P2 hlen hp hs
  go_enter Tryz.func27, Tryz.ntmps27
  go_wp2_with fail
  with_reducible refine HP1.out.mono ?_
  rintro _ w1 ⟨rfl, b1⟩
  obtain ⟨V, hV⟩ : ∃ V, w1.alloc (.map #[] 0) = V := ⟨_, rfl⟩
  have M0 := MapIs.made w1
  have bV := below_alloc w1 (.map #[] 0)
  rw [hV] at M0 bV
  have HV := Lib.hid hV
  clear hV
  go_wp2_with fail
  rw [HV.out]
  with_reducible refine (HP2.out _ (bb b1 bV)).mono ?_
  rintro _ w2 ⟨g, bs, rfl, hg, hbl, hbr, hnd, b2⟩
  clear HP1 HP2 hmm HV
  have y2 : Below w.heap.size w w2 := bb b1 (bb bV b2)
  have M2 := M0.below b2
  obtain ⟨mb, hmb⟩ : ∃ mb, w1.heap.size = mb := ⟨_, rfl⟩
  have hw1 := b1.size
  rw [hmb] at M2 hw1
  simp only [hmb]
  obtain ⟨mk, hmk⟩ : ∃ mk : Nat → Bool, mk = fun i => bs.getD i false := ⟨_, rfl⟩
  rw [← hmk] at hnd
  have HMK := Lib.hid hmk
  have HND := Lib.hid hnd
  have HBR := Lib.hid hbr
  have HBL := Lib.hid hbl
  have HM2 : Hid (MapIs w2 mb 0 (thM mk 0) (vM mk)) := Lib.hid (M2.congr (fun z => by unfold thM; rw [decide_eq_false (by omega)]; rfl) (fun z hz => by cases hz))
  clear hmk hnd hbr hbl M2 M0 hmb b1 bV b2
  go_wp2_with fail
  go_loopw [6, 18] (fun kv iv wr => ∃ (j : Nat) (ys : List RI), j ≤ n ∧ iv = .int .i64 j ∧ Hid (OwnP w.heap.size wr kv ys) ∧ Hid (ys.map RI.pi = trimTo (fun i => ren mk ((xs.map RI.pi).getD i PI.nil)) mk j) ∧ Hid (Shrt N ys) ∧ Hid (BRow wr g bs) ∧ Hid (MapIs wr mb j (thM mk j) (vM mk)) ∧ Below w.heap.size w wr) (fun _ iv _ => n - mes iv)
  case atStart => exact ⟨0, [], by omega, rfl, Lib.hid ⟨OwnC.nil, by simp⟩, Lib.hid rfl, Lib.hid (fun x hx => by simp at hx), HBR, HM2, y2⟩
  case round =>
    clear HBR HM2 y2
    obtain ⟨j, ys, hj, rfl, HK, HT, HS, HB, HM, hb⟩ := hrel
    have hyl : ys.length = cnt mk j := by
      have h9 := congrArg List.length HT.out
      rw [List.length_map, trimTo_len] at h9
      exact h9
    have hcj := cnt_le mk j
    obtain ⟨A', c', ek, hcap, hcm⟩ := HK.out.1.form
    subst ek
    by_cases hj2 : j < n
    · have kb := HB.out.cell (i := j) (by have := HBL.out; omega)
      have hbj : bs.getD j false = mk j := by rw [HMK.out]
      rw [hbj] at kb
      have HBJ := Lib.hid hbj
      clear hbj
      cases hmj : mk j
      case false =>
        rw [hmj] at kb
        have HMJ := Lib.hid hmj
        have HYL := Lib.hid hyl
        clear hmj hyl
        go_wp2_with fail
        go_roundw
        case rel => exact ⟨j + 1, ys, by omega, by go_num, HK, Lib.hid (by unfold trimTo; rw [HMJ.out, if_neg (by decide)]; exact HT.out), HS, HB, Lib.hid ((HM.out.congr (thM_no HMJ.out) (fun _ _ => rfl)).mono1), hb⟩
        case measure => simp [mes, intOf]; omega
      case true =>
        rw [hmj] at kb
        obtain ⟨b0, off, x, rfl, hlt, hxk, hok, c0, c1, c2, c3, c4, c5⟩ := (h.below hb).at_ hj2
        have hp9 := pi_at hxk
        have hfit : fits vq nq x.pi j := by rw [← hp9]; exact HPR.out.1 j (by rw [HL.out]; exact hj2)
        obtain ⟨hx1, hx2⟩ := HSH.out x (mem_at hxk)
        obtain ⟨D, hD, hDm, hM⟩ := HM.out
        have hlt0 : b0 < w.heap.size := by
          obtain ⟨b8, o8, e8, hlt8, _⟩ := h.2 (by omega)
          injection e8 with e8
          injection e8 with e8
          omega
        have hmbw := HM.out.lt
        have hgw := HB.out.lt
        have hgm : g ≠ mb := by
          intro e
          obtain ⟨es, clock, h1, _⟩ := hD
          have h2 : Box 4 wr g _ := HB.out
          unfold Box at h2
          rw [e, h1] at h2
          cases h2
        have hmap : ∃ es clock, wr.heap[mb]? = some (.map es clock) := by
          obtain ⟨es, clock, h1, _⟩ := hD
          exact ⟨es, clock, h1⟩
        have hnw := HM.out.noW
        have HD := Lib.hid hD
        have HDM := Lib.hid hDm
        have HMM := Lib.hid hM
        have HMJ := Lib.hid hmj
        have HX := Lib.hid (And.intro hp9 (And.intro hfit (And.intro hx1 hx2)))
        have HXN := Lib.hid (And.intro hok.2.2.2.1.len hok.2.2.2.2.1.len)
        have HOK := Lib.hid hok
        have HYL := Lib.hid hyl
        have HMAP := Lib.hid hmap
        have HNW := Lib.hid hnw
        have hI1 : I64 (j : Int) := by unfold I64; omega
        have hI2 : I64 ((ys.length : Nat) : Int) := by unfold I64; omega
        have hcell : ∀ w3, wr.grownBy w3 (some mb) → w3.cell? ⟨b0, off + j * 6, none⟩ = some (.int .i64 x.op) ∧ w3.cell? ⟨b0, off + j * 6 + 1, none⟩ = some (.int .i64 x.a) ∧ w3.cell? ⟨b0, off + j * 6 + 2, none⟩ = some (.int .i64 x.b) ∧ w3.cell? ⟨b0, off + j * 6 + 3, none⟩ = some (.bool x.q.s) ∧ w3.cell? ⟨b0, off + j * 6 + 4, none⟩ = some (.slice x.q.A x.q.n x.q.c) ∧ w3.cell? ⟨b0, off + j * 6 + 5, none⟩ = some (.slice x.q.A' x.q.n' x.q.c') := fun w3 hg3 => by
          have hk := fun i => World.cell?_of_block (a := ⟨b0, i, none⟩) (hg3.block b0 hlt (by intro e; injection e with e; omega))
          exact ⟨(hk _).trans c0, (hk _).trans c1, (hk _).trans c2, (hk _).trans c3, (hk _).trans c4, (hk _).trans c5⟩
        have HC := Lib.hid hcell
        clear hD hDm hM hmj hp9 hfit hx1 hx2 hok hxk hyl hmap hnw hcell c0 c1 c2 c3 c4 c5
        go_wp2_with (at_mapUpdate; refine wpList_mapUpdate_own _ rfl _ _ _ 71 rfl 3 3 lawI Tryz.underlying71 _ mb j D rfl HD.out (by unfold maxLen; omega) (.int .i64 (j : Int)) (.int .i64 ((ys.length : Nat) : Int)) _ rfl rfl (keyOf_int_mk Tryz.underlying3 (wfI hI1)) _ [] (plainElem_int Tryz.underlying3 (wfI hI2)) ?_; intro w3 hown3 hgrow3; obtain ⟨d0, d1, d2, d3, d4, d5⟩ := HC.out w3 hgrow3)
        have M3 : MapIs w3 mb (j + 1) (thM mk (j + 1)) (vM mk) := (MapIs.put HDM.out HMM.out hI1 hown3).congr (thM_yes HMJ.out) (fun z hz => by
          by_cases e : z = (j : Int)
          · subst e
            rw [if_pos rfl, HYL.out]
            unfold vM
            rw [show ((j : Int)).toNat = j by omega]
          · rw [if_neg e])
        have hb3 : Below w.heap.size w w3 := hb.grown hgrow3 hb.size (fun k e => by cases e; exact hw1)
        have K3 := HK.out.mapped hgrow3 HMAP.out HNW.out
        have B3 : BRow w3 g bs := (hgrow3.block g hgw (by intro e; injection e with e; exact hgm e)).trans HB.out
        have hok3 : x.ok w3 := RI.grownC HOK.out hgrow3 (fun g9 e => by cases e; exact HNW.out)
        have RN := line_renum hok3 M3 HX.out.2.1 (by omega) (by have := HX.out.2.2.1; omega) (by have := HX.out.2.2.2; omega) (mk := mk) (fun t ht => by
          have hu := need_uses (prog_ahead HPR.out) HND.out (i := j) (by rw [HL.out]; exact hj2) HMJ.out (j := (t : Int)) (by rw [HX.out.1]; exact ht)
          obtain ⟨u1, u2, u3⟩ := hu
          rw [show ((t : Int)).toNat = t by omega] at u3
          refine ⟨?_, ?_⟩
          · unfold thM
            rw [decide_eq_true (by omega : (0 : Int) ≤ (t : Int) ∧ (t : Int) < ((j + 1 : Nat) : Int)), show ((t : Int)).toNat = t by omega, u3]
            rfl
          · unfold vM
            rw [show ((t : Int)).toNat = t by omega])
        have HRN := Lib.hid RN
        have HM3 := Lib.hid M3
        have HK3 := Lib.hid K3
        have HB3 := Lib.hid B3
        clear RN M3 K3 B3 hok3 hown3 hgrow3 HC HD HDM HMM HMAP HNW HOK HK HB d0 d1 d2 d3 d4 d5
        with_reducible refine HRN.out.mono ?_
        rintro _ w4 ⟨y, rfl, yok, ypi, b4⟩
        have hb4 : Below w.heap.size w w4 := bb hb3 b4
        have K4 := HK3.out.below b4
        have HK4 := Lib.hid K4
        have HYO := Lib.hid yok
        have HYP := Lib.hid ypi
        clear K4 yok ypi HRN HK3
        go_wp2_with (at_builtin; refine wpList_append_C _ rfl _ _ 22 rfl w.heap.size 27 i0 _ 80 Tryz.underlying22 hi0 hz0 hz1 hz2 rfl (by decide) zeroP _ ys rfl (HK4.out.1.below (below_alloc _ _)) ⟨w4.heap.size, 0, none⟩ 1 y rfl rfl ?c1 (ri_one _) (ri_noW _) ?c3 ?c4 ?c5 ?_)
        case c1 => exact news_new w4 _ _
        case c3 => have := HYL.out; unfold maxLen; omega
        case c4 => have := HYL.out; omega
        case c5 => have := hb4.size; simp; omega
        intro v' w5 hown hgrow
        have ba := below_alloc w4 (.cells #[.int .i64 y.op, .int .i64 y.a, .int .i64 y.b, .bool y.q.s, .slice y.q.A y.q.n y.q.c, .slice y.q.A' y.q.n' y.q.c'] 27)
        have K5 := HK4.out.append HYO.out hown hgrow
        have hbk := ownC_block (HK4.out.1.below ba)
        have B5 : BRow w5 g bs := by
          have B4 := Box.below' (Box.below' HB3.out b4) ba
          refine (hgrow.block g B4.lt (fun e => ?_)).trans B4
          obtain ⟨cur, h9⟩ := hbk g e.symm
          unfold Box at B4
          rw [B4] at h9
          cases h9
        have M5 : MapIs w5 mb (j + 1) (thM mk (j + 1)) (vM mk) := by
          have M4 := (HM3.out.below b4).below ba
          refine M4.kept hgrow (fun e => ?_)
          obtain ⟨cur, h9⟩ := hbk mb e.symm
          obtain ⟨D9, ⟨es, clock, h8, _⟩, _⟩ := M4
          rw [h8] at h9
          cases h9
        have hb5 := (hb4.alloc hb4.size _).grown hgrow (by have := hb4.size; simp; omega) (HK4.out.1.base)
        have S5 : Shrt N (ys ++ [y]) := fun z hz => by
          rcases List.mem_append.1 hz with hz | hz
          · exact HS.out z hz
          · rw [List.mem_singleton.1 hz]
            have e1 : y.q.z = x.q.z := by have := congrArg (fun p : PI => p.q.2.1) HYP.out; exact this
            have e2 : y.q.z' = x.q.z' := by have := congrArg (fun p : PI => p.q.2.2) HYP.out; exact this
            have l1 := HYO.out.2.2.2.1.len
            have l2 := HYO.out.2.2.2.2.1.len
            have l3 := HX.out.2.2
            rw [e1] at l1
            rw [e2] at l2
            have q1 : x.q.n = x.q.z.length := HXN.out.1
            have q2 : x.q.n' = x.q.z'.length := HXN.out.2
            omega
        have T5 : (ys ++ [y]).map RI.pi = trimTo (fun i => ren mk ((xs.map RI.pi).getD i PI.nil)) mk (j + 1) := by
          unfold trimTo
          rw [HMJ.out, if_pos rfl, List.map_append, HT.out, HX.out.1, ← HYP.out]
          rfl
        have HK5 := Lib.hid K5
        have HB5 := Lib.hid B5
        have HM5 := Lib.hid M5
        have HS5 := Lib.hid S5
        have HT5 := Lib.hid T5
        clear K5 B5 M5 S5 T5 hown hgrow hbk
        go_wp2_with fail
        go_roundw
        case rel => exact ⟨j + 1, ys ++ [y], by omega, by go_num, HK5, HT5, HS5, HB5, HM5, hb5⟩
        case measure => simp [mes, intOf]; omega
    · obtain rfl : j = n := by omega
      have NN := line_newNumbers (ho.below hb) HM.out hm
      have HNN := Lib.hid NN
      have HYL := Lib.hid hyl
      clear NN hyl
      go_wp2_with fail
      with_reducible refine HNN.out.mono ?_
      rintro _ w4 ⟨A2, n2, c2, rfl, z2, b4⟩
      go_wp2_with fail
      go_ret2
      have hout : (outs.map fun o => if thM mk j o = true then vM mk o else -1) = trimO (xs.map RI.pi) mk outs := by
        unfold trimO
        refine List.map_congr_left fun o ho9 => ?_
        unfold newAt
        rw [HL.out]
        by_cases h9 : 0 ≤ o ∧ o < (j : Int)
        · have hmo : mk o.toNat = true := by
            rw [HND.out o.toNat (by rw [HL.out]; omega)]
            left
            rw [show ((o.toNat : Nat) : Int) = o by omega]
            exact ho9
          rw [if_pos h9, if_pos (by unfold thM; rw [decide_eq_true h9, hmo]; rfl)]
          rfl
        · rw [if_neg h9, if_neg (by unfold thM; rw [decide_eq_false h9, Bool.false_and]; decide)]
      rw [hout] at z2
      refine ⟨mk, HND.out, _, _, _, ys, _, _, _, rfl, (HK.out.below b4).slp, ?_, HS.out, z2, bb hb b4⟩
      unfold trimL
      rw [HL.out]
      exact HT.out

end Go.Proofs.YtibgpeaplmcogaaGreatDoor

namespace Go.Proofs.YtibgpeaplmcogaaGreatDoor
set_option maxRecDepth 100000
open Go.RowKit
set_option linter.unusedVariables false
set_option linter.unusedSimpArgs false

end Go.Proofs.YtibgpeaplmcogaaGreatDoor

namespace Go.Proofs.YtibgpeaplmcogaaGreatDoor
set_option maxRecDepth 100000
open Go.RowKit
set_option linter.unusedVariables false
set_option linter.unusedSimpArgs false

end Go.Proofs.YtibgpeaplmcogaaGreatDoor

namespace Go.Proofs.YtibgpeaplmcogaaGreatDoor
set_option maxRecDepth 100000
set_option linter.unusedVariables false
set_option linter.unusedSimpArgs false

/-- p / d, rounded to the nearest natural, ties to the even one -/
def rdiv (p d : Nat) : Nat := if d < 2 * (p % d) ∨ (2 * (p % d) = d ∧ p / d % 2 = 1) then p / d + 1 else p / d
/-- how many bits the nearest double leaves out below -/
def ulp (p d : Nat) : Nat := blen (p / d) - 53
@[irreducible] def INF : Nat := 9218868437227405312
/-- 2^52 -/
@[irreducible] def B52 : Nat := 4503599627370496
/-- the word, without a sign, of the double nearest to p / d -/
def mag (p d : Nat) : Nat := min (ulp p d * B52 + rdiv p (d * 2 ^ ulp p d)) INF
/-- what a word without a sign says -/
def fv (b : Nat) : Nat := if b / B52 = 0 then b else (b % B52 + B52) * 2 ^ (b / B52 - 1)

theorem B52_pow : B52 = 2 ^ 52 := by unfold B52; rfl
theorem B52_eq : B52 = 4503599627370496 := by unfold B52; rfl
theorem INF_eq : INF = 2047 * B52 := by unfold INF B52; rfl
theorem B52_pos : 0 < B52 := by unfold B52; omega

/-- what rounding does: at most half a unit off; where it is just half a unit off, the result is even -/
theorem rdiv_spec (p : Nat) {d : Nat} (hd : 0 < d) : 2 * p ≤ (2 * rdiv p d + 1) * d ∧ 2 * rdiv p d * d ≤ 2 * p + d ∧ (2 * p = (2 * rdiv p d + 1) * d → rdiv p d % 2 = 0) ∧ (2 * rdiv p d * d = 2 * p + d → rdiv p d % 2 = 0) := by
  have h1 : p / d * d + p % d = p := Nat.div_add_mod' p d
  have h2 := Nat.mod_lt p hd
  unfold rdiv
  generalize p / d = q at *
  generalize p % d = r at *
  have e0 : (2 * q + 1) * d = 2 * (q * d) + d := by grind
  have e1 : 2 * q * d = 2 * (q * d) := by grind
  have e2 : (2 * (q + 1) + 1) * d = 2 * (q * d) + 3 * d := by grind
  have e3 : 2 * (q + 1) * d = 2 * (q * d) + 2 * d := by grind
  generalize q * d = x at *
  by_cases h : d < 2 * r ∨ (2 * r = d ∧ q % 2 = 1)
  · rw [if_pos h, e2, e3]
    omega
  · rw [if_neg h, e0, e1]
    omega
/-- how great the rounded number of units is -/
theorem units_le (p : Nat) {d : Nat} (hd : 0 < d) : rdiv p (d * 2 ^ ulp p d) ≤ 2 * B52 := by
  have hu : 0 < 2 ^ ulp p d := Nat.two_pow_pos _
  have h1 : p / (d * 2 ^ ulp p d) < 2 * B52 := by
    rw [← Nat.div_div_eq_div_mul, Nat.div_lt_iff_lt_mul hu]
    refine Nat.lt_of_lt_of_le (blen_lt (p / d)) ?_
    rw [B52_pow, ← Nat.pow_succ', ← Nat.pow_add]
    exact Nat.pow_le_pow_right (by omega) (by unfold ulp; omega)
  unfold rdiv
  split <;> omega
theorem units_ge (p : Nat) {d : Nat} (hd : 0 < d) (h0 : 0 < ulp p d) : B52 ≤ rdiv p (d * 2 ^ ulp p d) := by
  have hu : 0 < 2 ^ ulp p d := Nat.two_pow_pos _
  have h1 : B52 ≤ p / (d * 2 ^ ulp p d) := by
    rw [← Nat.div_div_eq_div_mul, Nat.le_div_iff_mul_le hu]
    have hp : 0 < p / d := by
      rcases Nat.eq_zero_or_pos (p / d) with h | h
      · unfold ulp at h0; rw [h, blen_zero] at h0; omega
      · exact h
    refine Nat.le_trans ?_ (blen_self hp)
    rw [B52_pow, ← Nat.pow_add]
    exact Nat.pow_le_pow_right (by omega) (by unfold ulp at *; omega)
  unfold rdiv
  split <;> omega
/-- is p / d a double, just so? -/
def Ex (p d : Nat) : Prop := p % d = 0 ∧ p / d % 2 ^ ulp p d = 0 ∧ blen (p / d) ≤ 2098
instance (p d : Nat) : Decidable (Ex p d) := by unfold Ex; infer_instance
/-- the word of what a word says -/
theorem fv_norm (b : Nat) : ∃ x s, fv b = x * 2 ^ s ∧ x < 2 * B52 ∧ (B52 ≤ x ∨ s = 0) ∧ s * B52 + x = b ∧ (b < INF → s ≤ 2045) := by
  have hm := Nat.mod_lt b B52_pos
  have hd := Nat.div_add_mod b B52
  unfold fv
  by_cases h : b / B52 = 0
  · rw [if_pos h]
    rw [h, Nat.mul_zero, Nat.zero_add] at hd
    exact ⟨b, 0, by simp, by omega, .inr rfl, by omega, fun _ => by omega⟩
  · rw [if_neg h]
    refine ⟨b % B52 + B52, b / B52 - 1, rfl, by omega, .inl (by omega), ?_, fun hb => ?_⟩
    · obtain ⟨k, hk⟩ : ∃ k, b / B52 = k + 1 := ⟨b / B52 - 1, (Nat.succ_pred_eq_of_ne_zero h).symm⟩
      rw [hk, Nat.mul_add, Nat.mul_one, Nat.mul_comm] at hd
      rw [hk, Nat.add_sub_cancel]
      omega
    · have : b / B52 < 2047 := by rw [Nat.div_lt_iff_lt_mul B52_pos]; rw [INF_eq] at hb; exact hb
      omega
/-- a number's units, as a normalized significand -/
theorem units_norm (p : Nat) {d : Nat} (hd : 0 < d) : ∃ x s, rdiv p (d * 2 ^ ulp p d) * 2 ^ ulp p d = x * 2 ^ s ∧ x < 2 * B52 ∧ (B52 ≤ x ∨ s = 0) ∧ s * B52 + x = ulp p d * B52 + rdiv p (d * 2 ^ ulp p d) := by
  have h1 := units_le p hd
  have h2 := units_ge p hd
  generalize hx : rdiv p (d * 2 ^ ulp p d) = x at *
  generalize ulp p d = s at *
  rcases Nat.lt_or_ge x (2 * B52) with hl | hl
  · exact ⟨x, s, rfl, hl, by rcases Nat.eq_zero_or_pos s with h | h; exact .inr h; exact .inl (h2 h), rfl⟩
  · obtain rfl : x = 2 * B52 := by omega
    refine ⟨B52, s + 1, by rw [Nat.pow_succ]; grind, by have := B52_pos; omega, .inl (Nat.le_refl _), by grind⟩
/-- .. what it says -/
theorem fv_mag (p : Nat) {d : Nat} (hd : 0 < d) (h : mag p d < INF) : fv (mag p d) = rdiv p (d * 2 ^ ulp p d) * 2 ^ ulp p d := by
  obtain ⟨x, s, e, h1, h2, h3⟩ := units_norm p hd
  have hm : mag p d = s * B52 + x := by
    unfold mag at h ⊢
    rw [h3]; omega
  obtain ⟨y, t, e', k1, k2, k3, _⟩ := fv_norm (mag p d)
  rw [e, e']
  have hst : s = t ∧ x = y := by
    rw [hm] at k3
    have hs : s = t := by
      rcases Nat.lt_trichotomy s t with hl | hl | hl
      · exfalso
        have : (s + 1) * B52 ≤ t * B52 := Nat.mul_le_mul_right _ hl
        rw [Nat.add_mul, Nat.one_mul] at this
        rcases k2 with k2 | k2 <;> omega
      · exact hl
      · exfalso
        have : (t + 1) * B52 ≤ s * B52 := Nat.mul_le_mul_right _ hl
        rw [Nat.add_mul, Nat.one_mul] at this
        rcases h2 with h2 | h2 <;> omega
    subst hs
    exact ⟨rfl, by omega⟩
  rw [hst.1, hst.2]
theorem mag_parity (p : Nat) {d : Nat} (hd : 0 < d) (h : mag p d < INF) : mag p d % 2 = rdiv p (d * 2 ^ ulp p d) % 2 := by
  have : mag p d = ulp p d * B52 + rdiv p (d * 2 ^ ulp p d) := by unfold mag at h ⊢; omega
  rw [this, B52_eq]
  omega

/-- how far apart -/
def dist (a b : Nat) : Nat := a - b + (b - a)
/-- no multiple of the unit is nearer -/
theorem rdiv_near (p k : Nat) {d : Nat} (hd : 0 < d) : dist p (rdiv p d * d) ≤ dist p (k * d) ∧ (dist p (rdiv p d * d) = dist p (k * d) → k = rdiv p d ∨ rdiv p d % 2 = 0) := by
  obtain ⟨a1, a2, a3, a4⟩ := rdiv_spec p hd
  generalize rdiv p d = x at *
  have e1 : (2 * x + 1) * d = 2 * (x * d) + d := by grind
  have e2 : 2 * x * d = 2 * (x * d) := by grind
  rw [e1] at a1 a3
  rw [e2] at a2 a4
  unfold dist
  rcases Nat.lt_trichotomy k x with hl | hl | hl
  · have : (k + 1) * d ≤ x * d := Nat.mul_le_mul_right _ hl
    rw [Nat.add_mul, Nat.one_mul] at this
    generalize x * d = X at *
    generalize k * d = Y at *
    refine ⟨by omega, fun h => .inr (a4 (by omega))⟩
  · subst hl
    exact ⟨Nat.le_refl _, fun _ => .inl rfl⟩
  · have : (x + 1) * d ≤ k * d := Nat.mul_le_mul_right _ hl
    rw [Nat.add_mul, Nat.one_mul] at this
    generalize x * d = X at *
    generalize k * d = Y at *
    refine ⟨by omega, fun h => .inr (a3 (by omega))⟩
/-- NO DOUBLE IS NEARER: of two that are as near it is the even one -/
theorem nearest (p b : Nat) {d : Nat} (hd : 0 < d) (h : mag p d < INF) (hb : b < INF) :
    dist p (fv (mag p d) * d) ≤ dist p (fv b * d) ∧ (dist p (fv (mag p d) * d) = dist p (fv b * d) → fv b = fv (mag p d) ∨ mag p d % 2 = 0) := by
  rw [mag_parity p hd h, fv_mag p hd h]
  have hu : 0 < 2 ^ ulp p d := Nat.two_pow_pos _
  have hU : 0 < d * 2 ^ ulp p d := Nat.mul_pos hd hu
  rw [show rdiv p (d * 2 ^ ulp p d) * 2 ^ ulp p d * d = rdiv p (d * 2 ^ ulp p d) * (d * 2 ^ ulp p d) by grind]
  obtain ⟨y, t, e, k1, k2, k3, _⟩ := fv_norm b
  rcases Nat.lt_or_ge t (ulp p d) with hl | hl
  · -- b lies below the binade of p
    have h0 : 0 < p / d := by
      rcases Nat.eq_zero_or_pos (p / d) with hz | hz
      · unfold ulp at hl; rw [hz, blen_zero] at hl; omega
      · exact hz
    have hlow : B52 * 2 ^ ulp p d * d ≤ p := by
      have h1 := blen_self h0
      have h2 : B52 * 2 ^ ulp p d = 2 ^ (blen (p / d) - 1) := by
        rw [B52_pow, ← Nat.pow_add]; congr 1; unfold ulp at *; omega
      rw [h2]
      exact Nat.le_trans (Nat.mul_le_mul_right _ h1) (Nat.div_mul_le_self p d)
    have hy : fv b < B52 * 2 ^ ulp p d := by
      rw [e]
      have h1 : y * 2 ^ t < 2 * B52 * 2 ^ t := Nat.mul_lt_mul_of_pos_right k1 (Nat.two_pow_pos t)
      have h2 : 2 * B52 * 2 ^ t = B52 * 2 ^ (t + 1) := by rw [Nat.pow_succ]; grind
      have h3 : B52 * 2 ^ (t + 1) ≤ B52 * 2 ^ ulp p d := Nat.mul_le_mul_left _ (Nat.pow_le_pow_right (by omega) hl)
      omega
    have hy2 : fv b * d < B52 * 2 ^ ulp p d * d := Nat.mul_lt_mul_of_pos_right hy hd
    obtain ⟨n1, _⟩ := rdiv_near p B52 hU
    rw [show B52 * (d * 2 ^ ulp p d) = B52 * 2 ^ ulp p d * d by grind] at n1
    have hlt : dist p (B52 * 2 ^ ulp p d * d) < dist p (fv b * d) := by
      generalize fv b * d = x at *
      generalize B52 * 2 ^ ulp p d * d = z at *
      unfold dist; omega
    exact ⟨by omega, fun h => by omega⟩
  · have hk : fv b = (y * 2 ^ (t - ulp p d)) * 2 ^ ulp p d := by
      rw [e, Nat.mul_assoc, ← Nat.pow_add]; congr 2; omega
    rw [hk, show y * 2 ^ (t - ulp p d) * 2 ^ ulp p d * d = y * 2 ^ (t - ulp p d) * (d * 2 ^ ulp p d) by grind]
    obtain ⟨n1, n2⟩ := rdiv_near p (y * 2 ^ (t - ulp p d)) hU
    refine ⟨n1, fun h => ?_⟩
    rcases n2 h with h | h
    · left; rw [h]
    · exact .inr h
end Go.Proofs.YtibgpeaplmcogaaGreatDoor

namespace Go.Proofs.YtibgpeaplmcogaaGreatDoor
set_option maxRecDepth 100000
set_option linter.unusedVariables false
set_option linter.unusedSimpArgs false

def up (e : Int) : Nat := (e + 1074).toNat
def dn (e : Int) : Nat := (-(e + 1074)).toNat
/-- is p / q * 2^e a double, just so? -/
def ExR (p q : Nat) (e : Int) : Prop := Ex (p * 2 ^ up e) (q * 2 ^ dn e)
instance (p q : Nat) (e : Int) : Decidable (ExR p q e) := by unfold ExR; infer_instance
end Go.Proofs.YtibgpeaplmcogaaGreatDoor

namespace Go.Proofs.YtibgpeaplmcogaaGreatDoor
set_option maxRecDepth 100000
open Go.RowKit
set_option linter.unusedVariables false
set_option linter.unusedSimpArgs false

/-- the exponent's field, the fraction, the sign, the kind of a double -/
def fld (b : Nat) : Nat := b / 4503599627370496 % 2048
def rst (b : Nat) : Nat := b % 4503599627370496
def ng (b : Nat) : Bool := decide (9223372036854775808 ≤ b)
def kd (b : Nat) : Nat := if fld b = 2047 then (if rst b = 0 then 3 else 4) else if fld b = 0 then (if rst b = 0 then 0 else 1) else 2
end Go.Proofs.YtibgpeaplmcogaaGreatDoor

namespace Go.Proofs.YtibgpeaplmcogaaGreatDoor
set_option maxRecDepth 100000
set_option linter.unusedVariables false
set_option linter.unusedSimpArgs false

@[irreducible] def K74 : Nat := 1074
def mant (b : Nat) : Nat := b % 9223372036854775808
end Go.Proofs.YtibgpeaplmcogaaGreatDoor

namespace Go.Proofs.YtibgpeaplmcogaaGreatDoor
set_option maxRecDepth 100000
set_option linter.unusedVariables false
set_option linter.unusedSimpArgs false

end Go.Proofs.YtibgpeaplmcogaaGreatDoor

namespace Go.Proofs.YtibgpeaplmcogaaGreatDoor
set_option maxRecDepth 100000
open Go.RowKit
set_option linter.unusedVariables false
set_option linter.unusedSimpArgs false

/-! ### sums -/
/-- what a double's digits say, in units of the least double -/
def vl (b : Nat) : Nat := fv (mant b)
end Go.Proofs.YtibgpeaplmcogaaGreatDoor

namespace Go.Proofs.YtibgpeaplmcogaaGreatDoor
set_option maxRecDepth 100000
open Go.RowKit
set_option linter.unusedVariables false
set_option linter.unusedSimpArgs false

end Go.Proofs.YtibgpeaplmcogaaGreatDoor

namespace Go.Proofs.YtibgpeaplmcogaaGreatDoor
set_option maxRecDepth 100000
open Go.RowKit
set_option linter.unusedVariables false
set_option linter.unusedSimpArgs false

end Go.Proofs.YtibgpeaplmcogaaGreatDoor

namespace Go.Proofs.YtibgpeaplmcogaaGreatDoor
set_option maxRecDepth 100000
open Go.RowKit
set_option linter.unusedVariables false
set_option linter.unusedSimpArgs false

end Go.Proofs.YtibgpeaplmcogaaGreatDoor

namespace Go.Proofs.YtibgpeaplmcogaaGreatDoor
set_option maxRecDepth 100000
open Go.RowKit
set_option linter.unusedVariables false
set_option linter.unusedSimpArgs false

end Go.Proofs.YtibgpeaplmcogaaGreatDoor

namespace Go.Proofs.YtibgpeaplmcogaaGreatDoor
set_option maxRecDepth 100000
open Go.RowKit
set_option linter.unusedVariables false
set_option linter.unusedSimpArgs false

end Go.Proofs.YtibgpeaplmcogaaGreatDoor

namespace Go.Proofs.YtibgpeaplmcogaaGreatDoor
set_option maxRecDepth 100000
open Go.RowKit
set_option linter.unusedVariables false
set_option linter.unusedSimpArgs false

/-! ### products -/
/-! ### quotients -/
/-! ### roots -/
/-! ### the whole -/
end Go.Proofs.YtibgpeaplmcogaaGreatDoor

namespace Go.Proofs.YtibgpeaplmcogaaGreatDoor
set_option maxRecDepth 100000
open Go.RowKit
set_option linter.unusedVariables false
set_option linter.unusedSimpArgs false

end Go.Proofs.YtibgpeaplmcogaaGreatDoor
