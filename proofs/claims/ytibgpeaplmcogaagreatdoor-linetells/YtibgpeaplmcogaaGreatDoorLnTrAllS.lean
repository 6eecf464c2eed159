/-
  gradinelaw16.same returns true. Condition: the variable factorials holds the factorials of 0 to 13.
-/
import Derived.Test.YtibgpeaplmcogaaGreatDoorLnTyAllS
import Derived.Test.YtibgpeaplmcogaaGreatDoorNatMathOneS
import Derived.Test.YtibgpeaplmcogaaGreatDoorU64AllS
import Derived.Test.YtibgpeaplmcogaaGreatDoorGcdLawsAllS
import Derived.Deep.DeepCutAuto
import Derived.Test.YtibgpeaplmcogaaGreatDoorRefShiftAllS
import Derived.Test.YtibgpeaplmcogaaGreatDoorQuotMathAllS
import Derived.Below
import Derived.Test.YtibgpeaplmcogaaGreatDoorNatReadAllS
import Derived.Test.YtibgpeaplmcogaaGreatDoorLnMemAllS
import Derived.Deep.RegionHeld3
import Derived.Test.YtibgpeaplmcogaaGreatDoorLnNdAllS
namespace Go.Proofs.YtibgpeaplmcogaaGreatDoor
set_option maxRecDepth 100000
open Go.RowKit Go.Maps
set_option linter.unusedVariables false
set_option linter.unusedSimpArgs false

theorem infoP : (Tryz.prog.info? 27).map (fun i => (i.zero, i.size, i.bytes)) = some (some (.agg #[.int .i64 0, .int .i64 0, .int .i64 0, .bool false, .slice none 0 0, .slice none 0 0]), 6, 80) := by kernel_rfl
theorem zeroP : ∀ u ∈ (Value.agg #[.int .i64 0, .int .i64 0, .int .i64 0, .bool false, .slice none 0 0, .slice none 0 0]).cells.toList, NoW u := by
  intro u hu
  have e : (Value.agg #[.int .i64 0, .int .i64 0, .int .i64 0, .bool false, .slice none 0 0, .slice none 0 0]).cells.toList = [.int .i64 0, .int .i64 0, .int .i64 0, .bool false, .slice none 0 0, .slice none 0 0] := rfl
  rw [e] at hu
  simp only [List.mem_cons, List.not_mem_nil, or_false] at hu
  rcases hu with rfl | rfl | rfl | rfl | rfl | rfl
  · exact NoW_i64 _
  · exact NoW_i64 _
  · exact NoW_i64 _
  · exact NoW_bool _
  · exact NoW_slice _ _ _
  · exact NoW_slice _ _ _
/-- a row of instructions that the call made -/
def OwnP (B : Nat) (w : World) (v : Value) (ys : List RI) : Prop := OwnC 6 RI.cells 27 B w v ys ∧ ∀ y ∈ ys, y.ok w
theorem OwnP.below {B : Nat} {w w' : World} {v : Value} {ys : List RI} (h : OwnP B w v ys) (hb : Below w.heap.size w w') : OwnP B w' v ys := ⟨h.1.below hb, fun y hy => RI.below (h.2 y hy) hb⟩
theorem OwnP.slp {B : Nat} {w : World} {A : Option Addr} {n c : Nat} {ys : List RI} (h : OwnP B w (.slice A n c) ys) : SlP w A n c ys := h.1.slc h.2
/-- a map has been stored into -/
theorem OwnP.mapped {B : Nat} {w w' : World} {v : Value} {ys : List RI} {mb : Nat} (h : OwnP B w v ys) (hg : w.grownBy w' (some mb)) (hm : ∃ es clock, w.heap[mb]? = some (.map es clock)) (hn : NoWAt w mb) : OwnP B w' v ys := by
  refine ⟨⟨h.1.1, ?_⟩, fun y hy => RI.grownC (h.2 y hy) hg (fun g e => by cases e; exact hn)⟩
  rcases h.1.2 with h2 | ⟨g, cap, cur, hv, hg2, hh, r⟩
  · exact .inl h2
  · have hlt : g < w.heap.size := by
      rcases Nat.lt_or_ge g w.heap.size with h9 | h9
      · exact h9
      · rw [Array.getElem?_eq_none h9] at hh; cases hh
    refine .inr ⟨g, cap, cur, hv, hg2, (hg.block g hlt (fun e => ?_)).trans hh, r⟩
    cases e
    obtain ⟨es, clock, h8⟩ := hm
    rw [h8] at hh
    cases hh
theorem OwnP.append {B : Nat} {w w' : World} {v v' : Value} {ys : List RI} {y : RI} {o : Obj} (h : OwnP B w v ys) (hy : y.ok w) (ho : OwnC 6 RI.cells 27 B w' v' (ys ++ [y])) (hg : (w.alloc o).grownBy w' v.ownBlock) : OwnP B w' v' (ys ++ [y]) := by
  have ba := below_alloc w o
  have hn := (h.1.below ba).noW
  refine ⟨ho, fun x hx => ?_⟩
  rcases List.mem_append.1 hx with hx | hx
  · exact RI.grownC (RI.below (h.2 x hx) ba) hg hn
  · rw [List.mem_singleton.1 hx]
    exact RI.grownC (RI.below hy ba) hg hn
theorem ownC_block {w : World} {B : Nat} {v : Value} {ys : List RI} (h : OwnC 6 RI.cells 27 B w v ys) : ∀ g, v.ownBlock = some g → ∃ cur, w.heap[g]? = some (.cells cur 27 (0, 0)) := by
  intro g hg
  rcases h.2 with ⟨rfl, rfl⟩ | ⟨g', cap, cur, rfl, _, h2, _⟩
  · cases hg
  · have e : g' = g := by simpa [Value.ownBlock] using hg
    subst e
    exact ⟨cur, h2⟩
/-- which numbers stand in the map after j instructions, and which new ones -/
def thM (mk : Nat → Bool) (j : Nat) (z : Int) : Bool := decide (0 ≤ z ∧ z < (j : Int)) && mk z.toNat
def vM (mk : Nat → Bool) (z : Int) : Int := (cnt mk z.toNat : Int)
theorem thM_no {mk : Nat → Bool} {j : Nat} (h : mk j = false) (z : Int) : thM mk j z = thM mk (j + 1) z := by
  unfold thM
  by_cases e : z = (j : Int)
  · subst e
    rw [show ((j : Int)).toNat = j by omega, h, Bool.and_false, Bool.and_false]
  · congr 1
    rw [decide_eq_decide]
    omega
theorem thM_yes {mk : Nat → Bool} {j : Nat} (h : mk j = true) (z : Int) : (thM mk j z || decide (z = (j : Int))) = thM mk (j + 1) z := by
  unfold thM
  by_cases e : z = (j : Int)
  · subst e
    rw [show ((j : Int)).toNat = j by omega, h, decide_eq_true (rfl : (j : Int) = j), Bool.or_true, decide_eq_true (by omega : (0 : Int) ≤ (j : Int) ∧ (j : Int) < ((j + 1 : Nat) : Int))]
    rfl
  · rw [decide_eq_false e, Bool.or_false]
    congr 1
    rw [decide_eq_decide]
    omega
/-- what is left, and the new numbers -/
def RetTr (l : List PI) (outs : List Int) (N : Nat) (w : World) (e : Ending) (w' : World) : Prop := ∃ mk, IsNeed l outs mk ∧ ∃ A1 n1 c1 ys A2 n2 c2, e = .returned (.tuple #[.slice A1 n1 c1, .slice A2 n2 c2]) ∧
  SlP w' A1 n1 c1 ys ∧ ys.map RI.pi = trimL l mk ∧ Shrt N ys ∧ SlZ w' A2 n2 c2 (trimO l mk outs) ∧ Below w.heap.size w w'

set_option maxRecDepth 100000 in
set_option maxHeartbeats 4000000 in
theorem line_Trim {w : World} {A B : Option Addr} {n c m d N : Nat} {xs : List RI} {outs : List Int} (h : SlP w A n c xs) (hs : Shrt N xs) (hN : N ≤ 1000) (ho : SlZ w B m d outs) (hn : n ≤ 300) (hm : m ≤ 65536) (hp : IsProg vq nq (xs.map RI.pi)) :
    Calls Tryz.prog 27 #[.slice A n c, .slice B m d] w (RetTr (xs.map RI.pi) outs N w) := by
  have hlen : (xs.map RI.pi).length = n := by rw [List.length_map]; exact h.1.1
  have P1 := line_right h hs hN (by omega)
  rw [(progB_iff _).2 hp] at P1
  have P2 := fun (w1 : World) (hb : Below w.heap.size w w1) => line_needs (h.below hb) (ho.below hb) (prog_ahead hp) (by omega) hm
  have HP1 := Lib.hid P1
  have HP2 := Lib.hid P2
  have HL := Lib.hid hlen
  have HPR := Lib.hid hp
  have HSH := Lib.hid hs
  have hmm := @run_makeMap Tryz.prog
  obtain ⟨i0, hi0, hz0, hz1, hz2⟩ := info_parts infoP
  clear P1 P2 hlen hp hs
  go_enter Tryz.func27, Tryz.ntmps27
  go_wp2_with fail
  with_reducible refine HP1.out.mono ?_
  rintro _ w1 ⟨rfl, b1⟩
  obtain ⟨V, hV⟩ : ∃ V, w1.alloc (.map #[] 0) = V := ⟨_, rfl⟩
  have M0 := MapIs.made w1
  have bV := below_alloc w1 (.map #[] 0)
  rw [hV] at M0 bV
  have HV := Lib.hid hV
  clear hV
  go_wp2_with fail
  rw [HV.out]
  with_reducible refine (HP2.out _ (bb b1 bV)).mono ?_
  rintro _ w2 ⟨g, bs, rfl, hg, hbl, hbr, hnd, b2⟩
  clear HP1 HP2 hmm HV
  have y2 : Below w.heap.size w w2 := bb b1 (bb bV b2)
  have M2 := M0.below b2
  obtain ⟨mb, hmb⟩ : ∃ mb, w1.heap.size = mb := ⟨_, rfl⟩
  have hw1 := b1.size
  rw [hmb] at M2 hw1
  simp only [hmb]
  obtain ⟨mk, hmk⟩ : ∃ mk : Nat → Bool, mk = fun i => bs.getD i false := ⟨_, rfl⟩
  rw [← hmk] at hnd
  have HMK := Lib.hid hmk
  have HND := Lib.hid hnd
  have HBR := Lib.hid hbr
  have HBL := Lib.hid hbl
  have HM2 : Hid (MapIs w2 mb 0 (thM mk 0) (vM mk)) := Lib.hid (M2.congr (fun z => by unfold thM; rw [decide_eq_false (by omega)]; rfl) (fun z hz => by cases hz))
  clear hmk hnd hbr hbl M2 M0 hmb b1 bV b2
  go_wp2_with fail
  go_loopw [6, 18] (fun kv iv wr => ∃ (j : Nat) (ys : List RI), j ≤ n ∧ iv = .int .i64 j ∧ Hid (OwnP w.heap.size wr kv ys) ∧ Hid (ys.map RI.pi = trimTo (fun i => ren mk ((xs.map RI.pi).getD i PI.nil)) mk j) ∧ Hid (Shrt N ys) ∧ Hid (BRow wr g bs) ∧ Hid (MapIs wr mb j (thM mk j) (vM mk)) ∧ Below w.heap.size w wr) (fun _ iv _ => n - mes iv)
  case atStart => exact ⟨0, [], by omega, rfl, Lib.hid ⟨OwnC.nil, by simp⟩, Lib.hid rfl, Lib.hid (fun x hx => by simp at hx), HBR, HM2, y2⟩
  case round =>
    clear HBR HM2 y2
    obtain ⟨j, ys, hj, rfl, HK, HT, HS, HB, HM, hb⟩ := hrel
    have hyl : ys.length = cnt mk j := by
      have h9 := congrArg List.length HT.out
      rw [List.length_map, trimTo_len] at h9
      exact h9
    have hcj := cnt_le mk j
    obtain ⟨A', c', ek, hcap, hcm⟩ := HK.out.1.form
    subst ek
    by_cases hj2 : j < n
    · have kb := HB.out.cell (i := j) (by have := HBL.out; omega)
      have hbj : bs.getD j false = mk j := by rw [HMK.out]
      rw [hbj] at kb
      have HBJ := Lib.hid hbj
      clear hbj
      cases hmj : mk j
      case false =>
        rw [hmj] at kb
        have HMJ := Lib.hid hmj
        have HYL := Lib.hid hyl
        clear hmj hyl
        go_wp2_with fail
        go_roundw
        case rel => exact ⟨j + 1, ys, by omega, by go_num, HK, Lib.hid (by unfold trimTo; rw [HMJ.out, if_neg (by decide)]; exact HT.out), HS, HB, Lib.hid ((HM.out.congr (thM_no HMJ.out) (fun _ _ => rfl)).mono1), hb⟩
        case measure => simp [mes, intOf]; omega
      case true =>
        rw [hmj] at kb
        obtain ⟨b0, off, x, rfl, hlt, hxk, hok, c0, c1, c2, c3, c4, c5⟩ := (h.below hb).at_ hj2
        have hp9 := pi_at hxk
        have hfit : fits vq nq x.pi j := by rw [← hp9]; exact HPR.out.1 j (by rw [HL.out]; exact hj2)
        obtain ⟨hx1, hx2⟩ := HSH.out x (mem_at hxk)
        obtain ⟨D, hD, hDm, hM⟩ := HM.out
        have hlt0 : b0 < w.heap.size := by
          obtain ⟨b8, o8, e8, hlt8, _⟩ := h.2 (by omega)
          injection e8 with e8
          injection e8 with e8
          omega
        have hmbw := HM.out.lt
        have hgw := HB.out.lt
        have hgm : g ≠ mb := by
          intro e
          obtain ⟨es, clock, h1, _⟩ := hD
          have h2 : Box 4 wr g _ := HB.out
          unfold Box at h2
          rw [e, h1] at h2
          cases h2
        have hmap : ∃ es clock, wr.heap[mb]? = some (.map es clock) := by
          obtain ⟨es, clock, h1, _⟩ := hD
          exact ⟨es, clock, h1⟩
        have hnw := HM.out.noW
        have HD := Lib.hid hD
        have HDM := Lib.hid hDm
        have HMM := Lib.hid hM
        have HMJ := Lib.hid hmj
        have HX := Lib.hid (And.intro hp9 (And.intro hfit (And.intro hx1 hx2)))
        have HXN := Lib.hid (And.intro hok.2.2.2.1.len hok.2.2.2.2.1.len)
        have HOK := Lib.hid hok
        have HYL := Lib.hid hyl
        have HMAP := Lib.hid hmap
        have HNW := Lib.hid hnw
        have hI1 : I64 (j : Int) := by unfold I64; omega
        have hI2 : I64 ((ys.length : Nat) : Int) := by unfold I64; omega
        have hcell : ∀ w3, wr.grownBy w3 (some mb) → w3.cell? ⟨b0, off + j * 6, none⟩ = some (.int .i64 x.op) ∧ w3.cell? ⟨b0, off + j * 6 + 1, none⟩ = some (.int .i64 x.a) ∧ w3.cell? ⟨b0, off + j * 6 + 2, none⟩ = some (.int .i64 x.b) ∧ w3.cell? ⟨b0, off + j * 6 + 3, none⟩ = some (.bool x.q.s) ∧ w3.cell? ⟨b0, off + j * 6 + 4, none⟩ = some (.slice x.q.A x.q.n x.q.c) ∧ w3.cell? ⟨b0, off + j * 6 + 5, none⟩ = some (.slice x.q.A' x.q.n' x.q.c') := fun w3 hg3 => by
          have hk := fun i => World.cell?_of_block (a := ⟨b0, i, none⟩) (hg3.block b0 hlt (by intro e; injection e with e; omega))
          exact ⟨(hk _).trans c0, (hk _).trans c1, (hk _).trans c2, (hk _).trans c3, (hk _).trans c4, (hk _).trans c5⟩
        have HC := Lib.hid hcell
        clear hD hDm hM hmj hp9 hfit hx1 hx2 hok hxk hyl hmap hnw hcell c0 c1 c2 c3 c4 c5
        go_wp2_with (at_mapUpdate; refine wpList_mapUpdate_own _ rfl _ _ _ 71 rfl 3 3 lawI Tryz.underlying71 _ mb j D rfl HD.out (by unfold maxLen; omega) (.int .i64 (j : Int)) (.int .i64 ((ys.length : Nat) : Int)) _ rfl rfl (keyOf_int_mk Tryz.underlying3 (wfI hI1)) _ [] (plainElem_int Tryz.underlying3 (wfI hI2)) ?_; intro w3 hown3 hgrow3; obtain ⟨d0, d1, d2, d3, d4, d5⟩ := HC.out w3 hgrow3)
        have M3 : MapIs w3 mb (j + 1) (thM mk (j + 1)) (vM mk) := (MapIs.put HDM.out HMM.out hI1 hown3).congr (thM_yes HMJ.out) (fun z hz => by
          by_cases e : z = (j : Int)
          · subst e
            rw [if_pos rfl, HYL.out]
            unfold vM
            rw [show ((j : Int)).toNat = j by omega]
          · rw [if_neg e])
        have hb3 : Below w.heap.size w w3 := hb.grown hgrow3 hb.size (fun k e => by cases e; exact hw1)
        have K3 := HK.out.mapped hgrow3 HMAP.out HNW.out
        have B3 : BRow w3 g bs := (hgrow3.block g hgw (by intro e; injection e with e; exact hgm e)).trans HB.out
        have hok3 : x.ok w3 := RI.grownC HOK.out hgrow3 (fun g9 e => by cases e; exact HNW.out)
        have RN := line_renum hok3 M3 HX.out.2.1 (by omega) (by have := HX.out.2.2.1; omega) (by have := HX.out.2.2.2; omega) (mk := mk) (fun t ht => by
          have hu := need_uses (prog_ahead HPR.out) HND.out (i := j) (by rw [HL.out]; exact hj2) HMJ.out (j := (t : Int)) (by rw [HX.out.1]; exact ht)
          obtain ⟨u1, u2, u3⟩ := hu
          rw [show ((t : Int)).toNat = t by omega] at u3
          refine ⟨?_, ?_⟩
          · unfold thM
            rw [decide_eq_true (by omega : (0 : Int) ≤ (t : Int) ∧ (t : Int) < ((j + 1 : Nat) : Int)), show ((t : Int)).toNat = t by omega, u3]
            rfl
          · unfold vM
            rw [show ((t : Int)).toNat = t by omega])
        have HRN := Lib.hid RN
        have HM3 := Lib.hid M3
        have HK3 := Lib.hid K3
        have HB3 := Lib.hid B3
        clear RN M3 K3 B3 hok3 hown3 hgrow3 HC HD HDM HMM HMAP HNW HOK HK HB d0 d1 d2 d3 d4 d5
        with_reducible refine HRN.out.mono ?_
        rintro _ w4 ⟨y, rfl, yok, ypi, b4⟩
        have hb4 : Below w.heap.size w w4 := bb hb3 b4
        have K4 := HK3.out.below b4
        have HK4 := Lib.hid K4
        have HYO := Lib.hid yok
        have HYP := Lib.hid ypi
        clear K4 yok ypi HRN HK3
        go_wp2_with (at_builtin; refine wpList_append_C _ rfl _ _ 22 rfl w.heap.size 27 i0 _ 80 Tryz.underlying22 hi0 hz0 hz1 hz2 rfl (by decide) zeroP _ ys rfl (HK4.out.1.below (below_alloc _ _)) ⟨w4.heap.size, 0, none⟩ 1 y rfl rfl ?c1 (ri_one _) (ri_noW _) ?c3 ?c4 ?c5 ?_)
        case c1 => exact news_new w4 _ _
        case c3 => have := HYL.out; unfold maxLen; omega
        case c4 => have := HYL.out; omega
        case c5 => have := hb4.size; simp; omega
        intro v' w5 hown hgrow
        have ba := below_alloc w4 (.cells #[.int .i64 y.op, .int .i64 y.a, .int .i64 y.b, .bool y.q.s, .slice y.q.A y.q.n y.q.c, .slice y.q.A' y.q.n' y.q.c'] 27)
        have K5 := HK4.out.append HYO.out hown hgrow
        have hbk := ownC_block (HK4.out.1.below ba)
        have B5 : BRow w5 g bs := by
          have B4 := Box.below' (Box.below' HB3.out b4) ba
          refine (hgrow.block g B4.lt (fun e => ?_)).trans B4
          obtain ⟨cur, h9⟩ := hbk g e.symm
          unfold Box at B4
          rw [B4] at h9
          cases h9
        have M5 : MapIs w5 mb (j + 1) (thM mk (j + 1)) (vM mk) := by
          have M4 := (HM3.out.below b4).below ba
          refine M4.kept hgrow (fun e => ?_)
          obtain ⟨cur, h9⟩ := hbk mb e.symm
          obtain ⟨D9, ⟨es, clock, h8, _⟩, _⟩ := M4
          rw [h8] at h9
          cases h9
        have hb5 := (hb4.alloc hb4.size _).grown hgrow (by have := hb4.size; simp; omega) (HK4.out.1.base)
        have S5 : Shrt N (ys ++ [y]) := fun z hz => by
          rcases List.mem_append.1 hz with hz | hz
          · exact HS.out z hz
          · rw [List.mem_singleton.1 hz]
            have e1 : y.q.z = x.q.z := by have := congrArg (fun p : PI => p.q.2.1) HYP.out; exact this
            have e2 : y.q.z' = x.q.z' := by have := congrArg (fun p : PI => p.q.2.2) HYP.out; exact this
            have l1 := HYO.out.2.2.2.1.len
            have l2 := HYO.out.2.2.2.2.1.len
            have l3 := HX.out.2.2
            rw [e1] at l1
            rw [e2] at l2
            have q1 : x.q.n = x.q.z.length := HXN.out.1
            have q2 : x.q.n' = x.q.z'.length := HXN.out.2
            omega
        have T5 : (ys ++ [y]).map RI.pi = trimTo (fun i => ren mk ((xs.map RI.pi).getD i PI.nil)) mk (j + 1) := by
          unfold trimTo
          rw [HMJ.out, if_pos rfl, List.map_append, HT.out, HX.out.1, ← HYP.out]
          rfl
        have HK5 := Lib.hid K5
        have HB5 := Lib.hid B5
        have HM5 := Lib.hid M5
        have HS5 := Lib.hid S5
        have HT5 := Lib.hid T5
        clear K5 B5 M5 S5 T5 hown hgrow hbk
        go_wp2_with fail
        go_roundw
        case rel => exact ⟨j + 1, ys ++ [y], by omega, by go_num, HK5, HT5, HS5, HB5, HM5, hb5⟩
        case measure => simp [mes, intOf]; omega
    · obtain rfl : j = n := by omega
      have NN := line_newNumbers (ho.below hb) HM.out hm
      have HNN := Lib.hid NN
      have HYL := Lib.hid hyl
      clear NN hyl
      go_wp2_with fail
      with_reducible refine HNN.out.mono ?_
      rintro _ w4 ⟨A2, n2, c2, rfl, z2, b4⟩
      go_wp2_with fail
      go_ret2
      have hout : (outs.map fun o => if thM mk j o = true then vM mk o else -1) = trimO (xs.map RI.pi) mk outs := by
        unfold trimO
        refine List.map_congr_left fun o ho9 => ?_
        unfold newAt
        rw [HL.out]
        by_cases h9 : 0 ≤ o ∧ o < (j : Int)
        · have hmo : mk o.toNat = true := by
            rw [HND.out o.toNat (by rw [HL.out]; omega)]
            left
            rw [show ((o.toNat : Nat) : Int) = o by omega]
            exact ho9
          rw [if_pos h9, if_pos (by unfold thM; rw [decide_eq_true h9, hmo]; rfl)]
          rfl
        · rw [if_neg h9, if_neg (by unfold thM; rw [decide_eq_false h9, Bool.false_and]; decide)]
      rw [hout] at z2
      refine ⟨mk, HND.out, _, _, _, ys, _, _, _, rfl, (HK.out.below b4).slp, ?_, HS.out, z2, bb hb b4⟩
      unfold trimL
      rw [HL.out]
      exact HT.out

end Go.Proofs.YtibgpeaplmcogaaGreatDoor

namespace Go.Proofs.YtibgpeaplmcogaaGreatDoor
set_option maxRecDepth 100000
open Go.RowKit
set_option linter.unusedVariables false
set_option linter.unusedSimpArgs false

end Go.Proofs.YtibgpeaplmcogaaGreatDoor

namespace Go.Proofs.YtibgpeaplmcogaaGreatDoor
set_option maxRecDepth 100000
open Go.RowKit
set_option linter.unusedVariables false
set_option linter.unusedSimpArgs false

end Go.Proofs.YtibgpeaplmcogaaGreatDoor

namespace Go.Proofs.YtibgpeaplmcogaaGreatDoor
set_option maxRecDepth 100000
set_option linter.unusedVariables false
set_option linter.unusedSimpArgs false

/-- p / d, rounded to the nearest natural, ties to the even one -/
def rdiv (p d : Nat) : Nat := if d < 2 * (p % d) ∨ (2 * (p % d) = d ∧ p / d % 2 = 1) then p / d + 1 else p / d
/-- how many bits the nearest double leaves out below -/
def ulp (p d : Nat) : Nat := blen (p / d) - 53
@[irreducible] def INF : Nat := 9218868437227405312
/-- 2^52 -/
@[irreducible] def B52 : Nat := 4503599627370496
/-- the word, without a sign, of the double nearest to p / d -/
def mag (p d : Nat) : Nat := min (ulp p d * B52 + rdiv p (d * 2 ^ ulp p d)) INF
/-- what a word without a sign says -/
def fv (b : Nat) : Nat := if b / B52 = 0 then b else (b % B52 + B52) * 2 ^ (b / B52 - 1)

theorem B52_pow : B52 = 2 ^ 52 := by unfold B52; rfl
theorem B52_eq : B52 = 4503599627370496 := by unfold B52; rfl
theorem INF_eq : INF = 2047 * B52 := by unfold INF B52; rfl
theorem B52_pos : 0 < B52 := by unfold B52; omega

/-- what rounding does: at most half a unit off; where it is just half a unit off, the result is even -/
theorem rdiv_spec (p : Nat) {d : Nat} (hd : 0 < d) : 2 * p ≤ (2 * rdiv p d + 1) * d ∧ 2 * rdiv p d * d ≤ 2 * p + d ∧ (2 * p = (2 * rdiv p d + 1) * d → rdiv p d % 2 = 0) ∧ (2 * rdiv p d * d = 2 * p + d → rdiv p d % 2 = 0) := by
  have h1 : p / d * d + p % d = p := Nat.div_add_mod' p d
  have h2 := Nat.mod_lt p hd
  unfold rdiv
  generalize p / d = q at *
  generalize p % d = r at *
  have e0 : (2 * q + 1) * d = 2 * (q * d) + d := by grind
  have e1 : 2 * q * d = 2 * (q * d) := by grind
  have e2 : (2 * (q + 1) + 1) * d = 2 * (q * d) + 3 * d := by grind
  have e3 : 2 * (q + 1) * d = 2 * (q * d) + 2 * d := by grind
  generalize q * d = x at *
  by_cases h : d < 2 * r ∨ (2 * r = d ∧ q % 2 = 1)
  · rw [if_pos h, e2, e3]
    omega
  · rw [if_neg h, e0, e1]
    omega
/-- how great the rounded number of units is -/
theorem units_le (p : Nat) {d : Nat} (hd : 0 < d) : rdiv p (d * 2 ^ ulp p d) ≤ 2 * B52 := by
  have hu : 0 < 2 ^ ulp p d := Nat.two_pow_pos _
  have h1 : p / (d * 2 ^ ulp p d) < 2 * B52 := by
    rw [← Nat.div_div_eq_div_mul, Nat.div_lt_iff_lt_mul hu]
    refine Nat.lt_of_lt_of_le (blen_lt (p / d)) ?_
    rw [B52_pow, ← Nat.pow_succ', ← Nat.pow_add]
    exact Nat.pow_le_pow_right (by omega) (by unfold ulp; omega)
  unfold rdiv
  split <;> omega
theorem units_ge (p : Nat) {d : Nat} (hd : 0 < d) (h0 : 0 < ulp p d) : B52 ≤ rdiv p (d * 2 ^ ulp p d) := by
  have hu : 0 < 2 ^ ulp p d := Nat.two_pow_pos _
  have h1 : B52 ≤ p / (d * 2 ^ ulp p d) := by
    rw [← Nat.div_div_eq_div_mul, Nat.le_div_iff_mul_le hu]
    have hp : 0 < p / d := by
      rcases Nat.eq_zero_or_pos (p / d) with h | h
      · unfold ulp at h0; rw [h, blen_zero] at h0; omega
      · exact h
    refine Nat.le_trans ?_ (blen_self hp)
    rw [B52_pow, ← Nat.pow_add]
    exact Nat.pow_le_pow_right (by omega) (by unfold ulp at *; omega)
  unfold rdiv
  split <;> omega
/-- is p / d a double, just so? -/
def Ex (p d : Nat) : Prop := p % d = 0 ∧ p / d % 2 ^ ulp p d = 0 ∧ blen (p / d) ≤ 2098
instance (p d : Nat) : Decidable (Ex p d) := by unfold Ex; infer_instance
/-- the word of what a word says -/
theorem fv_norm (b : Nat) : ∃ x s, fv b = x * 2 ^ s ∧ x < 2 * B52 ∧ (B52 ≤ x ∨ s = 0) ∧ s * B52 + x = b ∧ (b < INF → s ≤ 2045) := by
  have hm := Nat.mod_lt b B52_pos
  have hd := Nat.div_add_mod b B52
  unfold fv
  by_cases h : b / B52 = 0
  · rw [if_pos h]
    rw [h, Nat.mul_zero, Nat.zero_add] at hd
    exact ⟨b, 0, by simp, by omega, .inr rfl, by omega, fun _ => by omega⟩
  · rw [if_neg h]
    refine ⟨b % B52 + B52, b / B52 - 1, rfl, by omega, .inl (by omega), ?_, fun hb => ?_⟩
    · obtain ⟨k, hk⟩ : ∃ k, b / B52 = k + 1 := ⟨b / B52 - 1, (Nat.succ_pred_eq_of_ne_zero h).symm⟩
      rw [hk, Nat.mul_add, Nat.mul_one, Nat.mul_comm] at hd
      rw [hk, Nat.add_sub_cancel]
      omega
    · have : b / B52 < 2047 := by rw [Nat.div_lt_iff_lt_mul B52_pos]; rw [INF_eq] at hb; exact hb
      omega
/-- a number's units, as a normalized significand -/
theorem units_norm (p : Nat) {d : Nat} (hd : 0 < d) : ∃ x s, rdiv p (d * 2 ^ ulp p d) * 2 ^ ulp p d = x * 2 ^ s ∧ x < 2 * B52 ∧ (B52 ≤ x ∨ s = 0) ∧ s * B52 + x = ulp p d * B52 + rdiv p (d * 2 ^ ulp p d) := by
  have h1 := units_le p hd
  have h2 := units_ge p hd
  generalize hx : rdiv p (d * 2 ^ ulp p d) = x at *
  generalize ulp p d = s at *
  rcases Nat.lt_or_ge x (2 * B52) with hl | hl
  · exact ⟨x, s, rfl, hl, by rcases Nat.eq_zero_or_pos s with h | h; exact .inr h; exact .inl (h2 h), rfl⟩
  · obtain rfl : x = 2 * B52 := by omega
    refine ⟨B52, s + 1, by rw [Nat.pow_succ]; grind, by have := B52_pos; omega, .inl (Nat.le_refl _), by grind⟩
/-- .. what it says -/
theorem fv_mag (p : Nat) {d : Nat} (hd : 0 < d) (h : mag p d < INF) : fv (mag p d) = rdiv p (d * 2 ^ ulp p d) * 2 ^ ulp p d := by
  obtain ⟨x, s, e, h1, h2, h3⟩ := units_norm p hd
  have hm : mag p d = s * B52 + x := by
    unfold mag at h ⊢
    rw [h3]; omega
  obtain ⟨y, t, e', k1, k2, k3, _⟩ := fv_norm (mag p d)
  rw [e, e']
  have hst : s = t ∧ x = y := by
    rw [hm] at k3
    have hs : s = t := by
      rcases Nat.lt_trichotomy s t with hl | hl | hl
      · exfalso
        have : (s + 1) * B52 ≤ t * B52 := Nat.mul_le_mul_right _ hl
        rw [Nat.add_mul, Nat.one_mul] at this
        rcases k2 with k2 | k2 <;> omega
      · exact hl
      · exfalso
        have : (t + 1) * B52 ≤ s * B52 := Nat.mul_le_mul_right _ hl
        rw [Nat.add_mul, Nat.one_mul] at this
        rcases h2 with h2 | h2 <;> omega
    subst hs
    exact ⟨rfl, by omega⟩
  rw [hst.1, hst.2]
theorem mag_parity (p : Nat) {d : Nat} (hd : 0 < d) (h : mag p d < INF) : mag p d % 2 = rdiv p (d * 2 ^ ulp p d) % 2 := by
  have : mag p d = ulp p d * B52 + rdiv p (d * 2 ^ ulp p d) := by unfold mag at h ⊢; omega
  rw [this, B52_eq]
  omega

/-- how far apart -/
def dist (a b : Nat) : Nat := a - b + (b - a)
/-- no multiple of the unit is nearer -/
theorem rdiv_near (p k : Nat) {d : Nat} (hd : 0 < d) : dist p (rdiv p d * d) ≤ dist p (k * d) ∧ (dist p (rdiv p d * d) = dist p (k * d) → k = rdiv p d ∨ rdiv p d % 2 = 0) := by
  obtain ⟨a1, a2, a3, a4⟩ := rdiv_spec p hd
  generalize rdiv p d = x at *
  have e1 : (2 * x + 1) * d = 2 * (x * d) + d := by grind
  have e2 : 2 * x * d = 2 * (x * d) := by grind
  rw [e1] at a1 a3
  rw [e2] at a2 a4
  unfold dist
  rcases Nat.lt_trichotomy k x with hl | hl | hl
  · have : (k + 1) * d ≤ x * d := Nat.mul_le_mul_right _ hl
    rw [Nat.add_mul, Nat.one_mul] at this
    generalize x * d = X at *
    generalize k * d = Y at *
    refine ⟨by omega, fun h => .inr (a4 (by omega))⟩
  · subst hl
    exact ⟨Nat.le_refl _, fun _ => .inl rfl⟩
  · have : (x + 1) * d ≤ k * d := Nat.mul_le_mul_right _ hl
    rw [Nat.add_mul, Nat.one_mul] at this
    generalize x * d = X at *
    generalize k * d = Y at *
    refine ⟨by omega, fun h => .inr (a3 (by omega))⟩
/-- NO DOUBLE IS NEARER: of two that are as near it is the even one -/
theorem nearest (p b : Nat) {d : Nat} (hd : 0 < d) (h : mag p d < INF) (hb : b < INF) :
    dist p (fv (mag p d) * d) ≤ dist p (fv b * d) ∧ (dist p (fv (mag p d) * d) = dist p (fv b * d) → fv b = fv (mag p d) ∨ mag p d % 2 = 0) := by
  rw [mag_parity p hd h, fv_mag p hd h]
  have hu : 0 < 2 ^ ulp p d := Nat.two_pow_pos _
  have hU : 0 < d * 2 ^ ulp p d := Nat.mul_pos hd hu
  rw [show rdiv p (d * 2 ^ ulp p d) * 2 ^ ulp p d * d = rdiv p (d * 2 ^ ulp p d) * (d * 2 ^ ulp p d) by grind]
  obtain ⟨y, t, e, k1, k2, k3, _⟩ := fv_norm b
  rcases Nat.lt_or_ge t (ulp p d) with hl | hl
  · -- b lies below the binade of p
    have h0 : 0 < p / d := by
      rcases Nat.eq_zero_or_pos (p / d) with hz | hz
      · unfold ulp at hl; rw [hz, blen_zero] at hl; omega
      · exact hz
    have hlow : B52 * 2 ^ ulp p d * d ≤ p := by
      have h1 := blen_self h0
      have h2 : B52 * 2 ^ ulp p d = 2 ^ (blen (p / d) - 1) := by
        rw [B52_pow, ← Nat.pow_add]; congr 1; unfold ulp at *; omega
      rw [h2]
      exact Nat.le_trans (Nat.mul_le_mul_right _ h1) (Nat.div_mul_le_self p d)
    have hy : fv b < B52 * 2 ^ ulp p d := by
      rw [e]
      have h1 : y * 2 ^ t < 2 * B52 * 2 ^ t := Nat.mul_lt_mul_of_pos_right k1 (Nat.two_pow_pos t)
      have h2 : 2 * B52 * 2 ^ t = B52 * 2 ^ (t + 1) := by rw [Nat.pow_succ]; grind
      have h3 : B52 * 2 ^ (t + 1) ≤ B52 * 2 ^ ulp p d := Nat.mul_le_mul_left _ (Nat.pow_le_pow_right (by omega) hl)
      omega
    have hy2 : fv b * d < B52 * 2 ^ ulp p d * d := Nat.mul_lt_mul_of_pos_right hy hd
    obtain ⟨n1, _⟩ := rdiv_near p B52 hU
    rw [show B52 * (d * 2 ^ ulp p d) = B52 * 2 ^ ulp p d * d by grind] at n1
    have hlt : dist p (B52 * 2 ^ ulp p d * d) < dist p (fv b * d) := by
      generalize fv b * d = x at *
      generalize B52 * 2 ^ ulp p d * d = z at *
      unfold dist; omega
    exact ⟨by omega, fun h => by omega⟩
  · have hk : fv b = (y * 2 ^ (t - ulp p d)) * 2 ^ ulp p d := by
      rw [e, Nat.mul_assoc, ← Nat.pow_add]; congr 2; omega
    rw [hk, show y * 2 ^ (t - ulp p d) * 2 ^ ulp p d * d = y * 2 ^ (t - ulp p d) * (d * 2 ^ ulp p d) by grind]
    obtain ⟨n1, n2⟩ := rdiv_near p (y * 2 ^ (t - ulp p d)) hU
    refine ⟨n1, fun h => ?_⟩
    rcases n2 h with h | h
    · left; rw [h]
    · exact .inr h
end Go.Proofs.YtibgpeaplmcogaaGreatDoor

namespace Go.Proofs.YtibgpeaplmcogaaGreatDoor
set_option maxRecDepth 100000
set_option linter.unusedVariables false
set_option linter.unusedSimpArgs false

def up (e : Int) : Nat := (e + 1074).toNat
def dn (e : Int) : Nat := (-(e + 1074)).toNat
/-- is p / q * 2^e a double, just so? -/
def ExR (p q : Nat) (e : Int) : Prop := Ex (p * 2 ^ up e) (q * 2 ^ dn e)
instance (p q : Nat) (e : Int) : Decidable (ExR p q e) := by unfold ExR; infer_instance
end Go.Proofs.YtibgpeaplmcogaaGreatDoor

namespace Go.Proofs.YtibgpeaplmcogaaGreatDoor
set_option maxRecDepth 100000
open Go.RowKit
set_option linter.unusedVariables false
set_option linter.unusedSimpArgs false

def ng (b : Nat) : Bool := decide (9223372036854775808 ≤ b)
end Go.Proofs.YtibgpeaplmcogaaGreatDoor

namespace Go.Proofs.YtibgpeaplmcogaaGreatDoor
set_option maxRecDepth 100000
set_option linter.unusedVariables false
set_option linter.unusedSimpArgs false

@[irreducible] def K74 : Nat := 1074
def mant (b : Nat) : Nat := b % 9223372036854775808
end Go.Proofs.YtibgpeaplmcogaaGreatDoor

namespace Go.Proofs.YtibgpeaplmcogaaGreatDoor
set_option maxRecDepth 100000
set_option linter.unusedVariables false
set_option linter.unusedSimpArgs false

end Go.Proofs.YtibgpeaplmcogaaGreatDoor

namespace Go.Proofs.YtibgpeaplmcogaaGreatDoor
set_option maxRecDepth 100000
open Go.RowKit
set_option linter.unusedVariables false
set_option linter.unusedSimpArgs false

/-! ### sums -/
/-- what a double's digits say, in units of the least double -/
def vl (b : Nat) : Nat := fv (mant b)
end Go.Proofs.YtibgpeaplmcogaaGreatDoor

namespace Go.Proofs.YtibgpeaplmcogaaGreatDoor
set_option maxRecDepth 100000
open Go.RowKit
set_option linter.unusedVariables false
set_option linter.unusedSimpArgs false

end Go.Proofs.YtibgpeaplmcogaaGreatDoor

namespace Go.Proofs.YtibgpeaplmcogaaGreatDoor
set_option maxRecDepth 100000
open Go.RowKit
set_option linter.unusedVariables false
set_option linter.unusedSimpArgs false

end Go.Proofs.YtibgpeaplmcogaaGreatDoor

namespace Go.Proofs.YtibgpeaplmcogaaGreatDoor
set_option maxRecDepth 100000
open Go.RowKit
set_option linter.unusedVariables false
set_option linter.unusedSimpArgs false

end Go.Proofs.YtibgpeaplmcogaaGreatDoor

namespace Go.Proofs.YtibgpeaplmcogaaGreatDoor
set_option maxRecDepth 100000
open Go.RowKit
set_option linter.unusedVariables false
set_option linter.unusedSimpArgs false

end Go.Proofs.YtibgpeaplmcogaaGreatDoor

namespace Go.Proofs.YtibgpeaplmcogaaGreatDoor
set_option maxRecDepth 100000
open Go.RowKit
set_option linter.unusedVariables false
set_option linter.unusedSimpArgs false

end Go.Proofs.YtibgpeaplmcogaaGreatDoor

namespace Go.Proofs.YtibgpeaplmcogaaGreatDoor
set_option maxRecDepth 100000
open Go.RowKit
set_option linter.unusedVariables false
set_option linter.unusedSimpArgs false

/-! ### products -/
/-! ### quotients -/
/-! ### roots -/
/-! ### the whole -/
end Go.Proofs.YtibgpeaplmcogaaGreatDoor

namespace Go.Proofs.YtibgpeaplmcogaaGreatDoor
set_option maxRecDepth 100000
open Go.RowKit
set_option linter.unusedVariables false
set_option linter.unusedSimpArgs false

end Go.Proofs.YtibgpeaplmcogaaGreatDoor

namespace Go.Proofs.YtibgpeaplmcogaaGreatDoor
set_option maxRecDepth 100000
open Go.RowKit
set_option linter.unusedVariables false
set_option linter.unusedSimpArgs false

end Go.Proofs.YtibgpeaplmcogaaGreatDoor

namespace Go.Proofs.YtibgpeaplmcogaaGreatDoor
set_option maxRecDepth 100000
open Go.RowKit
set_option linter.unusedVariables false
set_option linter.unusedSimpArgs false

end Go.Proofs.YtibgpeaplmcogaaGreatDoor

namespace Go.Proofs.YtibgpeaplmcogaaGreatDoor
set_option maxRecDepth 100000
open Go.RowKit
set_option linter.unusedVariables false
set_option linter.unusedSimpArgs false

end Go.Proofs.YtibgpeaplmcogaaGreatDoor

namespace Go.Proofs.YtibgpeaplmcogaaGreatDoor
set_option maxRecDepth 100000
open Go.RowKit
set_option linter.unusedVariables false
set_option linter.unusedSimpArgs false

end Go.Proofs.YtibgpeaplmcogaaGreatDoor

namespace Go.Proofs.YtibgpeaplmcogaaGreatDoor
set_option maxRecDepth 100000
open Go.RowKit
set_option linter.unusedVariables false
set_option linter.unusedSimpArgs false

end Go.Proofs.YtibgpeaplmcogaaGreatDoor

namespace Go.Proofs.YtibgpeaplmcogaaGreatDoor
set_option maxRecDepth 100000
open Go.RowKit
set_option linter.unusedVariables false
set_option linter.unusedSimpArgs false

end Go.Proofs.YtibgpeaplmcogaaGreatDoor

namespace Go.Proofs.YtibgpeaplmcogaaGreatDoor
set_option maxRecDepth 100000
open Go.RowKit
set_option linter.unusedVariables false
set_option linter.unusedSimpArgs false

end Go.Proofs.YtibgpeaplmcogaaGreatDoor

namespace Go.Proofs.YtibgpeaplmcogaaGreatDoor
set_option maxRecDepth 100000
open Go.RowKit
set_option linter.unusedVariables false
set_option linter.unusedSimpArgs false

end Go.Proofs.YtibgpeaplmcogaaGreatDoor

namespace Go.Proofs.YtibgpeaplmcogaaGreatDoor
set_option maxRecDepth 100000
open Go.RowKit
set_option linter.unusedVariables false
set_option linter.unusedSimpArgs false

end Go.Proofs.YtibgpeaplmcogaaGreatDoor

namespace Go.Proofs.YtibgpeaplmcogaaGreatDoor
set_option maxRecDepth 100000
open Go.RowKit
set_option linter.unusedVariables false
set_option linter.unusedSimpArgs false

end Go.Proofs.YtibgpeaplmcogaaGreatDoor

namespace Go.Proofs.YtibgpeaplmcogaaGreatDoor
set_option maxRecDepth 100000
open Go.RowKit
set_option linter.unusedVariables false
set_option linter.unusedSimpArgs false

/-! ### plain -/
/-! ### the root of a rounded square -/
/-! ### the walks -/
end Go.Proofs.YtibgpeaplmcogaaGreatDoor

namespace Go.Proofs.YtibgpeaplmcogaaGreatDoor
set_option maxRecDepth 100000
open Go.RowKit
set_option linter.unusedVariables false
set_option linter.unusedSimpArgs false

end Go.Proofs.YtibgpeaplmcogaaGreatDoor

namespace Go.Proofs.YtibgpeaplmcogaaGreatDoor
set_option maxRecDepth 100000
open Go.RowKit
set_option linter.unusedVariables false
set_option linter.unusedSimpArgs false

end Go.Proofs.YtibgpeaplmcogaaGreatDoor

namespace Go.Proofs.YtibgpeaplmcogaaGreatDoor
set_option maxRecDepth 100000
open Go.RowKit
set_option linter.unusedVariables false
set_option linter.unusedSimpArgs false

/-- the number 1 in units of the least double -/
@[irreducible] def OO : Nat := 2 ^ K74
/-! ### what layers 10 and 13 do, plainly -/
/-! ### infinities stand beyond all others -/
/-! ### the nearest integer -/
/-! ### times powers of 2 -/
end Go.Proofs.YtibgpeaplmcogaaGreatDoor

namespace Go.Proofs.YtibgpeaplmcogaaGreatDoor
set_option maxRecDepth 100000
open Go.RowKit
set_option linter.unusedVariables false
set_option linter.unusedSimpArgs false

/-- what a double says, with its sign -/
def iv (b : Nat) : Int := sI (ng b) (vl b)
/-! ### bounds -/
/-! ### the exponential's sum: each step leaves it without a sign, at most twice the term that it adds -/
@[irreducible] def HALF : Nat := 4602678819172646912
end Go.Proofs.YtibgpeaplmcogaaGreatDoor

namespace Go.Proofs.YtibgpeaplmcogaaGreatDoor
set_option maxRecDepth 100000
open Go.RowKit
set_option linter.unusedVariables false
set_option linter.unusedSimpArgs false

@[irreducible] def PP : Nat := 4609176140021203710
@[irreducible] def LL : Nat := 4604418534311723008
@[irreducible] def ll : Nat := 4461442080421002358
/-! ### the rest after the multiple of the logarithm of 2 is taken away is at most a half -/
@[irreducible] def HH : Nat := 2 ^ (K74 - 53)
@[irreducible] def W746 : Nat := 4649773101213548544
@[irreducible] def W1077 : Nat := 4652451511538810880
@[irreducible] def W716 : Nat := 4601552919265804288
@[irreducible] def WTINY : Nat := 4517110426252607488
/-! ### the whole -/
end Go.Proofs.YtibgpeaplmcogaaGreatDoor

namespace Go.Proofs.YtibgpeaplmcogaaGreatDoor
set_option maxRecDepth 100000
open Go.RowKit
set_option linter.unusedVariables false
set_option linter.unusedSimpArgs false

@[irreducible] def ONE : Nat := 4607182418800017408
@[irreducible] def TWO : Nat := 4611686018427387904
@[irreducible] def RR : Nat := 4609047870845172685
@[irreducible] def W1116 : Nat := 4604367669032910848
@[irreducible] def W32 : Nat := 4609434218613702656
@[irreducible] def W516 : Nat := 4599301119452119040
@[irreducible] def W14 : Nat := 4598175219545276416
@[irreducible] def W116 : Nat := 4589168020290535424
@[irreducible] def W132 : Nat := 4584664420663164928
@[irreducible] def W164 : Nat := 4580160821035794432
@[irreducible] def W38 : Nat := 4600427019358961664
@[irreducible] def W3364 : Nat := 4602819556661002240
@[irreducible] def W3464 : Nat := 4602960294149357568
@[irreducible] def W4464 : Nat := 4604367669032910848
@[irreducible] def W53 : Nat := 4368491638549381120
@[irreducible] def W55 : Nat := 4359484439294640128
@[irreducible] def W4 : Nat := 4616189618054758400
/-! ### the sum over powers of z -/
/-! ### the logarithm near 1 -/
/-! ### the whole -/
end Go.Proofs.YtibgpeaplmcogaaGreatDoor

namespace Go.Proofs.YtibgpeaplmcogaaGreatDoor
set_option maxRecDepth 100000
open Go.RowKit
set_option linter.unusedVariables false
set_option linter.unusedSimpArgs false

/-! ### tables and sums -/
/-- the factorials of 0 to 13 -/
def facL : List Int := [1, 1, 2, 6, 24, 120, 720, 5040, 40320, 362880, 3628800, 39916800, 479001600, 6227020800]
/-! ### constants -/
/-! ### times powers of 2 -/
end Go.Proofs.YtibgpeaplmcogaaGreatDoor

namespace Go.Proofs.YtibgpeaplmcogaaGreatDoor
set_option maxRecDepth 100000
open Go.RowKit
set_option linter.unusedVariables false
set_option linter.unusedSimpArgs false

end Go.Proofs.YtibgpeaplmcogaaGreatDoor

namespace Go.Proofs.YtibgpeaplmcogaaGreatDoor
set_option maxRecDepth 100000
open Go.RowKit
set_option linter.unusedVariables false
set_option linter.unusedSimpArgs false

/-- the variable factorials holds the factorials -/
def Fac (w : World) : Prop := 1 < w.heap.size ∧ ∀ r, r < 14 → w.cell? ⟨1, r, none⟩ = some (.int .i64 (facL.getD r 0))
theorem Fac.below {w w' : World} (h : Fac w) (b : Below w.heap.size w w') : Fac w' :=
  ⟨Nat.lt_of_lt_of_le h.1 b.size, fun r hr => (b.cell (p := ⟨1, r, none⟩) h.1).trans (h.2 r hr)⟩
end Go.Proofs.YtibgpeaplmcogaaGreatDoor

namespace Go.Proofs.YtibgpeaplmcogaaGreatDoor
set_option maxRecDepth 100000
open Go.RowKit
set_option linter.unusedVariables false
set_option linter.unusedSimpArgs false

end Go.Proofs.YtibgpeaplmcogaaGreatDoor

namespace Go.Proofs.YtibgpeaplmcogaaGreatDoor
set_option maxRecDepth 100000
open Go.RowKit
set_option linter.unusedVariables false
set_option linter.unusedSimpArgs false

end Go.Proofs.YtibgpeaplmcogaaGreatDoor

namespace Go.Proofs.YtibgpeaplmcogaaGreatDoor
set_option maxRecDepth 100000
open Go.RowKit
set_option linter.unusedVariables false
set_option linter.unusedSimpArgs false

end Go.Proofs.YtibgpeaplmcogaaGreatDoor

namespace Go.Proofs.YtibgpeaplmcogaaGreatDoor
set_option maxRecDepth 100000
open Go.RowKit
set_option linter.unusedVariables false
set_option linter.unusedSimpArgs false

end Go.Proofs.YtibgpeaplmcogaaGreatDoor

namespace Go.Proofs.YtibgpeaplmcogaaGreatDoor
set_option maxRecDepth 100000
open Go.RowKit
set_option linter.unusedVariables false
set_option linter.unusedSimpArgs false

end Go.Proofs.YtibgpeaplmcogaaGreatDoor

namespace Go.Proofs.YtibgpeaplmcogaaGreatDoor
set_option maxRecDepth 100000
open Go.RowKit
set_option linter.unusedVariables false
set_option linter.unusedSimpArgs false

end Go.Proofs.YtibgpeaplmcogaaGreatDoor

namespace Go.Proofs.YtibgpeaplmcogaaGreatDoor
set_option maxRecDepth 100000
open Go.RowKit
set_option linter.unusedVariables false
set_option linter.unusedSimpArgs false

end Go.Proofs.YtibgpeaplmcogaaGreatDoor

namespace Go.Proofs.YtibgpeaplmcogaaGreatDoor
set_option maxRecDepth 100000
open Go.RowKit
set_option linter.unusedVariables false
set_option linter.unusedSimpArgs false

end Go.Proofs.YtibgpeaplmcogaaGreatDoor

namespace Go.Proofs.YtibgpeaplmcogaaGreatDoor
set_option maxRecDepth 100000
open Go.RowKit
set_option linter.unusedVariables false
set_option linter.unusedSimpArgs false

/-- naturals as words -/
def nts (v : List Nat) : List Int := v.map fun (n : Nat) => (n : Int)
/-- all are words -/
def AllW (v : List Nat) : Prop := ∀ x ∈ v, x < 18446744073709551616
theorem AllW.at_ {v : List Nat} (h : AllW v) (j : Nat) : v.getD j 0 < 18446744073709551616 := by
  rw [List.getD_eq_getElem?_getD]
  cases e : v[j]? with
  | none => show 0 < _; omega
  | some x => exact h x (List.mem_of_getElem? e)
theorem AllW.snoc {v : List Nat} {x : Nat} (h : AllW v) (hx : x < 18446744073709551616) : AllW (v ++ [x]) := by
  intro y hy
  rcases List.mem_append.1 hy with hy | hy
  · exact h y hy
  · rw [List.mem_singleton.1 hy]; exact hx
theorem AllW.us {v : List Nat} (h : AllW v) : ∀ x ∈ nts v, U x := by
  intro x hx
  unfold nts at hx
  obtain ⟨y, hy, rfl⟩ := List.mem_map.1 hx
  have := h y hy
  exact ⟨by omega, by omega⟩
end Go.Proofs.YtibgpeaplmcogaaGreatDoor

namespace Go.Proofs.YtibgpeaplmcogaaGreatDoor
set_option maxRecDepth 100000
open Go.RowKit
set_option linter.unusedVariables false
set_option linter.unusedSimpArgs false

end Go.Proofs.YtibgpeaplmcogaaGreatDoor

namespace Go.Proofs.YtibgpeaplmcogaaGreatDoor
set_option maxRecDepth 100000
open Go.RowKit
set_option linter.unusedVariables false
set_option linter.unusedSimpArgs false

def longB (k : Int) (q : RQ) : Bool := decide (k < q.n ∨ k < q.n')
def anyI (xs : List RI) : Bool := xs.any fun x => longB 8 x.q
def manyB (xs : List RI) : Bool := anyI xs || decide (300 < xs.length)
theorem anyI_yes {xs : List RI} {x : RI} (hx : x ∈ xs) (h : longB 8 x.q = true) : anyI xs = true := List.any_eq_true.2 ⟨x, hx, h⟩
theorem anyI_no {xs : List RI} (h : ∀ (i : Nat) (x : RI), xs[i]? = some x → longB 8 x.q = false) : anyI xs = false := by
  unfold anyI
  rw [Bool.eq_false_iff]
  intro hh
  obtain ⟨x, hx, h1⟩ := List.any_eq_true.1 hh
  obtain ⟨j, hj⟩ := List.mem_iff_getElem?.1 hx
  rw [h j x hj] at h1
  cases h1
theorem anyI_short {xs : List RI} (h : anyI xs = false) : Shrt 8 xs := by
  intro x hx
  have h1 : ¬ longB 8 x.q = true := fun hh => by rw [anyI_yes hx hh] at h; cases h
  unfold longB at h1
  rw [decide_eq_true_eq] at h1
  omega
set_option maxHeartbeats 2000000 in
theorem law_many {w : World} {A : Option Addr} {n c : Nat} {xs : List RI} (h : SlP w A n c xs) :
    Calls Tryz.prog 9 #[.slice A n c] w (RetBl (manyB xs) w) := by
  have hlen : xs.length = n := h.1.1
  have hmx : n ≤ 9223372036854775807 := by have h1 := h.1.2.1; have h2 := h.1.2.2.1; unfold maxLen at h2; omega
  have HL := Lib.hid hlen
  clear hlen
  go_enter Tryz.func9, Tryz.ntmps9
  go_wp2_with fail
  go_loopw [6] (fun iv wr => ∃ j : Nat, j ≤ n ∧ iv = .int .i64 j ∧ Below w.heap.size w wr ∧ Hid (∀ (i : Nat) x, i < j → xs[i]? = some x → longB 8 x.q = false)) (fun iv _ => n - mes iv)
  case atStart => exact ⟨0, by omega, rfl, Below.refl _ _, Lib.hid (fun i x hi => absurd hi (by omega))⟩
  case round =>
    obtain ⟨j, hj, rfl, hb, HF⟩ := hrel
    by_cases hj2 : j < n
    · obtain ⟨b0, off, x, rfl, hlt, hxk, hok, c0, c1, c2, c3, c4, c5⟩ := (h.below hb).at_ hj2
      have LG := plain_long (w := wr) (s := x.q.s) (A := x.q.A) (A' := x.q.A') (n := x.q.n) (n' := x.q.n') (c := x.q.c) (c' := x.q.c') 8
      obtain ⟨r, hr⟩ : ∃ r, longB 8 x.q = r := ⟨_, rfl⟩
      have LG2 : Calls Tryz.prog 43 #[.agg #[.bool x.q.s, .slice x.q.A x.q.n x.q.c, .slice x.q.A' x.q.n' x.q.c'], .int .i64 8] wr (RetBl (longB 8 x.q) wr) := LG
      rw [hr] at LG2
      have HK := Lib.hid LG2
      have HR := Lib.hid hr
      clear LG LG2 hok hr
      cases r
      case true =>
        have hyes := anyI_yes (mem_at hxk) HR.out
        clear HF hxk
        go_wp2_with fail
        with_reducible refine HK.out.mono ?_
        rintro _ w2 ⟨rfl, b2⟩
        go_wp2_with fail
        go_ret
        exact ⟨by unfold manyB; rw [hyes]; rfl, bb hb b2⟩
      case false =>
        go_wp2_with fail
        with_reducible refine HK.out.mono ?_
        rintro _ w2 ⟨rfl, b2⟩
        go_wp2_with fail
        go_roundw
        case rel => exact ⟨j + 1, by omega, by go_num, bb hb b2, Lib.hid (fun i y hi hy => by
          rcases Nat.lt_or_eq_of_le (Nat.le_of_lt_succ hi) with h9 | h9
          · exact HF.out i y h9 hy
          · rw [h9, hxk] at hy; cases hy; exact HR.out)⟩
        case measure => simp [mes, intOf]; omega
    · obtain rfl : j = n := by omega
      have hno := anyI_no (xs := xs) (fun i x hx => HF.out i x (by
        have := HL.out
        rcases Nat.lt_or_ge i xs.length with h9 | h9
        · omega
        · rw [List.getElem?_eq_none h9] at hx; cases hx) hx)
      have hm : manyB xs = decide (300 < j) := by unfold manyB; rw [hno, Bool.false_or, HL.out]
      rcases Nat.lt_or_ge 300 j with h9 | h9
      · rw [decide_eq_true h9] at hm
        go_wp2_with fail
        go_ret
        exact ⟨by rw [hm]; simp; omega, hb⟩
      · rw [decide_eq_false (by omega)] at hm
        go_wp2_with fail
        go_ret
        exact ⟨by rw [hm]; simp; omega, hb⟩

end Go.Proofs.YtibgpeaplmcogaaGreatDoor

namespace Go.Proofs.YtibgpeaplmcogaaGreatDoor
set_option maxRecDepth 100000
open Go.RowKit
set_option linter.unusedVariables false
set_option linter.unusedSimpArgs false

theorem SlC.new {k : Nat} {V : Type} {cells : V → List Value} {ok : World → V → Prop} (w : World) (arr : Array Value) (t : TypeId) (xs : List V) (hl : ∀ x ∈ xs, (cells x).length = k) (he : arr.toList = xs.flatMap cells) (hok : ∀ x ∈ xs, ok (w.alloc (.cells arr t)) x) (hn : xs.length ≤ maxLen) :
    SlC k cells ok (w.alloc (.cells arr t)) (some ⟨w.heap.size, 0, none⟩) xs.length xs.length xs := by
  refine ⟨⟨rfl, Nat.le_refl _, hn, fun x hx => ⟨hok x hx, hl x hx⟩⟩, fun h0 => ⟨w.heap.size, 0, rfl, by simp, fun j hj i hi => ?_⟩⟩
  rw [← flat_at xs hl j i hi, ← he, cell_of_row _ w.heap.size _ arr t (0, 0) (heap_alloc_new w _), Nat.zero_add]
  simp
theorem SlC.take {k : Nat} {V : Type} {cells : V → List Value} {ok : World → V → Prop} {w : World} {A : Option Addr} {n c m : Nat} {xs : List V} (h : SlC k cells ok w A n c xs) (hm : m ≤ n) : SlC k cells ok w A m c (xs.take m) := by
  refine ⟨⟨by rw [List.length_take, h.1.1]; omega, by have := h.1.2.1; omega, h.1.2.2.1, fun x hx => h.1.2.2.2 x (List.mem_of_mem_take hx)⟩, fun h0 => ?_⟩
  obtain ⟨b, off, e, hlt, hc⟩ := h.2 (by omega)
  refine ⟨b, off, e, hlt, fun j hj i hi => ?_⟩
  rw [hc j (by omega) i hi, List.getElem?_take, if_pos hj]
def ins0 (op : Int) : RI := ⟨op, 0, 0, ⟨false, none, 0, 0, [], none, 0, 0, []⟩⟩
theorem ins0_ok (w : World) {op : Int} (h : I64 op) : (ins0 op).ok w := ⟨h, by unfold I64; simp [ins0], by unfold I64; simp [ins0], Sl.nil _ _ _, Sl.nil _ _ _, by unfold maxLen; simp [ins0], by unfold maxLen; simp [ins0]⟩
theorem ins0_sh {l : List RI} (h : ∀ x ∈ l, ∃ op, x = ins0 op) {N : Nat} : Shrt N l := by
  intro x hx
  obtain ⟨op, rfl⟩ := h x hx
  exact ⟨Nat.zero_le _, Nat.zero_le _⟩
end Go.Proofs.YtibgpeaplmcogaaGreatDoor
