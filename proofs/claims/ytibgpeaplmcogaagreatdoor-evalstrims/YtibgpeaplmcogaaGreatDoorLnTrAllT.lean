/-
  Plain mathematics of doubles, with exponents: the word of the double nearest to p / q * 2^e; what is lost below stands for nothing but itself; which products m * 2^e are doubles. No Go in sight. Conditions: those that each theorem names.
-/
import Derived.Test.YtibgpeaplmcogaaGreatDoorLnRcAllT
import Derived.Test.YtibgpeaplmcogaaGreatDoorNatMathOneT
namespace Go.Proofs.YtibgpeaplmcogaaGreatDoor
set_option maxRecDepth 100000
open Go.RowKit Go.Maps
set_option linter.unusedVariables false
set_option linter.unusedSimpArgs false

theorem infoP : (Tryz.prog.info? 27).map (fun i => (i.zero, i.size, i.bytes)) = some (some (.agg #[.int .i64 0, .int .i64 0, .int .i64 0, .bool false, .slice none 0 0, .slice none 0 0]), 6, 80) := by kernel_rfl
theorem zeroP : ∀ u ∈ (Value.agg #[.int .i64 0, .int .i64 0, .int .i64 0, .bool false, .slice none 0 0, .slice none 0 0]).cells.toList, NoW u := by
  intro u hu
  have e : (Value.agg #[.int .i64 0, .int .i64 0, .int .i64 0, .bool false, .slice none 0 0, .slice none 0 0]).cells.toList = [.int .i64 0, .int .i64 0, .int .i64 0, .bool false, .slice none 0 0, .slice none 0 0] := rfl
  rw [e] at hu
  simp only [List.mem_cons, List.not_mem_nil, or_false] at hu
  rcases hu with rfl | rfl | rfl | rfl | rfl | rfl
  · exact NoW_i64 _
  · exact NoW_i64 _
  · exact NoW_i64 _
  · exact NoW_bool _
  · exact NoW_slice _ _ _
  · exact NoW_slice _ _ _
/-- a row of instructions that the call made -/
def OwnP (B : Nat) (w : World) (v : Value) (ys : List RI) : Prop := OwnC 6 RI.cells 27 B w v ys ∧ ∀ y ∈ ys, y.ok w
theorem OwnP.below {B : Nat} {w w' : World} {v : Value} {ys : List RI} (h : OwnP B w v ys) (hb : Below w.heap.size w w') : OwnP B w' v ys := ⟨h.1.below hb, fun y hy => RI.below (h.2 y hy) hb⟩
theorem OwnP.slp {B : Nat} {w : World} {A : Option Addr} {n c : Nat} {ys : List RI} (h : OwnP B w (.slice A n c) ys) : SlP w A n c ys := h.1.slc h.2
/-- a map has been stored into -/
theorem OwnP.mapped {B : Nat} {w w' : World} {v : Value} {ys : List RI} {mb : Nat} (h : OwnP B w v ys) (hg : w.grownBy w' (some mb)) (hm : ∃ es clock, w.heap[mb]? = some (.map es clock)) (hn : NoWAt w mb) : OwnP B w' v ys := by
  refine ⟨⟨h.1.1, ?_⟩, fun y hy => RI.grownC (h.2 y hy) hg (fun g e => by cases e; exact hn)⟩
  rcases h.1.2 with h2 | ⟨g, cap, cur, hv, hg2, hh, r⟩
  · exact .inl h2
  · have hlt : g < w.heap.size := by
      rcases Nat.lt_or_ge g w.heap.size with h9 | h9
      · exact h9
      · rw [Array.getElem?_eq_none h9] at hh; cases hh
    refine .inr ⟨g, cap, cur, hv, hg2, (hg.block g hlt (fun e => ?_)).trans hh, r⟩
    cases e
    obtain ⟨es, clock, h8⟩ := hm
    rw [h8] at hh
    cases hh
theorem OwnP.append {B : Nat} {w w' : World} {v v' : Value} {ys : List RI} {y : RI} {o : Obj} (h : OwnP B w v ys) (hy : y.ok w) (ho : OwnC 6 RI.cells 27 B w' v' (ys ++ [y])) (hg : (w.alloc o).grownBy w' v.ownBlock) : OwnP B w' v' (ys ++ [y]) := by
  have ba := below_alloc w o
  have hn := (h.1.below ba).noW
  refine ⟨ho, fun x hx => ?_⟩
  rcases List.mem_append.1 hx with hx | hx
  · exact RI.grownC (RI.below (h.2 x hx) ba) hg hn
  · rw [List.mem_singleton.1 hx]
    exact RI.grownC (RI.below hy ba) hg hn
theorem ownC_block {w : World} {B : Nat} {v : Value} {ys : List RI} (h : OwnC 6 RI.cells 27 B w v ys) : ∀ g, v.ownBlock = some g → ∃ cur, w.heap[g]? = some (.cells cur 27 (0, 0)) := by
  intro g hg
  rcases h.2 with ⟨rfl, rfl⟩ | ⟨g', cap, cur, rfl, _, h2, _⟩
  · cases hg
  · have e : g' = g := by simpa [Value.ownBlock] using hg
    subst e
    exact ⟨cur, h2⟩
/-- which numbers stand in the map after j instructions, and which new ones -/
def thM (mk : Nat → Bool) (j : Nat) (z : Int) : Bool := decide (0 ≤ z ∧ z < (j : Int)) && mk z.toNat
def vM (mk : Nat → Bool) (z : Int) : Int := (cnt mk z.toNat : Int)
theorem thM_no {mk : Nat → Bool} {j : Nat} (h : mk j = false) (z : Int) : thM mk j z = thM mk (j + 1) z := by
  unfold thM
  by_cases e : z = (j : Int)
  · subst e
    rw [show ((j : Int)).toNat = j by omega, h, Bool.and_false, Bool.and_false]
  · congr 1
    rw [decide_eq_decide]
    omega
theorem thM_yes {mk : Nat → Bool} {j : Nat} (h : mk j = true) (z : Int) : (thM mk j z || decide (z = (j : Int))) = thM mk (j + 1) z := by
  unfold thM
  by_cases e : z = (j : Int)
  · subst e
    rw [show ((j : Int)).toNat = j by omega, h, decide_eq_true (rfl : (j : Int) = j), Bool.or_true, decide_eq_true (by omega : (0 : Int) ≤ (j : Int) ∧ (j : Int) < ((j + 1 : Nat) : Int))]
    rfl
  · rw [decide_eq_false e, Bool.or_false]
    congr 1
    rw [decide_eq_decide]
    omega
/-- what is left, and the new numbers -/
def RetTr (l : List PI) (outs : List Int) (N : Nat) (w : World) (e : Ending) (w' : World) : Prop := ∃ mk, IsNeed l outs mk ∧ ∃ A1 n1 c1 ys A2 n2 c2, e = .returned (.tuple #[.slice A1 n1 c1, .slice A2 n2 c2]) ∧
  SlP w' A1 n1 c1 ys ∧ ys.map RI.pi = trimL l mk ∧ Shrt N ys ∧ SlZ w' A2 n2 c2 (trimO l mk outs) ∧ Below w.heap.size w w'

set_option maxRecDepth 100000 in
set_option maxHeartbeats 4000000 in
theorem line_Trim {w : World} {A B : Option Addr} {n c m d N : Nat} {xs : List RI} {outs : List Int} (h : SlP w A n c xs) (hs : Shrt N xs) (hN : N ≤ 1000) (ho : SlZ w B m d outs) (hn : n ≤ 300) (hm : m ≤ 65536) (hp : IsProg vq nq (xs.map RI.pi)) :
    Calls Tryz.prog 27 #[.slice A n c, .slice B m d] w (RetTr (xs.map RI.pi) outs N w) := by
  have hlen : (xs.map RI.pi).length = n := by rw [List.length_map]; exact h.1.1
  have P1 := line_right h hs hN (by omega)
  rw [(progB_iff _).2 hp] at P1
  have P2 := fun (w1 : World) (hb : Below w.heap.size w w1) => line_needs (h.below hb) (ho.below hb) (prog_ahead hp) (by omega) hm
  have HP1 := Lib.hid P1
  have HP2 := Lib.hid P2
  have HL := Lib.hid hlen
  have HPR := Lib.hid hp
  have HSH := Lib.hid hs
  have hmm := @run_makeMap Tryz.prog
  obtain ⟨i0, hi0, hz0, hz1, hz2⟩ := info_parts infoP
  clear P1 P2 hlen hp hs
  go_enter Tryz.func27, Tryz.ntmps27
  go_wp2_with fail
  with_reducible refine HP1.out.mono ?_
  rintro _ w1 ⟨rfl, b1⟩
  obtain ⟨V, hV⟩ : ∃ V, w1.alloc (.map #[] 0) = V := ⟨_, rfl⟩
  have M0 := MapIs.made w1
  have bV := below_alloc w1 (.map #[] 0)
  rw [hV] at M0 bV
  have HV := Lib.hid hV
  clear hV
  go_wp2_with fail
  rw [HV.out]
  with_reducible refine (HP2.out _ (bb b1 bV)).mono ?_
  rintro _ w2 ⟨g, bs, rfl, hg, hbl, hbr, hnd, b2⟩
  clear HP1 HP2 hmm HV
  have y2 : Below w.heap.size w w2 := bb b1 (bb bV b2)
  have M2 := M0.below b2
  obtain ⟨mb, hmb⟩ : ∃ mb, w1.heap.size = mb := ⟨_, rfl⟩
  have hw1 := b1.size
  rw [hmb] at M2 hw1
  simp only [hmb]
  obtain ⟨mk, hmk⟩ : ∃ mk : Nat → Bool, mk = fun i => bs.getD i false := ⟨_, rfl⟩
  rw [← hmk] at hnd
  have HMK := Lib.hid hmk
  have HND := Lib.hid hnd
  have HBR := Lib.hid hbr
  have HBL := Lib.hid hbl
  have HM2 : Hid (MapIs w2 mb 0 (thM mk 0) (vM mk)) := Lib.hid (M2.congr (fun z => by unfold thM; rw [decide_eq_false (by omega)]; rfl) (fun z hz => by cases hz))
  clear hmk hnd hbr hbl M2 M0 hmb b1 bV b2
  go_wp2_with fail
  go_loopw [6, 18] (fun kv iv wr => ∃ (j : Nat) (ys : List RI), j ≤ n ∧ iv = .int .i64 j ∧ Hid (OwnP w.heap.size wr kv ys) ∧ Hid (ys.map RI.pi = trimTo (fun i => ren mk ((xs.map RI.pi).getD i PI.nil)) mk j) ∧ Hid (Shrt N ys) ∧ Hid (BRow wr g bs) ∧ Hid (MapIs wr mb j (thM mk j) (vM mk)) ∧ Below w.heap.size w wr) (fun _ iv _ => n - mes iv)
  case atStart => exact ⟨0, [], by omega, rfl, Lib.hid ⟨OwnC.nil, by simp⟩, Lib.hid rfl, Lib.hid (fun x hx => by simp at hx), HBR, HM2, y2⟩
  case round =>
    clear HBR HM2 y2
    obtain ⟨j, ys, hj, rfl, HK, HT, HS, HB, HM, hb⟩ := hrel
    have hyl : ys.length = cnt mk j := by
      have h9 := congrArg List.length HT.out
      rw [List.length_map, trimTo_len] at h9
      exact h9
    have hcj := cnt_le mk j
    obtain ⟨A', c', ek, hcap, hcm⟩ := HK.out.1.form
    subst ek
    by_cases hj2 : j < n
    · have kb := HB.out.cell (i := j) (by have := HBL.out; omega)
      have hbj : bs.getD j false = mk j := by rw [HMK.out]
      rw [hbj] at kb
      have HBJ := Lib.hid hbj
      clear hbj
      cases hmj : mk j
      case false =>
        rw [hmj] at kb
        have HMJ := Lib.hid hmj
        have HYL := Lib.hid hyl
        clear hmj hyl
        go_wp2_with fail
        go_roundw
        case rel => exact ⟨j + 1, ys, by omega, by go_num, HK, Lib.hid (by unfold trimTo; rw [HMJ.out, if_neg (by decide)]; exact HT.out), HS, HB, Lib.hid ((HM.out.congr (thM_no HMJ.out) (fun _ _ => rfl)).mono1), hb⟩
        case measure => simp [mes, intOf]; omega
      case true =>
        rw [hmj] at kb
        obtain ⟨b0, off, x, rfl, hlt, hxk, hok, c0, c1, c2, c3, c4, c5⟩ := (h.below hb).at_ hj2
        have hp9 := pi_at hxk
        have hfit : fits vq nq x.pi j := by rw [← hp9]; exact HPR.out.1 j (by rw [HL.out]; exact hj2)
        obtain ⟨hx1, hx2⟩ := HSH.out x (mem_at hxk)
        obtain ⟨D, hD, hDm, hM⟩ := HM.out
        have hlt0 : b0 < w.heap.size := by
          obtain ⟨b8, o8, e8, hlt8, _⟩ := h.2 (by omega)
          injection e8 with e8
          injection e8 with e8
          omega
        have hmbw := HM.out.lt
        have hgw := HB.out.lt
        have hgm : g ≠ mb := by
          intro e
          obtain ⟨es, clock, h1, _⟩ := hD
          have h2 : Box 4 wr g _ := HB.out
          unfold Box at h2
          rw [e, h1] at h2
          cases h2
        have hmap : ∃ es clock, wr.heap[mb]? = some (.map es clock) := by
          obtain ⟨es, clock, h1, _⟩ := hD
          exact ⟨es, clock, h1⟩
        have hnw := HM.out.noW
        have HD := Lib.hid hD
        have HDM := Lib.hid hDm
        have HMM := Lib.hid hM
        have HMJ := Lib.hid hmj
        have HX := Lib.hid (And.intro hp9 (And.intro hfit (And.intro hx1 hx2)))
        have HXN := Lib.hid (And.intro hok.2.2.2.1.len hok.2.2.2.2.1.len)
        have HOK := Lib.hid hok
        have HYL := Lib.hid hyl
        have HMAP := Lib.hid hmap
        have HNW := Lib.hid hnw
        have hI1 : I64 (j : Int) := by unfold I64; omega
        have hI2 : I64 ((ys.length : Nat) : Int) := by unfold I64; omega
        have hcell : ∀ w3, wr.grownBy w3 (some mb) → w3.cell? ⟨b0, off + j * 6, none⟩ = some (.int .i64 x.op) ∧ w3.cell? ⟨b0, off + j * 6 + 1, none⟩ = some (.int .i64 x.a) ∧ w3.cell? ⟨b0, off + j * 6 + 2, none⟩ = some (.int .i64 x.b) ∧ w3.cell? ⟨b0, off + j * 6 + 3, none⟩ = some (.bool x.q.s) ∧ w3.cell? ⟨b0, off + j * 6 + 4, none⟩ = some (.slice x.q.A x.q.n x.q.c) ∧ w3.cell? ⟨b0, off + j * 6 + 5, none⟩ = some (.slice x.q.A' x.q.n' x.q.c') := fun w3 hg3 => by
          have hk := fun i => World.cell?_of_block (a := ⟨b0, i, none⟩) (hg3.block b0 hlt (by intro e; injection e with e; omega))
          exact ⟨(hk _).trans c0, (hk _).trans c1, (hk _).trans c2, (hk _).trans c3, (hk _).trans c4, (hk _).trans c5⟩
        have HC := Lib.hid hcell
        clear hD hDm hM hmj hp9 hfit hx1 hx2 hok hxk hyl hmap hnw hcell c0 c1 c2 c3 c4 c5
        go_wp2_with (at_mapUpdate; refine wpList_mapUpdate_own _ rfl _ _ _ 71 rfl 3 3 lawI Tryz.underlying71 _ mb j D rfl HD.out (by unfold maxLen; omega) (.int .i64 (j : Int)) (.int .i64 ((ys.length : Nat) : Int)) _ rfl rfl (keyOf_int_mk Tryz.underlying3 (wfI hI1)) _ [] (plainElem_int Tryz.underlying3 (wfI hI2)) ?_; intro w3 hown3 hgrow3; obtain ⟨d0, d1, d2, d3, d4, d5⟩ := HC.out w3 hgrow3)
        have M3 : MapIs w3 mb (j + 1) (thM mk (j + 1)) (vM mk) := (MapIs.put HDM.out HMM.out hI1 hown3).congr (thM_yes HMJ.out) (fun z hz => by
          by_cases e : z = (j : Int)
          · subst e
            rw [if_pos rfl, HYL.out]
            unfold vM
            rw [show ((j : Int)).toNat = j by omega]
          · rw [if_neg e])
        have hb3 : Below w.heap.size w w3 := hb.grown hgrow3 hb.size (fun k e => by cases e; exact hw1)
        have K3 := HK.out.mapped hgrow3 HMAP.out HNW.out
        have B3 : BRow w3 g bs := (hgrow3.block g hgw (by intro e; injection e with e; exact hgm e)).trans HB.out
        have hok3 : x.ok w3 := RI.grownC HOK.out hgrow3 (fun g9 e => by cases e; exact HNW.out)
        have RN := line_renum hok3 M3 HX.out.2.1 (by omega) (by have := HX.out.2.2.1; omega) (by have := HX.out.2.2.2; omega) (mk := mk) (fun t ht => by
          have hu := need_uses (prog_ahead HPR.out) HND.out (i := j) (by rw [HL.out]; exact hj2) HMJ.out (j := (t : Int)) (by rw [HX.out.1]; exact ht)
          obtain ⟨u1, u2, u3⟩ := hu
          rw [show ((t : Int)).toNat = t by omega] at u3
          refine ⟨?_, ?_⟩
          · unfold thM
            rw [decide_eq_true (by omega : (0 : Int) ≤ (t : Int) ∧ (t : Int) < ((j + 1 : Nat) : Int)), show ((t : Int)).toNat = t by omega, u3]
            rfl
          · unfold vM
            rw [show ((t : Int)).toNat = t by omega])
        have HRN := Lib.hid RN
        have HM3 := Lib.hid M3
        have HK3 := Lib.hid K3
        have HB3 := Lib.hid B3
        clear RN M3 K3 B3 hok3 hown3 hgrow3 HC HD HDM HMM HMAP HNW HOK HK HB d0 d1 d2 d3 d4 d5
        with_reducible refine HRN.out.mono ?_
        rintro _ w4 ⟨y, rfl, yok, ypi, b4⟩
        have hb4 : Below w.heap.size w w4 := bb hb3 b4
        have K4 := HK3.out.below b4
        have HK4 := Lib.hid K4
        have HYO := Lib.hid yok
        have HYP := Lib.hid ypi
        clear K4 yok ypi HRN HK3
        go_wp2_with (at_builtin; refine wpList_append_C _ rfl _ _ 22 rfl w.heap.size 27 i0 _ 80 Tryz.underlying22 hi0 hz0 hz1 hz2 rfl (by decide) zeroP _ ys rfl (HK4.out.1.below (below_alloc _ _)) ⟨w4.heap.size, 0, none⟩ 1 y rfl rfl ?c1 (ri_one _) (ri_noW _) ?c3 ?c4 ?c5 ?_)
        case c1 => exact news_new w4 _ _
        case c3 => have := HYL.out; unfold maxLen; omega
        case c4 => have := HYL.out; omega
        case c5 => have := hb4.size; simp; omega
        intro v' w5 hown hgrow
        have ba := below_alloc w4 (.cells #[.int .i64 y.op, .int .i64 y.a, .int .i64 y.b, .bool y.q.s, .slice y.q.A y.q.n y.q.c, .slice y.q.A' y.q.n' y.q.c'] 27)
        have K5 := HK4.out.append HYO.out hown hgrow
        have hbk := ownC_block (HK4.out.1.below ba)
        have B5 : BRow w5 g bs := by
          have B4 := Box.below' (Box.below' HB3.out b4) ba
          refine (hgrow.block g B4.lt (fun e => ?_)).trans B4
          obtain ⟨cur, h9⟩ := hbk g e.symm
          unfold Box at B4
          rw [B4] at h9
          cases h9
        have M5 : MapIs w5 mb (j + 1) (thM mk (j + 1)) (vM mk) := by
          have M4 := (HM3.out.below b4).below ba
          refine M4.kept hgrow (fun e => ?_)
          obtain ⟨cur, h9⟩ := hbk mb e.symm
          obtain ⟨D9, ⟨es, clock, h8, _⟩, _⟩ := M4
          rw [h8] at h9
          cases h9
        have hb5 := (hb4.alloc hb4.size _).grown hgrow (by have := hb4.size; simp; omega) (HK4.out.1.base)
        have S5 : Shrt N (ys ++ [y]) := fun z hz => by
          rcases List.mem_append.1 hz with hz | hz
          · exact HS.out z hz
          · rw [List.mem_singleton.1 hz]
            have e1 : y.q.z = x.q.z := by have := congrArg (fun p : PI => p.q.2.1) HYP.out; exact this
            have e2 : y.q.z' = x.q.z' := by have := congrArg (fun p : PI => p.q.2.2) HYP.out; exact this
            have l1 := HYO.out.2.2.2.1.len
            have l2 := HYO.out.2.2.2.2.1.len
            have l3 := HX.out.2.2
            rw [e1] at l1
            rw [e2] at l2
            have q1 : x.q.n = x.q.z.length := HXN.out.1
            have q2 : x.q.n' = x.q.z'.length := HXN.out.2
            omega
        have T5 : (ys ++ [y]).map RI.pi = trimTo (fun i => ren mk ((xs.map RI.pi).getD i PI.nil)) mk (j + 1) := by
          unfold trimTo
          rw [HMJ.out, if_pos rfl, List.map_append, HT.out, HX.out.1, ← HYP.out]
          rfl
        have HK5 := Lib.hid K5
        have HB5 := Lib.hid B5
        have HM5 := Lib.hid M5
        have HS5 := Lib.hid S5
        have HT5 := Lib.hid T5
        clear K5 B5 M5 S5 T5 hown hgrow hbk
        go_wp2_with fail
        go_roundw
        case rel => exact ⟨j + 1, ys ++ [y], by omega, by go_num, HK5, HT5, HS5, HB5, HM5, hb5⟩
        case measure => simp [mes, intOf]; omega
    · obtain rfl : j = n := by omega
      have NN := line_newNumbers (ho.below hb) HM.out hm
      have HNN := Lib.hid NN
      have HYL := Lib.hid hyl
      clear NN hyl
      go_wp2_with fail
      with_reducible refine HNN.out.mono ?_
      rintro _ w4 ⟨A2, n2, c2, rfl, z2, b4⟩
      go_wp2_with fail
      go_ret2
      have hout : (outs.map fun o => if thM mk j o = true then vM mk o else -1) = trimO (xs.map RI.pi) mk outs := by
        unfold trimO
        refine List.map_congr_left fun o ho9 => ?_
        unfold newAt
        rw [HL.out]
        by_cases h9 : 0 ≤ o ∧ o < (j : Int)
        · have hmo : mk o.toNat = true := by
            rw [HND.out o.toNat (by rw [HL.out]; omega)]
            left
            rw [show ((o.toNat : Nat) : Int) = o by omega]
            exact ho9
          rw [if_pos h9, if_pos (by unfold thM; rw [decide_eq_true h9, hmo]; rfl)]
          rfl
        · rw [if_neg h9, if_neg (by unfold thM; rw [decide_eq_false h9, Bool.false_and]; decide)]
      rw [hout] at z2
      refine ⟨mk, HND.out, _, _, _, ys, _, _, _, rfl, (HK.out.below b4).slp, ?_, HS.out, z2, bb hb b4⟩
      unfold trimL
      rw [HL.out]
      exact HT.out

end Go.Proofs.YtibgpeaplmcogaaGreatDoor

namespace Go.Proofs.YtibgpeaplmcogaaGreatDoor
set_option maxRecDepth 100000
open Go.RowKit
set_option linter.unusedVariables false
set_option linter.unusedSimpArgs false

end Go.Proofs.YtibgpeaplmcogaaGreatDoor

namespace Go.Proofs.YtibgpeaplmcogaaGreatDoor
set_option maxRecDepth 100000
open Go.RowKit
set_option linter.unusedVariables false
set_option linter.unusedSimpArgs false

end Go.Proofs.YtibgpeaplmcogaaGreatDoor

namespace Go.Proofs.YtibgpeaplmcogaaGreatDoor
set_option maxRecDepth 100000
set_option linter.unusedVariables false
set_option linter.unusedSimpArgs false

/-- p / d, rounded to the nearest natural, ties to the even one -/
def rdiv (p d : Nat) : Nat := if d < 2 * (p % d) ∨ (2 * (p % d) = d ∧ p / d % 2 = 1) then p / d + 1 else p / d
/-- how many bits the nearest double leaves out below -/
def ulp (p d : Nat) : Nat := blen (p / d) - 53
@[irreducible] def INF : Nat := 9218868437227405312
/-- 2^52 -/
@[irreducible] def B52 : Nat := 4503599627370496
/-- the word, without a sign, of the double nearest to p / d -/
def mag (p d : Nat) : Nat := min (ulp p d * B52 + rdiv p (d * 2 ^ ulp p d)) INF
/-- what a word without a sign says -/
def fv (b : Nat) : Nat := if b / B52 = 0 then b else (b % B52 + B52) * 2 ^ (b / B52 - 1)

theorem B52_pow : B52 = 2 ^ 52 := by unfold B52; rfl
theorem B52_eq : B52 = 4503599627370496 := by unfold B52; rfl
theorem INF_eq : INF = 2047 * B52 := by unfold INF B52; rfl
theorem INF_lit : INF = 9218868437227405312 := by unfold INF; rfl
theorem B52_pos : 0 < B52 := by unfold B52; omega

theorem rdiv_scale (p d : Nat) {c : Nat} (hc : 0 < c) : rdiv (p * c) (d * c) = rdiv p d := by
  unfold rdiv
  rw [Nat.mul_div_mul_right _ _ hc, Nat.mul_mod_mul_right]
  have h1 : d * c < 2 * (p % d * c) ↔ d < 2 * (p % d) := by
    rw [← Nat.mul_assoc]; exact ⟨fun h => Nat.lt_of_mul_lt_mul_right h, fun h => Nat.mul_lt_mul_of_pos_right h hc⟩
  have h2 : 2 * (p % d * c) = d * c ↔ 2 * (p % d) = d := by
    rw [← Nat.mul_assoc]; exact ⟨fun h => Nat.eq_of_mul_eq_mul_right hc h, fun h => by rw [h]⟩
  simp only [h1, h2]
/-- what rounding does: at most half a unit off; where it is just half a unit off, the result is even -/
theorem rdiv_spec (p : Nat) {d : Nat} (hd : 0 < d) : 2 * p ≤ (2 * rdiv p d + 1) * d ∧ 2 * rdiv p d * d ≤ 2 * p + d ∧ (2 * p = (2 * rdiv p d + 1) * d → rdiv p d % 2 = 0) ∧ (2 * rdiv p d * d = 2 * p + d → rdiv p d % 2 = 0) := by
  have h1 : p / d * d + p % d = p := Nat.div_add_mod' p d
  have h2 := Nat.mod_lt p hd
  unfold rdiv
  generalize p / d = q at *
  generalize p % d = r at *
  have e0 : (2 * q + 1) * d = 2 * (q * d) + d := by grind
  have e1 : 2 * q * d = 2 * (q * d) := by grind
  have e2 : (2 * (q + 1) + 1) * d = 2 * (q * d) + 3 * d := by grind
  have e3 : 2 * (q + 1) * d = 2 * (q * d) + 2 * d := by grind
  generalize q * d = x at *
  by_cases h : d < 2 * r ∨ (2 * r = d ∧ q % 2 = 1)
  · rw [if_pos h, e2, e3]
    omega
  · rw [if_neg h, e0, e1]
    omega
theorem rdiv_mono1 {p q d : Nat} (hd : 0 < d) (h : p ≤ q) : rdiv p d ≤ rdiv q d := by
  obtain ⟨_, a2, _, a4⟩ := rdiv_spec p hd
  obtain ⟨b1, _, b3, _⟩ := rdiv_spec q hd
  generalize rdiv p d = x at *
  generalize rdiv q d = y at *
  rcases Nat.lt_or_ge y x with hl | hl
  · exfalso
    have h1 : (2 * y + 1) * d + d ≤ 2 * x * d := by
      have : (2 * y + 2) * d ≤ 2 * x * d := Nat.mul_le_mul_right _ (by omega)
      have e : (2 * y + 2) * d = (2 * y + 1) * d + d := by grind
      omega
    have h2 : 2 * x * d = 2 * p + d := by omega
    have h3 : 2 * q = (2 * y + 1) * d := by omega
    have h4 : (2 * y + 2) * d = 2 * x * d := by
      have e : (2 * y + 2) * d = (2 * y + 1) * d + d := by grind
      omega
    have h5 : 2 * y + 2 = 2 * x := Nat.eq_of_mul_eq_mul_right hd h4
    have := a4 h2
    have := b3 h3
    omega
  · exact hl
theorem rdiv_mono {p d p' d' : Nat} (hd : 0 < d) (hd' : 0 < d') (h : p * d' ≤ p' * d) : rdiv p d ≤ rdiv p' d' := by
  rw [← rdiv_scale p d hd', ← rdiv_scale p' d' hd, Nat.mul_comm d' d]
  exact rdiv_mono1 (Nat.mul_pos hd hd') h
theorem rdiv_exact (k : Nat) {d : Nat} (hd : 0 < d) : rdiv (k * d) d = k := by
  unfold rdiv
  rw [Nat.mul_div_cancel _ hd, Nat.mul_mod_left, if_neg (by omega)]
theorem rdiv_one (k : Nat) : rdiv k 1 = k := by have := rdiv_exact k (d := 1) (by omega); rwa [Nat.mul_one] at this
theorem rdiv_small {p d : Nat} (h : 2 * p < d) : rdiv p d = 0 := by
  unfold rdiv
  rw [Nat.div_eq_of_lt (by omega), Nat.mod_eq_of_lt (by omega), if_neg (by omega)]

/-- only the ratio counts -/
theorem ulp_scale (p d : Nat) {c : Nat} (hc : 0 < c) : ulp (p * c) (d * c) = ulp p d := by unfold ulp; rw [Nat.mul_div_mul_right _ _ hc]
theorem mag_scale (p d : Nat) {c : Nat} (hc : 0 < c) : mag (p * c) (d * c) = mag p d := by
  unfold mag
  rw [ulp_scale p d hc, Nat.mul_right_comm d c, rdiv_scale _ _ hc]
theorem mag_eq {p d p' d' : Nat} (hd : 0 < d) (hd' : 0 < d') (h : p * d' = p' * d) : mag p d = mag p' d' := by
  rw [← mag_scale p d hd', ← mag_scale p' d' hd, h, Nat.mul_comm d' d]

theorem blen_mono {a b : Nat} (h : a ≤ b) : blen a ≤ blen b := blen_le (Nat.lt_of_le_of_lt h (blen_lt b))
theorem div_mono2 {p d p' d' : Nat} (hd : 0 < d) (hd' : 0 < d') (h : p * d' ≤ p' * d) : p / d ≤ p' / d' := by
  rw [Nat.le_div_iff_mul_le hd']
  have h1 : p / d * d ≤ p := Nat.div_mul_le_self p d
  have h2 : p / d * d * d' ≤ p * d' := Nat.mul_le_mul_right _ h1
  have h3 : p / d * d' * d ≤ p' * d := by rw [Nat.mul_right_comm]; omega
  exact Nat.le_of_mul_le_mul_right h3 hd
theorem ulp_mono {p d p' d' : Nat} (hd : 0 < d) (hd' : 0 < d') (h : p * d' ≤ p' * d) : ulp p d ≤ ulp p' d' := by
  have := blen_mono (div_mono2 hd hd' h)
  unfold ulp; omega
/-- how great the rounded number of units is -/
theorem units_le (p : Nat) {d : Nat} (hd : 0 < d) : rdiv p (d * 2 ^ ulp p d) ≤ 2 * B52 := by
  have hu : 0 < 2 ^ ulp p d := Nat.two_pow_pos _
  have h1 : p / (d * 2 ^ ulp p d) < 2 * B52 := by
    rw [← Nat.div_div_eq_div_mul, Nat.div_lt_iff_lt_mul hu]
    refine Nat.lt_of_lt_of_le (blen_lt (p / d)) ?_
    rw [B52_pow, ← Nat.pow_succ', ← Nat.pow_add]
    exact Nat.pow_le_pow_right (by omega) (by unfold ulp; omega)
  unfold rdiv
  split <;> omega
theorem units_ge (p : Nat) {d : Nat} (hd : 0 < d) (h0 : 0 < ulp p d) : B52 ≤ rdiv p (d * 2 ^ ulp p d) := by
  have hu : 0 < 2 ^ ulp p d := Nat.two_pow_pos _
  have h1 : B52 ≤ p / (d * 2 ^ ulp p d) := by
    rw [← Nat.div_div_eq_div_mul, Nat.le_div_iff_mul_le hu]
    have hp : 0 < p / d := by
      rcases Nat.eq_zero_or_pos (p / d) with h | h
      · unfold ulp at h0; rw [h, blen_zero] at h0; omega
      · exact h
    refine Nat.le_trans ?_ (blen_self hp)
    rw [B52_pow, ← Nat.pow_add]
    exact Nat.pow_le_pow_right (by omega) (by unfold ulp at *; omega)
  unfold rdiv
  split <;> omega
theorem mag_mono_lt {p d p' d' : Nat} (hd : 0 < d) (hd' : 0 < d') (hl : ulp p d < ulp p' d') : ulp p d * B52 + rdiv p (d * 2 ^ ulp p d) ≤ ulp p' d' * B52 + rdiv p' (d' * 2 ^ ulp p' d') := by
  have a := units_le p hd
  have b := units_ge p' hd' (by omega)
  have c : (ulp p d + 1) * B52 ≤ ulp p' d' * B52 := Nat.mul_le_mul_right _ hl
  rw [Nat.add_mul, Nat.one_mul] at c
  omega
theorem rdiv_mono_u {p d p' d' u : Nat} (hd : 0 < d) (hd' : 0 < d') (h : p * d' ≤ p' * d) : rdiv p (d * 2 ^ u) ≤ rdiv p' (d' * 2 ^ u) := by
  have hu : 0 < 2 ^ u := Nat.two_pow_pos _
  exact rdiv_mono (p := p) (d := d * 2 ^ u) (p' := p') (d' := d' * 2 ^ u) (Nat.mul_pos hd hu) (Nat.mul_pos hd' hu) (by
    rw [← Nat.mul_assoc, ← Nat.mul_assoc]; exact Nat.mul_le_mul_right _ h)
theorem mag_mono {p d p' d' : Nat} (hd : 0 < d) (hd' : 0 < d') (h : p * d' ≤ p' * d) : mag p d ≤ mag p' d' := by
  have h1 := ulp_mono hd hd' h
  have hh : ulp p d * B52 + rdiv p (d * 2 ^ ulp p d) ≤ ulp p' d' * B52 + rdiv p' (d' * 2 ^ ulp p' d') := by
    rcases Nat.lt_or_eq_of_le h1 with hl | hl
    · exact mag_mono_lt hd hd' hl
    · rw [hl]
      exact Nat.add_le_add_left (rdiv_mono_u hd hd' h) _
  unfold mag
  exact Nat.le_min.2 ⟨Nat.le_trans (Nat.min_le_left _ _) hh, Nat.min_le_right _ _⟩
theorem mag_le (p d : Nat) : mag p d ≤ INF := by unfold mag; omega
theorem mag_zero (d : Nat) : mag 0 d = 0 := by
  unfold mag ulp
  rw [Nat.zero_div, blen_zero]
  unfold rdiv
  simp

/-- a normalized significand -/
theorem ulp_norm {x s : Nat} (h1 : x < 2 * B52) (h2 : B52 ≤ x ∨ s = 0) : ulp (x * 2 ^ s) 1 = s := by
  unfold ulp
  rw [Nat.div_one]
  rcases h2 with h2 | rfl
  · rw [blen_mul_pow (by have := B52_pos; omega), blen_unique (n := x) (k := 52) (by rw [B52_pow] at h1; omega) (by rw [B52_pow] at h2; omega)]
    omega
  · rw [Nat.pow_zero, Nat.mul_one]
    have := blen_le (n := x) (k := 53) (by rw [B52_pow] at h1; omega)
    omega
theorem mag_norm {x s : Nat} (h1 : x < 2 * B52) (h2 : B52 ≤ x ∨ s = 0) : mag (x * 2 ^ s) 1 = min (s * B52 + x) INF := by
  unfold mag
  rw [ulp_norm h1 h2, Nat.one_mul, rdiv_exact _ (Nat.two_pow_pos s)]
/-- is p / d a double, just so? -/
def Ex (p d : Nat) : Prop := p % d = 0 ∧ p / d % 2 ^ ulp p d = 0 ∧ blen (p / d) ≤ 2098
instance (p d : Nat) : Decidable (Ex p d) := by unfold Ex; infer_instance
theorem ex_scale (p d : Nat) {c : Nat} (hc : 0 < c) : Ex (p * c) (d * c) ↔ Ex p d := by
  unfold Ex
  rw [ulp_scale p d hc, Nat.mul_div_mul_right _ _ hc, Nat.mul_mod_mul_right]
  have : p % d * c = 0 ↔ p % d = 0 := by
    rw [Nat.mul_eq_zero]; exact ⟨fun h => by omega, fun h => .inl h⟩
  rw [this]
theorem ex_norm {x s : Nat} (h1 : x < 2 * B52) (h2 : B52 ≤ x ∨ s = 0) : Ex (x * 2 ^ s) 1 ↔ s ≤ 2045 := by
  unfold Ex
  rw [ulp_norm h1 h2, Nat.mod_one, Nat.div_one, Nat.mul_mod_left]
  rcases h2 with h2 | rfl
  · rw [blen_mul_pow (by have := B52_pos; omega), blen_unique (n := x) (k := 52) (by rw [B52_pow] at h1; omega) (by rw [B52_pow] at h2; omega)]
    omega
  · rw [Nat.pow_zero, Nat.mul_one]
    have := blen_le (n := x) (k := 53) (by rw [B52_pow] at h1; omega)
    omega
/-- the word of what a word says -/
theorem fv_norm (b : Nat) : ∃ x s, fv b = x * 2 ^ s ∧ x < 2 * B52 ∧ (B52 ≤ x ∨ s = 0) ∧ s * B52 + x = b ∧ (b < INF → s ≤ 2045) := by
  have hm := Nat.mod_lt b B52_pos
  have hd := Nat.div_add_mod b B52
  unfold fv
  by_cases h : b / B52 = 0
  · rw [if_pos h]
    rw [h, Nat.mul_zero, Nat.zero_add] at hd
    exact ⟨b, 0, by simp, by omega, .inr rfl, by omega, fun _ => by omega⟩
  · rw [if_neg h]
    refine ⟨b % B52 + B52, b / B52 - 1, rfl, by omega, .inl (by omega), ?_, fun hb => ?_⟩
    · obtain ⟨k, hk⟩ : ∃ k, b / B52 = k + 1 := ⟨b / B52 - 1, (Nat.succ_pred_eq_of_ne_zero h).symm⟩
      rw [hk, Nat.mul_add, Nat.mul_one, Nat.mul_comm] at hd
      rw [hk, Nat.add_sub_cancel]
      omega
    · have : b / B52 < 2047 := by rw [Nat.div_lt_iff_lt_mul B52_pos]; rw [INF_eq] at hb; exact hb
      omega
theorem mag_fv {b : Nat} (h : b < INF) : mag (fv b) 1 = b := by
  obtain ⟨x, s, e, h1, h2, h3, _⟩ := fv_norm b
  rw [e, mag_norm h1 h2]; omega
theorem fv_lt {b c : Nat} (hb : b < INF) (hc : c < INF) (h : b < c) : fv b < fv c := by
  rcases Nat.lt_or_ge (fv b) (fv c) with hl | hl
  · exact hl
  · have := mag_mono (p := fv c) (d := 1) (p' := fv b) (d' := 1) (by omega) (by omega) (by omega)
    rw [mag_fv hb, mag_fv hc] at this
    omega
/-- a number's units, as a normalized significand -/
theorem units_norm (p : Nat) {d : Nat} (hd : 0 < d) : ∃ x s, rdiv p (d * 2 ^ ulp p d) * 2 ^ ulp p d = x * 2 ^ s ∧ x < 2 * B52 ∧ (B52 ≤ x ∨ s = 0) ∧ s * B52 + x = ulp p d * B52 + rdiv p (d * 2 ^ ulp p d) := by
  have h1 := units_le p hd
  have h2 := units_ge p hd
  generalize hx : rdiv p (d * 2 ^ ulp p d) = x at *
  generalize ulp p d = s at *
  rcases Nat.lt_or_ge x (2 * B52) with hl | hl
  · exact ⟨x, s, rfl, hl, by rcases Nat.eq_zero_or_pos s with h | h; exact .inr h; exact .inl (h2 h), rfl⟩
  · obtain rfl : x = 2 * B52 := by omega
    refine ⟨B52, s + 1, by rw [Nat.pow_succ]; grind, by have := B52_pos; omega, .inl (Nat.le_refl _), by grind⟩
/-- the double that rounding tells, made of its units: the same word; too great where there is none -/
theorem mag_units (p : Nat) {d : Nat} (hd : 0 < d) :
    (Ex (rdiv p (d * 2 ^ ulp p d) * 2 ^ ulp p d) 1 → mag (rdiv p (d * 2 ^ ulp p d) * 2 ^ ulp p d) 1 = mag p d) ∧ (¬ Ex (rdiv p (d * 2 ^ ulp p d) * 2 ^ ulp p d) 1 → mag p d = INF) := by
  obtain ⟨x, s, e, h1, h2, h3⟩ := units_norm p hd
  rw [e, mag_norm h1 h2, ex_norm h1 h2, h3]
  refine ⟨fun _ => rfl, fun h => ?_⟩
  unfold mag
  rw [← h3, INF_eq]
  have hs : 2046 ≤ s := by omega
  have : 2046 * B52 ≤ s * B52 := Nat.mul_le_mul_right _ hs
  rcases h2 with h2 | h2
  · omega
  · omega
/-- .. what it says -/
theorem fv_mag (p : Nat) {d : Nat} (hd : 0 < d) (h : mag p d < INF) : fv (mag p d) = rdiv p (d * 2 ^ ulp p d) * 2 ^ ulp p d := by
  obtain ⟨x, s, e, h1, h2, h3⟩ := units_norm p hd
  have hm : mag p d = s * B52 + x := by
    unfold mag at h ⊢
    rw [h3]; omega
  obtain ⟨y, t, e', k1, k2, k3, _⟩ := fv_norm (mag p d)
  rw [e, e']
  have hst : s = t ∧ x = y := by
    rw [hm] at k3
    have hs : s = t := by
      rcases Nat.lt_trichotomy s t with hl | hl | hl
      · exfalso
        have : (s + 1) * B52 ≤ t * B52 := Nat.mul_le_mul_right _ hl
        rw [Nat.add_mul, Nat.one_mul] at this
        rcases k2 with k2 | k2 <;> omega
      · exact hl
      · exfalso
        have : (t + 1) * B52 ≤ s * B52 := Nat.mul_le_mul_right _ hl
        rw [Nat.add_mul, Nat.one_mul] at this
        rcases h2 with h2 | h2 <;> omega
    subst hs
    exact ⟨rfl, by omega⟩
  rw [hst.1, hst.2]
theorem mag_parity (p : Nat) {d : Nat} (hd : 0 < d) (h : mag p d < INF) : mag p d % 2 = rdiv p (d * 2 ^ ulp p d) % 2 := by
  have : mag p d = ulp p d * B52 + rdiv p (d * 2 ^ ulp p d) := by unfold mag at h ⊢; omega
  rw [this, B52_eq]
  omega

/-- how far apart -/
def dist (a b : Nat) : Nat := a - b + (b - a)
/-- no multiple of the unit is nearer -/
theorem rdiv_near (p k : Nat) {d : Nat} (hd : 0 < d) : dist p (rdiv p d * d) ≤ dist p (k * d) ∧ (dist p (rdiv p d * d) = dist p (k * d) → k = rdiv p d ∨ rdiv p d % 2 = 0) := by
  obtain ⟨a1, a2, a3, a4⟩ := rdiv_spec p hd
  generalize rdiv p d = x at *
  have e1 : (2 * x + 1) * d = 2 * (x * d) + d := by grind
  have e2 : 2 * x * d = 2 * (x * d) := by grind
  rw [e1] at a1 a3
  rw [e2] at a2 a4
  unfold dist
  rcases Nat.lt_trichotomy k x with hl | hl | hl
  · have : (k + 1) * d ≤ x * d := Nat.mul_le_mul_right _ hl
    rw [Nat.add_mul, Nat.one_mul] at this
    generalize x * d = X at *
    generalize k * d = Y at *
    refine ⟨by omega, fun h => .inr (a4 (by omega))⟩
  · subst hl
    exact ⟨Nat.le_refl _, fun _ => .inl rfl⟩
  · have : (x + 1) * d ≤ k * d := Nat.mul_le_mul_right _ hl
    rw [Nat.add_mul, Nat.one_mul] at this
    generalize x * d = X at *
    generalize k * d = Y at *
    refine ⟨by omega, fun h => .inr (a3 (by omega))⟩
/-- NO DOUBLE IS NEARER: of two that are as near it is the even one -/
theorem nearest (p b : Nat) {d : Nat} (hd : 0 < d) (h : mag p d < INF) (hb : b < INF) :
    dist p (fv (mag p d) * d) ≤ dist p (fv b * d) ∧ (dist p (fv (mag p d) * d) = dist p (fv b * d) → fv b = fv (mag p d) ∨ mag p d % 2 = 0) := by
  rw [mag_parity p hd h, fv_mag p hd h]
  have hu : 0 < 2 ^ ulp p d := Nat.two_pow_pos _
  have hU : 0 < d * 2 ^ ulp p d := Nat.mul_pos hd hu
  rw [show rdiv p (d * 2 ^ ulp p d) * 2 ^ ulp p d * d = rdiv p (d * 2 ^ ulp p d) * (d * 2 ^ ulp p d) by grind]
  obtain ⟨y, t, e, k1, k2, k3, _⟩ := fv_norm b
  rcases Nat.lt_or_ge t (ulp p d) with hl | hl
  · -- b lies below the binade of p
    have h0 : 0 < p / d := by
      rcases Nat.eq_zero_or_pos (p / d) with hz | hz
      · unfold ulp at hl; rw [hz, blen_zero] at hl; omega
      · exact hz
    have hlow : B52 * 2 ^ ulp p d * d ≤ p := by
      have h1 := blen_self h0
      have h2 : B52 * 2 ^ ulp p d = 2 ^ (blen (p / d) - 1) := by
        rw [B52_pow, ← Nat.pow_add]; congr 1; unfold ulp at *; omega
      rw [h2]
      exact Nat.le_trans (Nat.mul_le_mul_right _ h1) (Nat.div_mul_le_self p d)
    have hy : fv b < B52 * 2 ^ ulp p d := by
      rw [e]
      have h1 : y * 2 ^ t < 2 * B52 * 2 ^ t := Nat.mul_lt_mul_of_pos_right k1 (Nat.two_pow_pos t)
      have h2 : 2 * B52 * 2 ^ t = B52 * 2 ^ (t + 1) := by rw [Nat.pow_succ]; grind
      have h3 : B52 * 2 ^ (t + 1) ≤ B52 * 2 ^ ulp p d := Nat.mul_le_mul_left _ (Nat.pow_le_pow_right (by omega) hl)
      omega
    have hy2 : fv b * d < B52 * 2 ^ ulp p d * d := Nat.mul_lt_mul_of_pos_right hy hd
    obtain ⟨n1, _⟩ := rdiv_near p B52 hU
    rw [show B52 * (d * 2 ^ ulp p d) = B52 * 2 ^ ulp p d * d by grind] at n1
    have hlt : dist p (B52 * 2 ^ ulp p d * d) < dist p (fv b * d) := by
      generalize fv b * d = x at *
      generalize B52 * 2 ^ ulp p d * d = z at *
      unfold dist; omega
    exact ⟨by omega, fun h => by omega⟩
  · have hk : fv b = (y * 2 ^ (t - ulp p d)) * 2 ^ ulp p d := by
      rw [e, Nat.mul_assoc, ← Nat.pow_add]; congr 2; omega
    rw [hk, show y * 2 ^ (t - ulp p d) * 2 ^ ulp p d * d = y * 2 ^ (t - ulp p d) * (d * 2 ^ ulp p d) by grind]
    obtain ⟨n1, n2⟩ := rdiv_near p (y * 2 ^ (t - ulp p d)) hU
    refine ⟨n1, fun h => ?_⟩
    rcases n2 h with h | h
    · left; rw [h]
    · exact .inr h
end Go.Proofs.YtibgpeaplmcogaaGreatDoor

namespace Go.Proofs.YtibgpeaplmcogaaGreatDoor
set_option maxRecDepth 100000
set_option linter.unusedVariables false
set_option linter.unusedSimpArgs false

def up (e : Int) : Nat := (e + 1074).toNat
def dn (e : Int) : Nat := (-(e + 1074)).toNat
/-- the word of the double nearest to p / q * 2^e -/
def magR (p q : Nat) (e : Int) : Nat := mag (p * 2 ^ up e) (q * 2 ^ dn e)
/-- is p / q * 2^e a double, just so? -/
def ExR (p q : Nat) (e : Int) : Prop := Ex (p * 2 ^ up e) (q * 2 ^ dn e)
instance (p q : Nat) (e : Int) : Decidable (ExR p q e) := by unfold ExR; infer_instance
theorem up_dn (e : Int) : (up e : Int) = e + 1074 + dn e := by unfold up dn; omega
theorem dn_zero {e : Int} (h : -1074 ≤ e) : dn e = 0 := by unfold dn; omega
theorem up_zero {e : Int} (h : e ≤ -1074) : up e = 0 := by unfold up; omega
theorem up_or (e : Int) : up e = 0 ∨ dn e = 0 := by unfold up dn; omega

theorem cross_pow {X Y a b m n : Nat} (h : X * 2 ^ a = Y * 2 ^ b) (hm : m + b = n + a) : X * 2 ^ m = Y * 2 ^ n := by
  have hb : 0 < 2 ^ b := Nat.two_pow_pos b
  apply Nat.eq_of_mul_eq_mul_right hb
  rw [Nat.mul_assoc, ← Nat.pow_add, hm, Nat.add_comm n a, Nat.pow_add, ← Nat.mul_assoc, h, Nat.mul_right_comm]
theorem R_cross {p q p' q' a b : Nat} {e e' : Int} (h : p * q' * 2 ^ a = p' * q * 2 ^ b) (he : (a : Int) + e' = b + e) : p * 2 ^ up e * (q' * 2 ^ dn e') = p' * 2 ^ up e' * (q * 2 ^ dn e) := by
  have h1 := up_dn e
  have h2 := up_dn e'
  have h3 := cross_pow (X := p * q') (Y := p' * q) (a := a) (b := b) (m := up e + dn e') (n := up e' + dn e) h (by omega)
  rw [Nat.pow_add, Nat.pow_add] at h3
  rw [Nat.mul_mul_mul_comm, h3, Nat.mul_mul_mul_comm]
theorem magR_eq {p q p' q' a b : Nat} {e e' : Int} (hq : 0 < q) (hq' : 0 < q') (h : p * q' * 2 ^ a = p' * q * 2 ^ b) (he : (a : Int) + e' = b + e) : magR p q e = magR p' q' e' :=
  mag_eq (Nat.mul_pos hq (Nat.two_pow_pos _)) (Nat.mul_pos hq' (Nat.two_pow_pos _)) (R_cross h he)
theorem ex_eq {p d p' d' : Nat} (hd : 0 < d) (hd' : 0 < d') (h : p * d' = p' * d) : Ex p d ↔ Ex p' d' := by
  rw [← ex_scale p d hd', ← ex_scale p' d' hd, h, Nat.mul_comm d' d]
theorem exR_eq {p q p' q' a b : Nat} {e e' : Int} (hq : 0 < q) (hq' : 0 < q') (h : p * q' * 2 ^ a = p' * q * 2 ^ b) (he : (a : Int) + e' = b + e) : ExR p q e ↔ ExR p' q' e' :=
  ex_eq (Nat.mul_pos hq (Nat.two_pow_pos _)) (Nat.mul_pos hq' (Nat.two_pow_pos _)) (R_cross h he)
theorem magR_shift (p q c : Nat) (hq : 0 < q) (e : Int) : magR (p * 2 ^ c) q e = magR p q (e + c) :=
  magR_eq (a := 0) (b := c) hq hq (by grind) (by omega)
theorem exR_shift (p q c : Nat) (hq : 0 < q) (e : Int) : ExR (p * 2 ^ c) q e ↔ ExR p q (e + c) :=
  exR_eq (a := 0) (b := c) hq hq (by grind) (by omega)
theorem magR_two (p : Nat) (e : Int) : magR p 2 e = magR p 1 (e - 1) :=
  magR_eq (a := 1) (b := 0) (by omega) (by omega) (by omega) (by omega)
theorem magR_down (p q c : Nat) (hq : 0 < q) (e : Int) : magR p (q * 2 ^ c) (e + c) = magR p q e :=
  magR_eq (a := c) (b := 0) (Nat.mul_pos hq (Nat.two_pow_pos c)) hq (by grind) (by omega)
/-- of a whole exponent -/
theorem magR_at {m : Nat} {e : Int} {s : Nat} (h : e + 1074 = s) : magR m 1 e = mag (m * 2 ^ s) 1 ∧ (ExR m 1 e ↔ Ex (m * 2 ^ s) 1) := by
  unfold magR ExR
  rw [dn_zero (by omega), show up e = s by unfold up; omega, Nat.pow_zero, Nat.mul_one]
  exact ⟨rfl, Iff.rfl⟩

theorem blen_div_pow (n k : Nat) : blen (n / 2 ^ k) = blen n - k := by
  by_cases h : n / 2 ^ k = 0
  · rw [h, blen_zero]
    have : n < 2 ^ k := by
      rcases Nat.lt_or_ge n (2 ^ k) with hl | hl
      · exact hl
      · have := Nat.div_pos hl (Nat.two_pow_pos k); omega
    have := blen_le this
    omega
  · have := blen_shr h
    omega
/-- how many bits the floor has -/
theorem blen_floor {p q : Nat} (e : Int) (h : 0 < p / q) : ((blen (p * 2 ^ up e / (q * 2 ^ dn e)) : Nat) : Int) = max ((blen (p / q) : Int) + e + 1074) 0 := by
  have hd := up_dn e
  have hp := blen_pos h
  rcases up_or e with h0 | h0
  · rw [h0, Nat.pow_zero, Nat.mul_one, ← Nat.div_div_eq_div_mul, blen_div_pow]
    omega
  · rw [h0, Nat.pow_zero, Nat.mul_one]
    have e1 : p * 2 ^ up e / q / 2 ^ up e = p / q := by
      rw [Nat.div_div_eq_div_mul, Nat.mul_div_mul_right _ _ (Nat.two_pow_pos _)]
    rw [blen_shr (n := p * 2 ^ up e / q) (k := up e) (by rw [e1]; omega), e1]
    omega
theorem ulpR {p q : Nat} (e : Int) (h : 0 < p / q) : ((ulp (p * 2 ^ up e) (q * 2 ^ dn e) : Nat) : Int) = max ((blen (p / q) : Int) + e + 1021) 0 := by
  have := blen_floor e h
  unfold ulp
  omega
theorem ulpR1 {m : Nat} (e : Int) (h : 0 < m) : ((ulp (m * 2 ^ up e) (1 * 2 ^ dn e) : Nat) : Int) = max ((blen m : Int) + e + 1021) 0 := by
  have := ulpR (p := m) (q := 1) e (by rw [Nat.div_one]; exact h)
  rwa [Nat.div_one] at this
theorem mag_ulp_big {p d : Nat} (hd : 0 < d) (h : 2046 ≤ ulp p d) : mag p d = INF := by
  have h1 := units_ge p hd (by omega)
  have h2 : 2046 * B52 ≤ ulp p d * B52 := Nat.mul_le_mul_right _ h
  have h3 := INF_eq
  unfold mag
  exact Nat.min_eq_right (by omega)
theorem mag_small {p d : Nat} (h : 2 * p < d) : mag p d = 0 := by
  have h1 : ulp p d = 0 := by unfold ulp; rw [Nat.div_eq_of_lt (by omega), blen_zero]
  unfold mag
  rw [h1, Nat.pow_zero, Nat.mul_one, rdiv_small h]
  simp
theorem magR_big {p q : Nat} {e : Int} (hq : 0 < q) (h0 : 0 < p / q) (h : 1025 ≤ (blen (p / q) : Int) + e) : magR p q e = INF :=
  mag_ulp_big (Nat.mul_pos hq (Nat.two_pow_pos _)) (by have := ulpR e h0; omega)
theorem magR_big1 {m : Nat} {e : Int} (h0 : 0 < m) (h : 1025 ≤ (blen m : Int) + e) : magR m 1 e = INF :=
  magR_big (by omega) (by rw [Nat.div_one]; exact h0) (by rw [Nat.div_one]; exact h)
theorem magR_small {p q : Nat} {e : Int} (hq : 0 < q) (h : (blen p : Int) - blen q + e ≤ -1077) : magR p q e = 0 := by
  have h1 := up_dn e
  have h2 := blen_lt p
  have h3 := blen_self hq
  have h4 := blen_pos hq
  apply mag_small
  have a1 : 2 * (p * 2 ^ up e) < 2 ^ (1 + blen p + up e) := by
    rw [Nat.pow_add, Nat.pow_add, Nat.pow_one, Nat.mul_assoc]
    exact Nat.mul_lt_mul_of_pos_left (Nat.mul_lt_mul_of_pos_right h2 (Nat.two_pow_pos _)) (by omega)
  have a2 : 2 ^ (blen q - 1 + dn e) ≤ q * 2 ^ dn e := by
    rw [Nat.pow_add]; exact Nat.mul_le_mul_right _ h3
  have a3 : 2 ^ (1 + blen p + up e) ≤ 2 ^ (blen q - 1 + dn e) := Nat.pow_le_pow_right (by omega) (by omega)
  omega
theorem magR_zero (q : Nat) (e : Int) : magR 0 q e = 0 := by unfold magR; rw [Nat.zero_mul, mag_zero]

/-- what is left below a half may stand for itself -/
theorem rdiv_sticky (p : Nat) {q k : Nat} (hq : 0 < q) (hk : 1 ≤ k) (hr : p % q ≠ 0) : rdiv (2 * (p / q) + 1) (2 ^ (k + 1)) = rdiv p (q * 2 ^ k) := by
  obtain ⟨j, rfl⟩ : ∃ j, k = j + 1 := ⟨k - 1, by omega⟩
  have h1 : p % (q * 2 ^ (j + 1)) = p % q + q * (p / q % 2 ^ (j + 1)) := Nat.mod_mul
  have h2 : p / (q * 2 ^ (j + 1)) = p / q / 2 ^ (j + 1) := (Nat.div_div_eq_div_mul _ _ _).symm
  have hlt := Nat.mod_lt p hq
  generalize p % q = r at *
  generalize p / q = Q at *
  have h3 : (2 * Q + 1) % (2 * 2 ^ (j + 1)) = 1 + 2 * (Q % 2 ^ (j + 1)) := by
    rw [Nat.mod_mul, show (2 * Q + 1) % 2 = 1 by omega, show (2 * Q + 1) / 2 = Q by omega]
  have h4 : (2 * Q + 1) / (2 * 2 ^ (j + 1)) = Q / 2 ^ (j + 1) := by
    rw [← Nat.div_div_eq_div_mul, show (2 * Q + 1) / 2 = Q by omega]
  unfold rdiv
  rw [Nat.pow_succ 2 (j + 1), Nat.mul_comm (2 ^ (j + 1)) 2, h3, h4, h1, h2]
  generalize Q / 2 ^ (j + 1) = K
  generalize Q % 2 ^ (j + 1) = R
  rw [Nat.pow_succ]
  generalize 2 ^ j = M
  have e1 : q * (M * 2) = 2 * (q * M) := by grind
  rw [e1]
  have key : (2 * (M * 2) < 2 * (1 + 2 * R) ∨ (2 * (1 + 2 * R) = 2 * (M * 2) ∧ K % 2 = 1)) ↔ (2 * (q * M) < 2 * (r + q * R) ∨ (2 * (r + q * R) = 2 * (q * M) ∧ K % 2 = 1)) := by
    rcases Nat.lt_or_ge R M with hl | hl
    · have : q * (R + 1) ≤ q * M := Nat.mul_le_mul_left _ hl
      rw [Nat.mul_add, Nat.mul_one] at this
      generalize q * R = x at *
      generalize q * M = y at *
      constructor <;> intro h <;> omega
    · have : q * M ≤ q * R := Nat.mul_le_mul_left _ hl
      generalize q * R = x at *
      generalize q * M = y at *
      constructor <;> intro h <;> omega
  simp only [key]
theorem magR_sticky {p q : Nat} (e : Int) (hq : 0 < q) (hr : p % q ≠ 0) (hQ : 54 ≤ blen (p / q)) : magR p q e = magR (2 * (p / q) + 1) 2 e := by
  have h0 : 0 < p / q := by
    rcases Nat.eq_zero_or_pos (p / q) with h | h
    · rw [h, blen_zero] at hQ; omega
    · exact h
  have hQ2 : (2 * (p / q) + 1) / 2 = p / q := by omega
  have u1 := ulpR e h0
  have u2 := ulpR (p := 2 * (p / q) + 1) (q := 2) e (by rw [hQ2]; exact h0)
  rw [hQ2] at u2
  have hu : ulp ((2 * (p / q) + 1) * 2 ^ up e) (2 * 2 ^ dn e) = ulp (p * 2 ^ up e) (q * 2 ^ dn e) := by omega
  have hd := up_dn e
  unfold magR mag
  rw [hu]
  generalize ulp (p * 2 ^ up e) (q * 2 ^ dn e) = u at *
  obtain ⟨k, hk⟩ : ∃ k, u + dn e = k + up e := ⟨u + dn e - up e, by omega⟩
  have hk1 : 1 ≤ k := by omega
  have hp : ∀ x, x * 2 ^ dn e * 2 ^ u = x * 2 ^ k * 2 ^ up e := fun x => by
    rw [Nat.mul_assoc, ← Nat.pow_add, Nat.mul_assoc, ← Nat.pow_add]; congr 2; omega
  rw [hp, hp, rdiv_scale _ _ (Nat.two_pow_pos _), rdiv_scale _ _ (Nat.two_pow_pos _), ← rdiv_sticky p hq hk1 hr, Nat.pow_succ 2 k, Nat.mul_comm (2 ^ k) 2]

/-- the odd part -/
theorem tz_part {m : Nat} (h : 0 < m) : m / 2 ^ tz m * 2 ^ tz m = m ∧ m / 2 ^ tz m % 2 = 1 := by
  obtain ⟨h1, h2⟩ := tz_spec h
  refine ⟨?_, h2⟩
  have : ∀ k, LowZero m k → m / 2 ^ k * 2 ^ k = m := by
    intro k
    induction k with
    | zero => intro _; simp
    | succ k ih =>
      intro hk
      have a := ih (fun j hj => hk j (by omega))
      have b := hk k (by omega)
      have c : m / 2 ^ (k + 1) = m / 2 ^ k / 2 := by rw [Nat.pow_succ, Nat.div_div_eq_div_mul]
      rw [c, Nat.pow_succ, Nat.mul_comm (2 ^ k) 2, ← Nat.mul_assoc, show m / 2 ^ k / 2 * 2 = m / 2 ^ k by omega]
      exact a
  exact this _ h1
theorem odd_pow_dvd {o a b : Nat} (ho : o % 2 = 1) (h : o * 2 ^ a % 2 ^ b = 0) : b ≤ a := by
  rcases Nat.lt_or_ge a b with hl | hl
  · exfalso
    obtain ⟨c, rfl⟩ : ∃ c, b = a + (c + 1) := ⟨b - a - 1, by omega⟩
    rw [Nat.pow_add, Nat.mul_comm o, Nat.mul_mod_mul_left] at h
    have h2 : o % 2 ^ (c + 1) = 0 := by
      rcases Nat.mul_eq_zero.1 h with h | h
      · have := Nat.two_pow_pos a; omega
      · exact h
    rw [Nat.pow_succ, Nat.mul_comm] at h2
    have h3 : o % (2 * 2 ^ c) % 2 = o % 2 := Nat.mod_mul_right_mod o 2 (2 ^ c)
    rw [h2] at h3
    omega
  · exact hl
theorem dvd_pow_pow {o a b : Nat} (h : b ≤ a) : o * 2 ^ a % 2 ^ b = 0 := by
  obtain ⟨c, rfl⟩ : ∃ c, a = c + b := ⟨a - b, by omega⟩
  rw [Nat.pow_add, ← Nat.mul_assoc, Nat.mul_mod_left]
/-- m * 2^e with m = o * 2^t -/
theorem make_part {o t s : Nat} {e : Int} (h : e + t + 1074 = s) : magR (o * 2 ^ t) 1 e = mag (o * 2 ^ s) 1 ∧ (ExR (o * 2 ^ t) 1 e ↔ Ex (o * 2 ^ s) 1) := by
  rw [magR_shift _ _ _ (by omega), exR_shift _ _ _ (by omega)]
  exact magR_at (by omega)
theorem make_no1 {o t : Nat} {e : Int} (ho : o % 2 = 1) (h : e + t < -1074) : ¬ ExR (o * 2 ^ t) 1 e := by
  intro hx
  have h1 := hx.1
  rw [up_zero (by omega), Nat.pow_zero, Nat.mul_one, Nat.one_mul] at h1
  have := odd_pow_dvd ho h1
  have := up_dn e
  rw [up_zero (by omega)] at this
  omega
theorem make_no2 {o t : Nat} {e : Int} (ho : o % 2 = 1) (h : 53 < blen o) : ¬ ExR (o * 2 ^ t) 1 e := by
  intro hx
  rcases Int.lt_or_le (e + t) (-1074) with hl | hl
  · exact make_no1 ho hl hx
  · obtain ⟨s, hs⟩ : ∃ s : Nat, e + t + 1074 = s := ⟨(e + t + 1074).toNat, by omega⟩
    obtain ⟨h1, h2, h3⟩ := (make_part (o := o) hs).2.1 hx
    unfold ulp at h2
    rw [Nat.div_one, blen_mul_pow (by omega)] at h2
    have := odd_pow_dvd ho h2
    omega
theorem make_no3 {o t : Nat} {e : Int} (ho : o % 2 = 1) (h : 1024 < (blen o : Int) + (e + t)) : ¬ ExR (o * 2 ^ t) 1 e := by
  intro hx
  rcases Int.lt_or_le (e + t) (-1074) with hl | hl
  · exact make_no1 ho hl hx
  · obtain ⟨s, hs⟩ : ∃ s : Nat, e + t + 1074 = s := ⟨(e + t + 1074).toNat, by omega⟩
    obtain ⟨h1, h2, h3⟩ := (make_part (o := o) hs).2.1 hx
    rw [Nat.div_one, blen_mul_pow (by omega)] at h3
    omega
/-- a significand that is normalized: x * 2^s is the number -/
theorem make_pair {o t x s : Nat} {e : Int} (he : -1074 ≤ e + t) (h : o * 2 ^ (e + t + 1074).toNat = x * 2 ^ s) (h1 : x < 2 * B52) (h2 : B52 ≤ x ∨ s = 0) :
    magR (o * 2 ^ t) 1 e = min (s * B52 + x) INF ∧ (ExR (o * 2 ^ t) 1 e ↔ s ≤ 2045) := by
  obtain ⟨a, b⟩ := make_part (o := o) (t := t) (e := e) (s := (e + t + 1074).toNat) (by omega)
  rw [a, b, h]
  exact ⟨mag_norm h1 h2, ex_norm h1 h2⟩
theorem lt_B52 {o n k : Nat} (h : blen o = n) (hk : n + k ≤ 53) : o * 2 ^ k < 2 * B52 := by
  have := blen_lt o
  rw [h] at this
  have h1 : o * 2 ^ k < 2 ^ n * 2 ^ k := Nat.mul_lt_mul_of_pos_right this (Nat.two_pow_pos k)
  have h2 : 2 ^ n * 2 ^ k ≤ 2 * B52 := by rw [← Nat.pow_add, B52_pow, ← Nat.pow_succ']; exact Nat.pow_le_pow_right (by omega) hk
  omega
theorem ge_B52 {o n k : Nat} (ho : 0 < o) (h : blen o = n) (hk : 53 ≤ n + k) : B52 ≤ o * 2 ^ k := by
  have h0 := blen_pos ho
  have := blen_self ho
  rw [h] at this h0
  have h1 : 2 ^ (n - 1) * 2 ^ k ≤ o * 2 ^ k := Nat.mul_le_mul_right _ this
  have h2 : B52 ≤ 2 ^ (n - 1) * 2 ^ k := by rw [← Nat.pow_add, B52_pow]; exact Nat.pow_le_pow_right (by omega) (by omega)
  omega
/-- what the program makes: the exponent is as low as it can be -/
theorem make_good {o t n : Nat} {e low : Int} (ho : o % 2 = 1) (hn : blen o = n) (h1 : n ≤ 53) (h2 : -1074 ≤ e + t) (h3 : (n : Int) + (e + t) ≤ 1024) (hlow : low = max (n + (e + t) - 53) (-1074)) :
    magR (o * 2 ^ t) 1 e = (low + 1074).toNat * B52 + o * 2 ^ (e + t - low).toNat ∧ ExR (o * 2 ^ t) 1 e ∧ o * 2 ^ (e + t - low).toNat < 2 * B52 := by
  have hx1 : o * 2 ^ (e + t - low).toNat < 2 * B52 := lt_B52 hn (by omega)
  have hx2 : B52 ≤ o * 2 ^ (e + t - low).toNat ∨ (low + 1074).toNat = 0 := by
    rcases Int.lt_or_le (-1074) low with hl | hl
    · exact .inl (ge_B52 (by omega) hn (by omega))
    · exact .inr (by omega)
  have hh : o * 2 ^ (e + t + 1074).toNat = o * 2 ^ (e + t - low).toNat * 2 ^ (low + 1074).toNat := by
    rw [Nat.mul_assoc, ← Nat.pow_add]; congr 2; omega
  obtain ⟨a, b⟩ := make_pair h2 hh hx1 hx2
  refine ⟨?_, b.2 (by omega), hx1⟩
  rw [a, INF_eq]
  have : (low + 1074).toNat * B52 ≤ 2045 * B52 := Nat.mul_le_mul_right _ (by omega)
  exact Nat.min_eq_left (by omega)

/-- rounding to a whole number of units, and making the double of them -/
theorem word_ulp {m : Nat} {e low : Int} (hlow : low = max ((blen m : Int) + e - 53) (-1074)) (h : e < low ∨ 0 < m) : ulp (m * 2 ^ up e) (1 * 2 ^ dn e) = (low + 1074).toNat := by
  rcases Nat.eq_zero_or_pos m with rfl | h0
  · rw [blen_zero] at hlow
    unfold ulp
    rw [Nat.zero_mul, Nat.zero_div, blen_zero]
    omega
  · have := ulpR1 e h0
    omega
theorem word_round {m k s : Nat} {e low : Int} (hlow : low = max ((blen m : Int) + e - 53) (-1074)) (h : e < low) (hk : low - e = k) (hs : low + 1074 = s) :
    (ExR (rdiv m (2 ^ k)) 1 low → magR (rdiv m (2 ^ k)) 1 low = magR m 1 e) ∧ (¬ ExR (rdiv m (2 ^ k)) 1 low → magR m 1 e = INF) ∧ rdiv m (2 ^ k) ≤ 2 * B52 := by
  have hu := word_ulp hlow (.inl h)
  have hd := up_dn e
  have hs' : (low + 1074).toNat = s := by omega
  rw [hs'] at hu
  have e1 : 1 * 2 ^ dn e * 2 ^ s = 2 ^ k * 2 ^ up e := by
    rw [Nat.one_mul, ← Nat.pow_add, ← Nat.pow_add]; congr 1; omega
  have hpos : 0 < 1 * 2 ^ dn e := by have := Nat.two_pow_pos (dn e); omega
  have hr : rdiv (m * 2 ^ up e) (1 * 2 ^ dn e * 2 ^ ulp (m * 2 ^ up e) (1 * 2 ^ dn e)) = rdiv m (2 ^ k) := by
    rw [hu, e1, rdiv_scale _ _ (Nat.two_pow_pos _)]
  have hM := mag_units (m * 2 ^ up e) hpos
  have hL := units_le (m * 2 ^ up e) hpos
  rw [hr] at hM hL
  rw [hu] at hM
  obtain ⟨a, b⟩ := magR_at (m := rdiv m (2 ^ k)) (e := low) (s := s) hs
  rw [a, b]
  exact ⟨hM.1, hM.2, hL⟩
theorem word_exact {m : Nat} {e low : Int} (hlow : low = max ((blen m : Int) + e - 53) (-1074)) (h : low ≤ e) : ¬ ExR m 1 e → magR m 1 e = INF := by
  intro hx
  rcases Nat.eq_zero_or_pos m with rfl | h0
  · exfalso
    apply hx
    unfold ExR Ex ulp
    rw [Nat.zero_mul, Nat.zero_div, Nat.zero_mod, blen_zero]
    exact ⟨rfl, rfl, by omega⟩
  · obtain ⟨s, hs⟩ : ∃ s : Nat, e + 1074 = s := ⟨(e + 1074).toNat, by omega⟩
    obtain ⟨a, b⟩ := magR_at (m := m) hs
    rw [a]
    rw [b] at hx
    by_cases hb : 2046 ≤ ulp (m * 2 ^ s) 1
    · exact mag_ulp_big (by omega) hb
    · exfalso
      apply hx
      have hl : blen (m * 2 ^ s) = blen m + s := blen_mul_pow h0 s
      unfold Ex
      unfold ulp at hb ⊢
      rw [Nat.mod_one, Nat.div_one, hl]
      rw [Nat.div_one, hl] at hb
      exact ⟨rfl, dvd_pow_pow (by omega), by omega⟩
theorem rdiv_far {m k : Nat} (hm : m < 2 ^ 64) (h : 64 < k) : rdiv m (2 ^ k) = 0 := by
  have : 2 ^ 65 ≤ 2 ^ k := Nat.pow_le_pow_right (by omega) h
  exact rdiv_small (by omega)
theorem word_clamp {m : Nat} (hm : m < 2 ^ 64) {e : Int} : magR m 1 (min (max e (-2000)) 2000) = magR m 1 e := by
  rcases Nat.eq_zero_or_pos m with rfl | h0
  · rw [magR_zero, magR_zero]
  · have hb := blen_pos h0
    have hb2 := blen_le hm
    rcases Int.lt_or_le e (-2000) with hl | hl
    · rw [magR_small (e := e) (by omega) (by rw [show blen 1 = 1 by decide]; omega), magR_small (by omega) (by rw [show blen 1 = 1 by decide]; omega)]
    · rcases Int.lt_or_le 2000 e with hg | hg
      · rw [magR_big1 (e := e) h0 (by omega), magR_big1 h0 (by omega)]
      · congr 1; omega
/-- long numbers: the lowest of 64 bits stands for all that is left out -/
theorem of_short {m skip : Nat} (e : Int) (hs : skip = blen m - 64) (h : ¬ tz m < skip) : magR (m / 2 ^ skip) 1 (e + skip) = magR m 1 e := by
  rcases Nat.eq_zero_or_pos skip with h0 | h0
  · rw [h0]; simp
  · have hm : 0 < m := by
      rcases Nat.eq_zero_or_pos m with rfl | h1
      · rw [blen_zero] at hs; omega
      · exact h1
    obtain ⟨h1, _⟩ := tz_part hm
    have h2 : m / 2 ^ skip * 2 ^ skip = m := by
      obtain ⟨c, hc⟩ : ∃ c, tz m = skip + c := ⟨tz m - skip, by omega⟩
      rw [hc] at h1
      generalize m / 2 ^ (skip + c) = o at h1
      rw [Nat.pow_add, Nat.mul_comm (2 ^ skip), ← Nat.mul_assoc] at h1
      rw [← h1, Nat.mul_div_cancel _ (Nat.two_pow_pos _)]
    rw [← magR_shift _ _ _ (by omega), h2]
theorem of_long {m skip : Nat} (e : Int) (hs : skip = blen m - 64) (h : tz m < skip) : magR (2 * (m / 2 ^ skip / 2) + 1) 1 (e + skip) = magR m 1 e := by
  have hm : 0 < m := by
    rcases Nat.eq_zero_or_pos m with rfl | h1
    · rw [blen_zero] at hs; omega
    · exact h1
  have hr : m % 2 ^ (skip + 1) ≠ 0 := by
    intro h1
    obtain ⟨h2, h3⟩ := tz_part hm
    generalize m / 2 ^ tz m = o at h2 h3
    rw [← h2] at h1
    have := odd_pow_dvd h3 h1
    omega
  have hb : 54 ≤ blen (m / 2 ^ (skip + 1)) := by rw [blen_div_pow]; omega
  have h4 := magR_sticky (e + skip + 1) (Nat.two_pow_pos (skip + 1)) hr hb
  have h5 := magR_down m 1 (skip + 1) (by omega) e
  rw [Nat.one_mul] at h5
  rw [show e + skip + 1 = e + ((skip + 1 : Nat) : Int) by omega, h5, magR_two] at h4
  rw [h4, show m / 2 ^ (skip + 1) = m / 2 ^ skip / 2 by rw [Nat.pow_succ, Nat.div_div_eq_div_mul], show e + ((skip + 1 : Nat) : Int) - 1 = e + skip by omega]
theorem of_clamp {m n : Nat} {e : Int} (hn : blen m ≤ n + 1) : magR m 1 (min (max e (-2000 - n)) 2000) = magR m 1 e ∧ magR m 1 (min (max e (-2000 - n)) 2000 - 1) = magR m 1 (e - 1) := by
  rcases Nat.eq_zero_or_pos m with rfl | h0
  · rw [magR_zero, magR_zero, magR_zero, magR_zero]; exact ⟨rfl, rfl⟩
  · have hb := blen_pos h0
    have h1 : blen 1 = 1 := by decide
    rcases Int.lt_or_le e (-2000 - n) with hl | hl
    · refine ⟨?_, ?_⟩
      · rw [magR_small (e := e) (by omega) (by rw [h1]; omega), magR_small (by omega) (by rw [h1]; omega)]
      · rw [magR_small (e := e - 1) (by omega) (by rw [h1]; omega), magR_small (by omega) (by rw [h1]; omega)]
    · rcases Int.lt_or_le 2000 e with hg | hg
      · refine ⟨?_, ?_⟩
        · rw [magR_big1 (e := e) h0 (by omega), magR_big1 h0 (by omega)]
        · rw [magR_big1 (e := e - 1) h0 (by omega), magR_big1 h0 (by omega)]
      · have : min (max e (-2000 - (n : Int))) 2000 = e := by omega
        rw [this]; exact ⟨rfl, rfl⟩
/-- quotients of at least 64 bits -/
theorem quot_blen {p q s : Nat} (hq : 0 < q) (hp : 0 < p) (h : 64 + blen q ≤ blen p + s) : 64 ≤ blen (p * 2 ^ s / q) := by
  have h1 := blen_self hp
  have h2 := blen_lt q
  have h3 := blen_pos hp
  apply blen_ge (k := 63)
  rw [Nat.le_div_iff_mul_le hq]
  have a : 2 ^ 63 * q ≤ 2 ^ 63 * 2 ^ blen q := Nat.mul_le_mul_left _ (by omega)
  have b : 2 ^ (blen p - 1) * 2 ^ s ≤ p * 2 ^ s := Nat.mul_le_mul_right _ h1
  rw [← Nat.pow_add] at a b
  have c : 2 ^ (63 + blen q) ≤ 2 ^ (blen p - 1 + s) := Nat.pow_le_pow_right (by omega) (by omega)
  omega
theorem quot_exact {p q s : Nat} (hq : 0 < q) (h : p * 2 ^ s % q = 0) : magR (p * 2 ^ s / q) 1 (-(s : Int)) = magR p q 0 := by
  have h1 : p * 2 ^ s / q * q = p * 2 ^ s := by have := Nat.div_add_mod' (p * 2 ^ s) q; omega
  refine magR_eq (a := 0) (b := s) (by omega) hq ?_ (by omega)
  rw [h1]; simp
theorem quot_sticky {p q s : Nat} (hq : 0 < q) (hp : 0 < p) (hs : 64 + blen q ≤ blen p + s) (h : p * 2 ^ s % q ≠ 0) : magR (2 * (p * 2 ^ s / q) + 1) 1 (-(s : Int) - 1) = magR p q 0 := by
  have hb := quot_blen hq hp hs
  rw [← magR_two, ← magR_sticky _ hq h (by omega), magR_shift _ _ _ hq]
  congr 1; omega
/-- a double's word with its sign -/
def sg (s : Bool) (b : Nat) : Nat := if s then b + 9223372036854775808 else b
theorem sg_lt {s : Bool} {b : Nat} (h : b ≤ INF) : sg s b < 18446744073709551616 := by
  rw [INF_lit] at h; unfold sg; split <;> omega

/-- the lowest bit that is set -/
theorem low_bit {n : Nat} (h0 : 0 < n) (h : n < 2 ^ 64) : n &&& (2 ^ 64 - n) = 2 ^ tz n := by
  obtain ⟨h1, h2⟩ := tz_part h0
  generalize hT : tz n = t at *
  generalize n / 2 ^ t = o at *
  obtain ⟨j, rfl⟩ : ∃ j, o = 2 * j + 1 := ⟨o / 2, by omega⟩
  have e1 : n = 2 ^ (t + 1) * j + 2 ^ t := by rw [← h1, Nat.pow_succ]; grind
  have hp : 0 < 2 ^ t := Nat.two_pow_pos t
  have e2 : n - 1 = 2 ^ (t + 1) * j + (2 ^ t - 1) := by omega
  have ht : t < 64 := by
    rcases Nat.lt_or_ge t 64 with hl | hl
    · exact hl
    · have : 2 ^ 64 ≤ 2 ^ t := Nat.pow_le_pow_right (by omega) hl
      omega
  apply Nat.eq_of_testBit_eq
  intro i
  have e3 : 2 ^ 64 - n = 2 ^ 64 - ((n - 1) + 1) := by omega
  rw [Nat.testBit_and, e3, Nat.testBit_two_pow_sub_succ (by omega), Nat.testBit_two_pow, e2]
  have lt1 : 2 ^ t < 2 ^ (t + 1) := by rw [Nat.pow_succ]; omega
  have b1 : n.testBit i = if i < t + 1 then (2 ^ t).testBit i else j.testBit (i - (t + 1)) := by
    rw [e1, Nat.testBit_two_pow_mul_add _ lt1]
  have b2 : (2 ^ (t + 1) * j + (2 ^ t - 1)).testBit i = if i < t + 1 then (2 ^ t - 1).testBit i else j.testBit (i - (t + 1)) := Nat.testBit_two_pow_mul_add _ (by omega) _
  rw [b1, b2, Nat.testBit_two_pow, Nat.testBit_two_pow_sub_one]
  rcases Nat.lt_trichotomy i t with hl | rfl | hl
  · simp [show i < t + 1 by omega, show ¬ t = i by omega]
  · simp [ht]
  · simp [show ¬ i < t + 1 by omega, show ¬ t = i by omega]
    exact fun h _ => h

end Go.Proofs.YtibgpeaplmcogaaGreatDoor
