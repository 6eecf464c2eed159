/-
  Where the listed variables read as the row says, the cells of the variable names hold the names of the Ops. Condition: the row's own premise on the listed variables.
-/
import Derived.Test.YtibgpeaplmcogaaGreatDoorLnTyAllM
import Derived.Test.YtibgpeaplmcogaaGreatDoorFrOfAllM
import Derived.Test.YtibgpeaplmcogaaGreatDoorRows
import Derived.LaidMore
import Derived.Lay
namespace Go.Proofs.YtibgpeaplmcogaaGreatDoor
set_option maxRecDepth 100000
open Go.RowKit Go.Maps
set_option linter.unusedVariables false
set_option linter.unusedSimpArgs false

theorem infoZ : (Tryz.prog.info? 3).map (fun i => (i.zero, i.size, i.bytes)) = some (some (.int .i64 0), 1, 8) := by kernel_rfl
def zc (x : Int) : List Value := [Value.int .i64 x]
theorem zeroZ : ∀ u ∈ (Value.int .i64 0).cells.toList, NoW u := by
  intro u hu
  have e : (Value.int .i64 0).cells.toList = [.int .i64 0] := rfl
  rw [e, List.mem_singleton] at hu
  rw [hu]
  exact NoW_i64 _
theorem zc_one (x : Int) : ∀ u ∈ zc x, u.oneCell' = true := by
  intro u hu
  rw [List.mem_singleton.1 hu]
  rfl
theorem zc_noW (x : Int) : ∀ u ∈ zc x, NoW u := by
  intro u hu
  rw [List.mem_singleton.1 hu]
  exact NoW_i64 _
theorem OwnC.blk {k : Nat} {V : Type} {cells : V → List Value} {t : TypeId} {B : Nat} {w : World} {v : Value} {xs : List V} (h : OwnC k cells t B w v xs) : ∀ g, v.ownBlock = some g → ∃ cur, w.heap[g]? = some (.cells cur t (0, 0)) := by
  intro g hg
  rcases h.2 with ⟨rfl, rfl⟩ | ⟨g', cap, cur, rfl, _, h2, _⟩
  · cases hg
  · have e : g' = g := by simpa [Value.ownBlock] using hg
    subst e
    exact ⟨cur, h2⟩
theorem OwnC.kept {k : Nat} {V : Type} {cells : V → List Value} {t t' : TypeId} {B : Nat} {w w' : World} {v : Value} {xs : List V} {r : Option Nat} (h : OwnC k cells t B w v xs) (hg : w.grownBy w' r) (hr : ∀ g, r = some g → ∃ cur, w.heap[g]? = some (.cells cur t' (0, 0))) (ht : t ≠ t') : OwnC k cells t B w' v xs := by
  refine ⟨h.1, ?_⟩
  rcases h.2 with h2 | ⟨g, cap, cur, hv, hg2, hh, rr⟩
  · exact .inl h2
  · have hlt : g < w.heap.size := by
      rcases Nat.lt_or_ge g w.heap.size with h9 | h9
      · exact h9
      · rw [Array.getElem?_eq_none h9] at hh; cases hh
    refine .inr ⟨g, cap, cur, hv, hg2, (hg.block g hlt (fun e => ?_)).trans hh, rr⟩
    obtain ⟨cur', h8⟩ := hr g e.symm
    rw [hh] at h8
    injection h8 with h8
    injection h8 with _ h8
    exact ht h8
theorem Box.kept {t t' : TypeId} {w w' : World} {g : Nat} {vs : Array Value} {r : Option Nat} (h : Box t w g vs) (hg : w.grownBy w' r) (hr : ∀ g, r = some g → ∃ cur, w.heap[g]? = some (.cells cur t' (0, 0))) (ht : t ≠ t') : Box t w' g vs := by
  refine (hg.block g h.lt (fun e => ?_)).trans h
  obtain ⟨cur', h8⟩ := hr g e.symm
  unfold Box at h
  rw [h] at h8
  injection h8 with h8
  injection h8 with _ h8
  exact ht h8
theorem OwnC.slz {B : Nat} {w : World} {A : Option Addr} {n c : Nat} {zs : List Int} (h : OwnC 1 zc 3 B w (.slice A n c) zs) (hok : ∀ z ∈ zs, I64 z) : SlZ w A n c zs := h.slc (ok := fun _ x => I64 x) hok
/-- the numbers of the instructions left ahead of each -/
def cnts (mk : Nat → Bool) (j : Nat) : List Int := (List.range j).map fun i => (cnt mk i : Int)
theorem cnts_len (mk : Nat → Bool) (j : Nat) : (cnts mk j).length = j := by simp [cnts]
theorem cnts_next (mk : Nat → Bool) (j : Nat) : cnts mk (j + 1) = cnts mk j ++ [(cnt mk j : Int)] := by simp [cnts, List.range_succ]
theorem cnts_at {mk : Nat → Bool} {j t : Nat} (h : t < j) : (cnts mk j)[t]? = some (cnt mk t : Int) := by simp [cnts, h]
theorem cnts_ok {mk : Nat → Bool} {j : Nat} (hj : j ≤ 65537) : ∀ z ∈ cnts mk j, I64 z := by
  intro z hz
  simp only [cnts, List.mem_map, List.mem_range] at hz
  obtain ⟨i, hi, rfl⟩ := hz
  have := cnt_le mk i
  unfold I64
  omega

theorem Box.set1 {t : TypeId} {w : World} {g : Nat} {vs : Array Value} (h : Box t w g vs) (i : Nat) (x : Value) : Box t (w.setCell ⟨g, i, none⟩ x) g (vs.set! i x) := by
  unfold Box at h ⊢
  unfold World.setCell
  simp [Array.getElem?_modify, h]

set_option maxRecDepth 100000 in
set_option maxHeartbeats 4000000 in
theorem ref_Trim {w : World} {A B : Option Addr} {n c m d N : Nat} {xs : List RI} {outs : List Int} (h : SlP w A n c xs) (hs : Shrt N xs) (ho : SlZ w B m d outs) (hn : n ≤ 65536) (hm : m ≤ 65536) (hA : Ahead (xs.map RI.pi)) :
    Calls Tryz.prog 28 #[.slice A n c, .slice B m d] w (RetTr (xs.map RI.pi) outs N w) := by
  have hlen : (xs.map RI.pi).length = n := by rw [List.length_map]; exact h.1.1
  have hol : outs.length = m := ho.1.1
  have P2 := ref_Needs h ho hA hn hm
  have HP2 := Lib.hid P2
  have HL := Lib.hid hlen
  have HOL := Lib.hid hol
  have HPR := Lib.hid hA
  have HSH := Lib.hid hs
  obtain ⟨i0, hi0, hz0, hz1, hz2⟩ := info_parts infoP
  obtain ⟨i1, hi1, hy0, hy1, hy2⟩ := info_parts infoZ
  clear P2 hlen hA hs hol
  go_enter Tryz.func28, Tryz.ntmps28
  go_wp2_with fail
  with_reducible refine HP2.out.mono ?_
  rintro _ w2 ⟨g, bs, rfl, hg, hbl, hbr, hnd, y2⟩
  clear HP2
  obtain ⟨mk, hmk⟩ : ∃ mk : Nat → Bool, mk = fun i => bs.getD i false := ⟨_, rfl⟩
  rw [← hmk] at hnd
  have HMK := Lib.hid hmk
  have HND := Lib.hid hnd
  have HBR := Lib.hid hbr
  have HBL := Lib.hid hbl
  clear hmk hnd hbr hbl
  go_wp2_with fail
  go_loopw [7, 8, 18] (fun kv av iv wr => ∃ (j : Nat) (ys : List RI) (zs : List Int), j ≤ n ∧ iv = .int .i64 j ∧ Hid (OwnP w.heap.size wr kv ys) ∧ Hid (OwnC 1 zc 3 w.heap.size wr av zs) ∧ Hid (ys.map RI.pi = trimTo (fun i => ren mk ((xs.map RI.pi).getD i PI.nil)) mk j) ∧ Hid (zs = cnts mk j) ∧ Hid (Shrt N ys) ∧ Hid (BRow wr g bs) ∧ Below w.heap.size w wr) (fun _ _ iv _ => n - mes iv)
  case atStart => exact ⟨0, [], [], by omega, rfl, Lib.hid ⟨OwnC.nil, by simp⟩, Lib.hid OwnC.nil, Lib.hid rfl, Lib.hid rfl, Lib.hid (fun x hx => by simp at hx), HBR, y2⟩
  case round =>
    clear HBR y2
    obtain ⟨j, ys, zs, hj, rfl, HK, HA, HT, HZ, HS, HB, hb⟩ := hrel
    have hyl : ys.length = cnt mk j := by
      have h9 := congrArg List.length HT.out
      rw [List.length_map, trimTo_len] at h9
      exact h9
    have hzl : zs.length = j := by rw [HZ.out, cnts_len]
    have hcj := cnt_le mk j
    obtain ⟨A', c', ek, hcap, hcm⟩ := HK.out.1.form
    subst ek
    by_cases hj2 : j < n
    · have hyle : ys.length ≤ j := by omega
      have HYL := Lib.hid hyl
      have HZL := Lib.hid hzl
      clear hyl hzl
      go_wp2_with (at_builtin; refine wpList_append_C _ rfl _ _ 38 rfl w.heap.size 3 i1 _ 8 Tryz.underlying38 hi1 hy0 hy1 hy2 rfl (by decide) zeroZ _ zs rfl (HA.out.below (below_alloc _ _)) ⟨wr.heap.size, 0, none⟩ 1 ((ys.length : Nat) : Int) rfl rfl ?c1 (zc_one _) (zc_noW _) ?c3 ?c4 ?c5 ?_)
      case c1 => exact news_new wr _ _
      case c3 => have := HZL.out; unfold maxLen; omega
      case c4 => have := HZL.out; omega
      case c5 => have := hb.size; simp; omega
      intro av2 w3 hown hgrow
      have ba := below_alloc wr (.cells #[.int .i64 ((ys.length : Nat) : Int)] 3)
      have hbk := (HA.out.below ba).blk
      have hnw := (HA.out.below ba).noW
      have K3 : OwnP w.heap.size w3 (.slice A' ys.length c') ys := ⟨((HK.out.below ba).1).kept hgrow hbk (by decide), fun y hy => RI.grownC ((HK.out.below ba).2 y hy) hgrow hnw⟩
      have B3 : BRow w3 g bs := Box.kept (Box.below' HB.out ba) hgrow hbk (by decide)
      have hb3 := (hb.alloc hb.size _).grown hgrow (by have := hb.size; simp; omega) (HA.out.below ba).base
      have Z3 : zs ++ [((ys.length : Nat) : Int)] = cnts mk (j + 1) := by rw [cnts_next, HZ.out, HYL.out]
      rw [Z3] at hown
      have kb := B3.cell (i := j) (by have := HBL.out; omega)
      have hbj : bs.getD j false = mk j := by rw [HMK.out]
      rw [hbj] at kb
      have HK3 := Lib.hid K3
      have HB3 := Lib.hid B3
      have HA3 := Lib.hid hown
      clear K3 B3 hown hgrow hbk hnw hbj Z3 HK HA HB HZ ba
      cases hmj : mk j
      case false =>
        rw [hmj] at kb
        have HMJ := Lib.hid hmj
        clear hmj
        go_wp2_with fail
        go_roundw
        case rel => exact ⟨j + 1, ys, _, by omega, by go_num, HK3, HA3, Lib.hid (by unfold trimTo; rw [HMJ.out, if_neg (by decide)]; exact HT.out), Lib.hid rfl, HS, HB3, hb3⟩
        case measure => simp [mes, intOf]; omega
      case true =>
        rw [hmj] at kb
        obtain ⟨b0, off, x, rfl, hlt, hxk, hok, c0, c1, c2, c3, c4, c5⟩ := (h.below hb3).at_ hj2
        have hp9 := pi_at hxk
        have hxs := HSH.out x (mem_at hxk)
        have hus : ∀ o : Int, Uses x.pi o → 0 ≤ o ∧ o < (j : Int) := fun o hu => by
          have hu := need_uses HPR.out HND.out (i := j) (by rw [HL.out]; exact hj2) hmj (j := o) (by rw [hp9]; exact hu)
          exact ⟨hu.1, hu.2.1⟩
        obtain ⟨A2, n2, c2', ea, hn2⟩ : ∃ A2 n2 c2', av2 = .slice A2 n2 c2' ∧ n2 = j + 1 := by
          obtain ⟨A2, c2', ea, _⟩ := HA3.out.form
          exact ⟨A2, _, c2', ea, cnts_len _ _⟩
        subst ea
        have hn3 : j + 1 ≤ n2 := by omega
        clear hn2
        have SZ := HA3.out.slz (cnts_ok (by omega))
        have HMJ := Lib.hid hmj
        have HP9 := Lib.hid hp9
        have HXS := Lib.hid hxs
        clear hmj hp9 hxs hxk
        obtain ⟨op, a, b, q⟩ := x
        have AR := fun (w1 : World) => Lib.hid (ref_arity op w1)
        obtain ⟨V, hV, Bx, hbV⟩ := box0 27 w3 #[.int .i64 op, .int .i64 a, .int .i64 b, .bool q.s, .slice q.A q.n q.c, .slice q.A' q.n' q.c']
        have HOK := Lib.hid hok
        have HV := Lib.hid hV
        have HBX := Lib.hid Bx
        have HSZ := Lib.hid SZ
        clear hV Bx hok SZ
        rcases ar_cases op with ⟨cc, d9⟩ | ⟨cc, d1, d2⟩ | ⟨cc, d1, d2⟩ | ⟨cc, d1, d2⟩
        case inl =>
          obtain ⟨a9, ea9⟩ : ∃ a9, a9 = a := ⟨_, rfl⟩
          obtain ⟨b9, eb9⟩ : ∃ b9, b9 = b := ⟨_, rfl⟩
          rw [← ea9, ← eb9] at HP9
          have hre : (⟨op, a, b, q⟩ : RI).pi = ren mk (⟨op, a9, b9, q⟩ : RI).pi := by simp [ren, RI.pi, cc, ea9, eb9]
          have HRE := Lib.hid hre
          have hyo : ∀ W', Below w3.heap.size w3 W' → (⟨op, a, b, q⟩ : RI).ok W' := fun W' hb9 => ⟨HOK.out.1, HOK.out.2.1, HOK.out.2.2.1, (RI.below HOK.out hb9).2.2.2⟩
          have HYO := Lib.hid hyo
          rw [cc] at AR
          clear cc hre hyo hus ea9 eb9
          go_wp2_with fail
          rw [HV.out]
          obtain ⟨⟨k0, k1, k2, k3, k4, k5⟩, _⟩ := HBX.out.six
          with_reducible refine (AR _).out.mono ?_
          rintro _ _ ⟨rfl, rfl⟩
          go_wp2_with fail
          with_reducible refine (AR _).out.mono ?_
          rintro _ _ ⟨rfl, rfl⟩
          have hbW := hbV
          have hbn : Below w.heap.size w V := bb hb3 hbW
          have HK4 := Lib.hid (HK3.out.below hbW)
          go_wp2_with (at_builtin; refine wpList_append_C _ rfl _ _ 22 rfl w.heap.size 27 i0 _ 80 Tryz.underlying22 hi0 hz0 hz1 hz2 rfl (by decide) zeroP _ ys rfl (HK4.out.1.below (below_alloc _ _)) ⟨V.heap.size, 0, none⟩ 1 (⟨op, a, b, q⟩ : RI) rfl rfl ?c1 (ri_one _) (ri_noW _) ?c3 ?c4 ?c5 ?_)
          case c1 => exact news_new V _ _
          case c3 => unfold maxLen; omega
          case c4 => omega
          case c5 => have := hbn.size; simp; omega
          intro v' w5 hown hgrow
          have ba := below_alloc V (.cells #[.int .i64 op, .int .i64 a, .int .i64 b, .bool q.s, .slice q.A q.n q.c, .slice q.A' q.n' q.c'] 27)
          have K5 := HK4.out.append (HYO.out _ hbW) hown hgrow
          have hbk := ownC_block (HK4.out.1.below ba)
          have B5 : BRow w5 g bs := Box.kept (Box.below' (Box.below' HB3.out hbW) ba) hgrow hbk (by decide)
          have A5 := ((HA3.out.below hbW).below ba).kept hgrow hbk (by decide)
          have hb5 := (hbn.alloc hbn.size _).grown hgrow (by have := hbn.size; simp; omega) (HK4.out.1.base)
          have S5 : Shrt N (ys ++ [(⟨op, a, b, q⟩ : RI)]) := fun z hz => by
            rcases List.mem_append.1 hz with hz | hz
            · exact HS.out z hz
            · rw [List.mem_singleton.1 hz]; exact HXS.out
          have T5 : (ys ++ [(⟨op, a, b, q⟩ : RI)]).map RI.pi = trimTo (fun i => ren mk ((xs.map RI.pi).getD i PI.nil)) mk (j + 1) := by
            unfold trimTo
            rw [HMJ.out, if_pos rfl, List.map_append, HT.out, HP9.out, ← HRE.out]
            rfl
          have HK5 := Lib.hid K5
          have HB5 := Lib.hid B5
          have HA5 := Lib.hid A5
          have HS5 := Lib.hid S5
          have HT5 := Lib.hid T5
          clear K5 B5 A5 S5 T5 hown hgrow hbk
          go_wp2_with fail
          go_roundw
          case rel => exact ⟨j + 1, _, _, by omega, by go_num, HK5, HA5, HT5, Lib.hid rfl, HS5, HB5, hb5⟩
          case measure => simp [mes, intOf]; omega
        case inr.inl =>
          obtain ⟨g1, g2⟩ := hus a (.inl ⟨by show 0 < arity op; omega, rfl⟩)
          obtain ⟨t, rfl⟩ : ∃ t : Nat, a = (t : Int) := ⟨a.toNat, by omega⟩
          have htj : t < j := by omega
          have htn : t < n2 := by omega
          obtain ⟨b2, o2, ca, rfl, hlt2, zk, zi, cz⟩ := HSZ.out.at_ (j := t) (by omega)
          have hca : ca = (cnt mk t : Int) := Option.some.inj (zk.symm.trans (cnts_at (by omega)))
          obtain ⟨a9, ea9⟩ : ∃ a9, a9 = (t : Int) := ⟨_, rfl⟩
          obtain ⟨b9, eb9⟩ : ∃ b9, b9 = b := ⟨_, rfl⟩
          rw [← ea9, ← eb9] at HP9
          have hre : (⟨op, ca, b, q⟩ : RI).pi = ren mk (⟨op, a9, b9, q⟩ : RI).pi := by simp [ren, RI.pi, cc, hca, ea9, eb9]
          have HRE := Lib.hid hre
          have hyo : ∀ W', Below w3.heap.size w3 W' → (⟨op, ca, b, q⟩ : RI).ok W' := fun W' hb9 => ⟨HOK.out.1, zi, HOK.out.2.2.1, (RI.below HOK.out hb9).2.2.2⟩
          have HYO := Lib.hid hyo
          rw [cc] at AR
          clear cc hre hyo hus ea9 eb9
          have kc : V.cell? ⟨b2, o2 + t, none⟩ = some (.int .i64 ca) := (hbV.cell (p := ⟨b2, o2 + t, none⟩) hlt2).trans cz
          obtain ⟨W1, hW1⟩ : ∃ W1, V.setCell ⟨w3.heap.size, 1, none⟩ (.int .i64 ca) = W1 := ⟨_, rfl⟩
          have B1 : Box 27 W1 w3.heap.size #[.int .i64 op, .int .i64 ca, .int .i64 b, .bool q.s, .slice q.A q.n q.c, .slice q.A' q.n' q.c'] := by rw [← hW1]; exact HBX.out.set1 1 _
          have hb1 : Below w3.heap.size w3 W1 := by rw [← hW1]; exact hbV.setCell (p := ⟨w3.heap.size, 1, none⟩) (Nat.le_refl _) _
          have HW1 := Lib.hid hW1
          have HB1 := Lib.hid B1
          clear hW1 B1
          clear hca zk
          go_wp2_with fail
          rw [HV.out]
          obtain ⟨⟨k0, k1, k2, k3, k4, k5⟩, f0, f1, f2, _⟩ := HBX.out.six
          with_reducible refine (AR _).out.mono ?_
          rintro _ _ ⟨rfl, rfl⟩
          go_wp2_with fail
          rw [HW1.out]
          clear k0 k1 k2 k3 k4 k5 f0 f1 f2
          obtain ⟨⟨k0, k1, k2, k3, k4, k5⟩, f0, f1, f2, _⟩ := HB1.out.six
          with_reducible refine (AR _).out.mono ?_
          rintro _ _ ⟨rfl, rfl⟩
          have hbW := hb1
          have hbn : Below w.heap.size w W1 := bb hb3 hbW
          have HK4 := Lib.hid (HK3.out.below hbW)
          go_wp2_with (at_builtin; refine wpList_append_C _ rfl _ _ 22 rfl w.heap.size 27 i0 _ 80 Tryz.underlying22 hi0 hz0 hz1 hz2 rfl (by decide) zeroP _ ys rfl (HK4.out.1.below (below_alloc _ _)) ⟨W1.heap.size, 0, none⟩ 1 (⟨op, ca, b, q⟩ : RI) rfl rfl ?c1 (ri_one _) (ri_noW _) ?c3 ?c4 ?c5 ?_)
          case c1 => exact news_new W1 _ _
          case c3 => unfold maxLen; omega
          case c4 => omega
          case c5 => have := hbn.size; simp; omega
          intro v' w5 hown hgrow
          have ba := below_alloc W1 (.cells #[.int .i64 op, .int .i64 ca, .int .i64 b, .bool q.s, .slice q.A q.n q.c, .slice q.A' q.n' q.c'] 27)
          have K5 := HK4.out.append (HYO.out _ hbW) hown hgrow
          have hbk := ownC_block (HK4.out.1.below ba)
          have B5 : BRow w5 g bs := Box.kept (Box.below' (Box.below' HB3.out hbW) ba) hgrow hbk (by decide)
          have A5 := ((HA3.out.below hbW).below ba).kept hgrow hbk (by decide)
          have hb5 := (hbn.alloc hbn.size _).grown hgrow (by have := hbn.size; simp; omega) (HK4.out.1.base)
          have S5 : Shrt N (ys ++ [(⟨op, ca, b, q⟩ : RI)]) := fun z hz => by
            rcases List.mem_append.1 hz with hz | hz
            · exact HS.out z hz
            · rw [List.mem_singleton.1 hz]; exact HXS.out
          have T5 : (ys ++ [(⟨op, ca, b, q⟩ : RI)]).map RI.pi = trimTo (fun i => ren mk ((xs.map RI.pi).getD i PI.nil)) mk (j + 1) := by
            unfold trimTo
            rw [HMJ.out, if_pos rfl, List.map_append, HT.out, HP9.out, ← HRE.out]
            rfl
          have HK5 := Lib.hid K5
          have HB5 := Lib.hid B5
          have HA5 := Lib.hid A5
          have HS5 := Lib.hid S5
          have HT5 := Lib.hid T5
          clear K5 B5 A5 S5 T5 hown hgrow hbk
          go_wp2_with fail
          go_roundw
          case rel => exact ⟨j + 1, _, _, by omega, by go_num, HK5, HA5, HT5, Lib.hid rfl, HS5, HB5, hb5⟩
          case measure => simp [mes, intOf]; omega
        case inr.inr.inl =>
          obtain ⟨g1, g2⟩ := hus a (.inl ⟨by show 0 < arity op; omega, rfl⟩)
          obtain ⟨t, rfl⟩ : ∃ t : Nat, a = (t : Int) := ⟨a.toNat, by omega⟩
          have htj : t < j := by omega
          have htn : t < n2 := by omega
          obtain ⟨g3, g4⟩ := hus b (.inr ⟨by show 1 < arity op; omega, rfl⟩)
          obtain ⟨u, rfl⟩ : ∃ u : Nat, b = (u : Int) := ⟨b.toNat, by omega⟩
          have huj : u < j := by omega
          have hun : u < n2 := by omega
          obtain ⟨b2, o2, ca, rfl, hlt2, zk, zi, cz⟩ := HSZ.out.at_ (j := t) (by omega)
          have hca : ca = (cnt mk t : Int) := Option.some.inj (zk.symm.trans (cnts_at (by omega)))
          obtain ⟨b3, o3, cb, e3, hlt3, zk3, zi3, cz3⟩ := HSZ.out.at_ (j := u) (by omega)
          have hcb : cb = (cnt mk u : Int) := Option.some.inj (zk3.symm.trans (cnts_at (by omega)))
          injection e3 with e3
          injection e3 with e3 e4
          subst e3 e4
          obtain ⟨a9, ea9⟩ : ∃ a9, a9 = (t : Int) := ⟨_, rfl⟩
          obtain ⟨b9, eb9⟩ : ∃ b9, b9 = (u : Int) := ⟨_, rfl⟩
          rw [← ea9, ← eb9] at HP9
          have hre : (⟨op, ca, cb, q⟩ : RI).pi = ren mk (⟨op, a9, b9, q⟩ : RI).pi := by simp [ren, RI.pi, cc, hca, hcb, ea9, eb9]
          have HRE := Lib.hid hre
          have hyo : ∀ W', Below w3.heap.size w3 W' → (⟨op, ca, cb, q⟩ : RI).ok W' := fun W' hb9 => ⟨HOK.out.1, zi, zi3, (RI.below HOK.out hb9).2.2.2⟩
          have HYO := Lib.hid hyo
          rw [cc] at AR
          clear cc hre hyo hus ea9 eb9
          have kc : V.cell? ⟨b2, o2 + t, none⟩ = some (.int .i64 ca) := (hbV.cell (p := ⟨b2, o2 + t, none⟩) hlt2).trans cz
          obtain ⟨W1, hW1⟩ : ∃ W1, V.setCell ⟨w3.heap.size, 1, none⟩ (.int .i64 ca) = W1 := ⟨_, rfl⟩
          have B1 : Box 27 W1 w3.heap.size #[.int .i64 op, .int .i64 ca, .int .i64 u, .bool q.s, .slice q.A q.n q.c, .slice q.A' q.n' q.c'] := by rw [← hW1]; exact HBX.out.set1 1 _
          have hb1 : Below w3.heap.size w3 W1 := by rw [← hW1]; exact hbV.setCell (p := ⟨w3.heap.size, 1, none⟩) (Nat.le_refl _) _
          have HW1 := Lib.hid hW1
          have HB1 := Lib.hid B1
          clear hW1 B1
          have kd : W1.cell? ⟨b2, o2 + u, none⟩ = some (.int .i64 cb) := (hb1.cell (p := ⟨b2, o2 + u, none⟩) hlt2).trans cz3
          obtain ⟨W2, hW2⟩ : ∃ W2, W1.setCell ⟨w3.heap.size, 2, none⟩ (.int .i64 cb) = W2 := ⟨_, rfl⟩
          have B2 : Box 27 W2 w3.heap.size #[.int .i64 op, .int .i64 ca, .int .i64 cb, .bool q.s, .slice q.A q.n q.c, .slice q.A' q.n' q.c'] := by rw [← hW2]; exact HB1.out.set1 2 _
          have hb2 : Below w3.heap.size w3 W2 := by rw [← hW2]; exact hb1.setCell (p := ⟨w3.heap.size, 2, none⟩) (Nat.le_refl _) _
          have HW2 := Lib.hid hW2
          have HB2 := Lib.hid B2
          clear hW2 B2 hca hcb zk zk3
          go_wp2_with fail
          rw [HV.out]
          obtain ⟨⟨k0, k1, k2, k3, k4, k5⟩, f0, f1, f2, _⟩ := HBX.out.six
          with_reducible refine (AR _).out.mono ?_
          rintro _ _ ⟨rfl, rfl⟩
          go_wp2_with fail
          rw [HW1.out]
          clear k0 k1 k2 k3 k4 k5 f0 f1 f2
          obtain ⟨⟨k0, k1, k2, k3, k4, k5⟩, f0, f1, f2, _⟩ := HB1.out.six
          with_reducible refine (AR _).out.mono ?_
          rintro _ _ ⟨rfl, rfl⟩
          go_upto_region 14 with (fail)
          rw [HW2.out]
          clear k0 k1 k2 k3 k4 k5 f0 f1 f2
          obtain ⟨⟨k0, k1, k2, k3, k4, k5⟩, f0, f1, f2, _⟩ := HB2.out.six
          have hbW := hb2
          have hbn : Below w.heap.size w W2 := bb hb3 hbW
          have HK4 := Lib.hid (HK3.out.below hbW)
          go_wp2_with (at_builtin; refine wpList_append_C _ rfl _ _ 22 rfl w.heap.size 27 i0 _ 80 Tryz.underlying22 hi0 hz0 hz1 hz2 rfl (by decide) zeroP _ ys rfl (HK4.out.1.below (below_alloc _ _)) ⟨W2.heap.size, 0, none⟩ 1 (⟨op, ca, cb, q⟩ : RI) rfl rfl ?c1 (ri_one _) (ri_noW _) ?c3 ?c4 ?c5 ?_)
          case c1 => exact news_new W2 _ _
          case c3 => unfold maxLen; omega
          case c4 => omega
          case c5 => have := hbn.size; simp; omega
          intro v' w5 hown hgrow
          have ba := below_alloc W2 (.cells #[.int .i64 op, .int .i64 ca, .int .i64 cb, .bool q.s, .slice q.A q.n q.c, .slice q.A' q.n' q.c'] 27)
          have K5 := HK4.out.append (HYO.out _ hbW) hown hgrow
          have hbk := ownC_block (HK4.out.1.below ba)
          have B5 : BRow w5 g bs := Box.kept (Box.below' (Box.below' HB3.out hbW) ba) hgrow hbk (by decide)
          have A5 := ((HA3.out.below hbW).below ba).kept hgrow hbk (by decide)
          have hb5 := (hbn.alloc hbn.size _).grown hgrow (by have := hbn.size; simp; omega) (HK4.out.1.base)
          have S5 : Shrt N (ys ++ [(⟨op, ca, cb, q⟩ : RI)]) := fun z hz => by
            rcases List.mem_append.1 hz with hz | hz
            · exact HS.out z hz
            · rw [List.mem_singleton.1 hz]; exact HXS.out
          have T5 : (ys ++ [(⟨op, ca, cb, q⟩ : RI)]).map RI.pi = trimTo (fun i => ren mk ((xs.map RI.pi).getD i PI.nil)) mk (j + 1) := by
            unfold trimTo
            rw [HMJ.out, if_pos rfl, List.map_append, HT.out, HP9.out, ← HRE.out]
            rfl
          have HK5 := Lib.hid K5
          have HB5 := Lib.hid B5
          have HA5 := Lib.hid A5
          have HS5 := Lib.hid S5
          have HT5 := Lib.hid T5
          clear K5 B5 A5 S5 T5 hown hgrow hbk
          go_wp2_with fail
          go_roundw
          case rel => exact ⟨j + 1, _, _, by omega, by go_num, HK5, HA5, HT5, Lib.hid rfl, HS5, HB5, hb5⟩
          case measure => simp [mes, intOf]; omega
        case inr.inr.inr =>
          obtain ⟨a9, ea9⟩ : ∃ a9, a9 = a := ⟨_, rfl⟩
          obtain ⟨b9, eb9⟩ : ∃ b9, b9 = b := ⟨_, rfl⟩
          rw [← ea9, ← eb9] at HP9
          have hre : (⟨op, a, b, q⟩ : RI).pi = ren mk (⟨op, a9, b9, q⟩ : RI).pi := by simp [ren, RI.pi, cc, ea9, eb9]
          have HRE := Lib.hid hre
          have hyo : ∀ W', Below w3.heap.size w3 W' → (⟨op, a, b, q⟩ : RI).ok W' := fun W' hb9 => ⟨HOK.out.1, HOK.out.2.1, HOK.out.2.2.1, (RI.below HOK.out hb9).2.2.2⟩
          have HYO := Lib.hid hyo
          rw [cc] at AR
          clear cc hre hyo hus ea9 eb9
          go_wp2_with fail
          rw [HV.out]
          obtain ⟨⟨k0, k1, k2, k3, k4, k5⟩, _⟩ := HBX.out.six
          with_reducible refine (AR _).out.mono ?_
          rintro _ _ ⟨rfl, rfl⟩
          go_wp2_with fail
          with_reducible refine (AR _).out.mono ?_
          rintro _ _ ⟨rfl, rfl⟩
          have hbW := hbV
          have hbn : Below w.heap.size w V := bb hb3 hbW
          have HK4 := Lib.hid (HK3.out.below hbW)
          go_wp2_with (at_builtin; refine wpList_append_C _ rfl _ _ 22 rfl w.heap.size 27 i0 _ 80 Tryz.underlying22 hi0 hz0 hz1 hz2 rfl (by decide) zeroP _ ys rfl (HK4.out.1.below (below_alloc _ _)) ⟨V.heap.size, 0, none⟩ 1 (⟨op, a, b, q⟩ : RI) rfl rfl ?c1 (ri_one _) (ri_noW _) ?c3 ?c4 ?c5 ?_)
          case c1 => exact news_new V _ _
          case c3 => unfold maxLen; omega
          case c4 => omega
          case c5 => have := hbn.size; simp; omega
          intro v' w5 hown hgrow
          have ba := below_alloc V (.cells #[.int .i64 op, .int .i64 a, .int .i64 b, .bool q.s, .slice q.A q.n q.c, .slice q.A' q.n' q.c'] 27)
          have K5 := HK4.out.append (HYO.out _ hbW) hown hgrow
          have hbk := ownC_block (HK4.out.1.below ba)
          have B5 : BRow w5 g bs := Box.kept (Box.below' (Box.below' HB3.out hbW) ba) hgrow hbk (by decide)
          have A5 := ((HA3.out.below hbW).below ba).kept hgrow hbk (by decide)
          have hb5 := (hbn.alloc hbn.size _).grown hgrow (by have := hbn.size; simp; omega) (HK4.out.1.base)
          have S5 : Shrt N (ys ++ [(⟨op, a, b, q⟩ : RI)]) := fun z hz => by
            rcases List.mem_append.1 hz with hz | hz
            · exact HS.out z hz
            · rw [List.mem_singleton.1 hz]; exact HXS.out
          have T5 : (ys ++ [(⟨op, a, b, q⟩ : RI)]).map RI.pi = trimTo (fun i => ren mk ((xs.map RI.pi).getD i PI.nil)) mk (j + 1) := by
            unfold trimTo
            rw [HMJ.out, if_pos rfl, List.map_append, HT.out, HP9.out, ← HRE.out]
            rfl
          have HK5 := Lib.hid K5
          have HB5 := Lib.hid B5
          have HA5 := Lib.hid A5
          have HS5 := Lib.hid S5
          have HT5 := Lib.hid T5
          clear K5 B5 A5 S5 T5 hown hgrow hbk
          go_wp2_with fail
          go_roundw
          case rel => exact ⟨j + 1, _, _, by omega, by go_num, HK5, HA5, HT5, Lib.hid rfl, HS5, HB5, hb5⟩
          case measure => simp [mes, intOf]; omega
    · obtain rfl : j = n := by omega
      obtain ⟨A2, c2', ea, _⟩ := HA.out.form
      subst ea
      obtain ⟨n2, hn2⟩ : ∃ n2, n2 = zs.length := ⟨_, rfl⟩
      rw [← hn2] at HA hzl ⊢
      have hza := HA.out
      rw [HZ.out] at hza
      have SZ := hza.slz (cnts_ok (by omega))
      have HSZ := Lib.hid SZ
      have hnj : j ≤ n2 := by omega
      have HYL := Lib.hid hyl
      clear hza SZ hyl hzl hn2 HA HZ HB
      go_wp2_with fail
      go_loopw [11, 62] (fun vv iv wx => ∃ (k : Nat) (vs : List Int), k ≤ m ∧ iv = .int .i64 k ∧ Hid (OwnC 1 zc 3 wr.heap.size wx vv vs) ∧ Hid (vs = (outs.take k).map (newAt j mk)) ∧ Below wr.heap.size wr wx) (fun _ iv _ => m - mes iv)
      case atStart => exact ⟨0, [], by omega, rfl, Lib.hid OwnC.nil, Lib.hid rfl, Below.refl _ _⟩
      case round =>
        obtain ⟨k, vs, hk, rfl, HVS, HVE, hx⟩ := hrel
        have hvl : vs.length = k := by
          rw [HVE.out, List.length_map, List.length_take, HOL.out]
          omega
        have HVL := Lib.hid hvl
        clear hvl
        by_cases hk2 : k < m
        · obtain ⟨b1, o1, o, rfl, hlt1, hok1, hoi, c1⟩ := (ho.below (bb hb hx)).at_ hk2
          have HOK1 := Lib.hid hok1
          clear hok1 hoi
          by_cases hin : 0 ≤ o ∧ o < (j : Int)
          · obtain ⟨h3, h4⟩ := hin
            obtain ⟨t, rfl⟩ : ∃ t : Nat, o = (t : Int) := ⟨o.toNat, by omega⟩
            have htj : t < j := by omega
            have htn : t < n2 := by omega
            obtain ⟨b2, o2, ca, rfl, hlt2, zk, zi, cz⟩ := (HSZ.out.below hx).at_ (j := t) htn
            have hca : ca = (cnt mk t : Int) := Option.some.inj (zk.symm.trans (cnts_at (by omega)))
            have HCA := Lib.hid hca
            clear hca zk zi
            go_wp2_with (at_builtin; refine wpList_append_C _ rfl _ _ 38 rfl _ 3 i1 _ 8 Tryz.underlying38 hi1 hy0 hy1 hy2 rfl (by decide) zeroZ _ vs rfl (HVS.out.below (below_alloc _ _)) ⟨wr.heap.size, 0, none⟩ 1 ca rfl rfl ?c1 (zc_one _) (zc_noW _) ?c3 ?c4 ?c5 ?_)
            case c1 => exact news_new wr _ _
            case c3 => have := HVL.out; unfold maxLen; omega
            case c4 => have := HVL.out; omega
            case c5 => have := hx.size; simp; omega
            intro vv2 w6 hown hgrow
            have ba := below_alloc wr (.cells #[.int .i64 ca] 3)
            have hb6 := (hx.alloc hx.size _).grown hgrow (by have := hx.size; simp; omega) (HVS.out.below ba).base
            have V6 : vs ++ [ca] = (outs.take (k + 1)).map (newAt j mk) := by
              rw [List.take_add_one, HOK1.out, List.map_append, HVE.out]
              congr 1
              show [ca] = [newAt j mk _]
              unfold newAt
              rw [if_pos (by omega), HCA.out]; rfl
            have HV6 := Lib.hid V6
            have HO6 := Lib.hid hown
            clear V6 hown hgrow
            go_wp2_with fail
            go_roundw
            case rel => exact ⟨k + 1, _, by omega, by go_num, HO6, HV6, hb6⟩
            case measure => simp [mes, intOf]; omega
          · have hout : o < 0 ∨ (0 ≤ o ∧ (j : Int) ≤ o) := by omega
            have HIN := Lib.hid hin
            clear hin
            rcases hout with hout | ⟨hout, hout2⟩
            all_goals
              go_wp2_with (at_builtin; refine wpList_append_C _ rfl _ _ 38 rfl _ 3 i1 _ 8 Tryz.underlying38 hi1 hy0 hy1 hy2 rfl (by decide) zeroZ _ vs rfl (HVS.out.below (below_alloc _ _)) ⟨wr.heap.size, 0, none⟩ 1 (-1) rfl rfl ?c1 (zc_one _) (zc_noW _) ?c3 ?c4 ?c5 ?_)
              case c1 => exact news_new wr _ _
              case c3 => have := HVL.out; unfold maxLen; omega
              case c4 => have := HVL.out; omega
              case c5 => have := hx.size; simp; omega
              intro vv2 w6 hown hgrow
              have ba := below_alloc wr (.cells #[.int .i64 (-1)] 3)
              have hb6 := (hx.alloc hx.size _).grown hgrow (by have := hx.size; simp; omega) (HVS.out.below ba).base
              have V6 : vs ++ [(-1)] = (outs.take (k + 1)).map (newAt j mk) := by
                rw [List.take_add_one, HOK1.out, List.map_append, HVE.out]
                congr 1
                show [(-1)] = [newAt j mk _]
                unfold newAt
                rw [if_neg HIN.out]
              have HV6 := Lib.hid V6
              have HO6 := Lib.hid hown
              clear V6 hown hgrow
              go_wp2_with fail
              go_roundw
              case rel => exact ⟨k + 1, _, by omega, by go_num, HO6, HV6, hb6⟩
              case measure => simp [mes, intOf]; omega
        · obtain rfl : k = m := by omega
          obtain ⟨A5, c5', ev, _⟩ := HVS.out.form
          subst ev
          go_wp2_with fail
          go_ret2
          have hve : vs = trimO (xs.map RI.pi) mk outs := by
            rw [HVE.out]
            unfold trimO
            rw [HL.out, List.take_of_length_le (by rw [HOL.out]; exact Nat.le_refl _)]
          have hvo : ∀ z ∈ vs, I64 z := by
            rw [HVE.out]
            intro z hz
            obtain ⟨o, _, rfl⟩ := List.mem_map.1 hz
            unfold newAt I64
            split
            · have := cnt_le mk o.toNat; omega
            · omega
          have z2 := HVS.out.slz hvo
          rw [hve] at z2
          refine ⟨mk, HND.out, _, _, _, ys, _, _, _, rfl, (HK.out.below hx).slp, ?_, HS.out, ?_, bb hb hx⟩
          · unfold trimL
            rw [HL.out]
            exact HT.out
          · rw [hve]; exact z2

end Go.Proofs.YtibgpeaplmcogaaGreatDoor

namespace Go.Proofs.YtibgpeaplmcogaaGreatDoor
set_option maxRecDepth 100000
open Go.RowKit Go.Maps
set_option linter.unusedVariables false
set_option linter.unusedSimpArgs false

theorem trimL_congr {l : List PI} {m m' : Nat → Bool} (hA : Ahead l) (h : ∀ i, i < l.length → m i = m' i) : trimL l m = trimL l m' := by
  have hc := cnt_congr h
  refine trimTo_congr h fun i hi _ => ?_
  have hu := hA i hi
  show ren m (l.getD i PI.nil) = ren m' (l.getD i PI.nil)
  generalize l.getD i PI.nil = x at *
  obtain ⟨op, a, b, q⟩ := x
  unfold ren
  show PI.mk op _ _ q = PI.mk op _ _ q
  congr 1
  · split
    · rename_i h
      have u : 0 ≤ a ∧ a < (i : Int) := hu a (.inl ⟨h, rfl⟩)
      show (cnt m a.toNat : Int) = (cnt m' a.toNat : Int)
      rw [hc _ (by omega)]
    · rfl
  · split
    · rename_i h
      have u : 0 ≤ b ∧ b < (i : Int) := hu b (.inr ⟨h, rfl⟩)
      show (cnt m b.toNat : Int) = (cnt m' b.toNat : Int)
      rw [hc _ (by omega)]
    · rfl
theorem trimO_congr {l : List PI} {m m' : Nat → Bool} {outs : List Int} (h : ∀ i, i < l.length → m i = m' i) : trimO l m outs = trimO l m' outs := by
  unfold trimO
  refine List.map_congr_left fun o _ => ?_
  unfold newAt
  split
  · rename_i h9
    rw [cnt_congr h _ (by omega)]
  · rfl
theorem bools_eq {l : List PI} {outs : List Int} {n : Nat} {bs cs : List Bool} (hl : l.length = n) (hb : bs.length = n) (hc : cs.length = n) (h1 : IsNeed l outs (fun i => bs.getD i false)) (h2 : IsNeed l outs (fun i => cs.getD i false)) : cs = bs := by
  refine List.ext_getElem (by omega) fun i hi hi' => ?_
  have h9 := need_unique h2 h1 i (by omega)
  simp only [List.getD, List.getElem?_eq_getElem hi, List.getElem?_eq_getElem hi', Option.getD_some] at h9
  exact h9

set_option maxRecDepth 100000 in
set_option maxHeartbeats 4000000 in
theorem lineTrims_walk {w : World} {A B : Option Addr} {n c m d : Nat} {xs : List RI} {outs : List Int} (h : SlP w A n c xs) (ho : SlZ w B m d outs) (hN : Nam w) :
    Calls Tryz.prog 4 #[.slice A n c, .slice B m d] w (RetBl true w) := by
  have MN := law_many h
  have SM := fun (w1 : World) (hb9 : Below w.heap.size w w1) => same15 w1 (hN.below hb9)
  have HSM := Lib.hid SM
  clear SM
  obtain ⟨p, hp⟩ : ∃ p, manyB xs = p := ⟨_, rfl⟩
  rw [hp] at MN
  have HMN := Lib.hid MN
  clear MN
  by_cases hbad : p = true ∨ 100 < m
  · have hc : p = true ∨ (p = false ∧ 100 < m) := by
      cases p
      · rcases hbad with h9 | h9
        · cases h9
        · exact .inr ⟨rfl, h9⟩
      · exact .inl rfl
    clear hbad h ho hp
    rcases hc with rfl | ⟨rfl, h1⟩
    all_goals
      go_enter Tryz.func4, Tryz.ntmps4
      go_wp2_with fail
      with_reducible refine HMN.out.mono ?_
      rintro _ w1 ⟨rfl, b1⟩
      go_wp2_with fail
      with_reducible refine (HSM.out _ b1).mono ?_
      rintro _ w2 ⟨rfl, b2⟩
      go_wp2_with fail
      go_ret
      exact ⟨rfl, bb b1 b2⟩
  have hpf : p = false := by
    cases p
    · rfl
    · exact absurd (.inl rfl) hbad
  have hm100 : m ≤ 100 := Nat.le_of_not_lt fun e => hbad (.inr e)
  subst hpf
  unfold manyB at hp
  rw [Bool.or_eq_false_iff] at hp
  have hs := anyI_short hp.1
  have hs9 : Shrt 1000 xs := fun x hx => by
    obtain ⟨h1, h2⟩ := hs x hx
    exact ⟨by omega, by omega⟩
  have hn : n ≤ 300 := by
    have h9 := of_decide_eq_false hp.2
    rw [h.1.1] at h9
    omega
  clear hp hbad
  have P1 := fun (w1 : World) (hb9 : Below w.heap.size w w1) => ref_right15 (h.below hb9) hs9 (by omega) (by omega)
  have HP1 := Lib.hid P1
  clear P1
  by_cases hprog : IsProg vq nq (xs.map RI.pi)
  case neg =>
    have N1 := fun (w1 : World) (hb9 : Below w.heap.size w w1) => line_Needs_no (B := B) (m := m) (d := d) (h.below hb9) hs9 (by omega) hprog
    have T1 := fun (w1 : World) (hb9 : Below w.heap.size w w1) => line_Trim_no (B := B) (m := m) (d := d) (h.below hb9) hs9 (by omega) hprog
    have HR := Lib.hid (progB_false hprog)
    have HN1 := Lib.hid N1
    have HT1 := Lib.hid T1
    rw [HR.out] at HP1
    clear N1 T1 h ho hs hs9 hprog HR
    go_enter Tryz.func4, Tryz.ntmps4
    go_wp2_with fail
    with_reducible refine HMN.out.mono ?_
    rintro _ w1 ⟨rfl, b1⟩
    go_wp2_with fail
    with_reducible refine (HN1.out _ b1).mono ?_
    rintro _ w2 ⟨rfl, b2⟩
    have y2 := bb b1 b2
    go_wp2_with fail
    with_reducible refine (HT1.out _ y2).mono ?_
    rintro _ w3 ⟨rfl, b3⟩
    have y3 := bb y2 b3
    go_wp2_with fail
    with_reducible refine (HP1.out _ y3).mono ?_
    rintro _ w4 ⟨rfl, b4⟩
    have y4 := bb y3 b4
    go_wp2_with fail
    with_reducible refine (HSM.out _ y4).mono ?_
    rintro _ w5 ⟨rfl, b5⟩
    go_wp2_with fail
    go_ret
    exact ⟨rfl, bb y4 b5⟩
  case pos =>
  have N1 := fun (w1 : World) (hb9 : Below w.heap.size w w1) => line_Needs (h.below hb9) hs9 (ho.below hb9) (by omega) (by omega) hprog
  have T1 := fun (w1 : World) (hb9 : Below w.heap.size w w1) => line_Trim (h.below hb9) hs (by omega) (ho.below hb9) (by omega) (by omega) hprog
  have N2 := fun (w1 : World) (hb9 : Below w.heap.size w w1) => ref_Needs (h.below hb9) (ho.below hb9) (prog_ahead hprog) (by omega) (by omega)
  have T2 := fun (w1 : World) (hb9 : Below w.heap.size w w1) => ref_Trim (h.below hb9) hs (ho.below hb9) (by omega) (by omega) (prog_ahead hprog)
  have HR := Lib.hid ((progB_iff _).2 hprog)
  have HAH := Lib.hid (prog_ahead hprog)
  have HLX := Lib.hid (show (xs.map RI.pi).length = n by rw [List.length_map]; exact h.1.1)
  have HOL := Lib.hid (show outs.length = m from ho.1.1)
  have HN1 := Lib.hid N1
  have HT1 := Lib.hid T1
  have HN2 := Lib.hid N2
  have HT2 := Lib.hid T2
  rw [HR.out] at HP1
  clear N1 T1 N2 T2 h ho hs hs9 hprog HR
  go_enter Tryz.func4, Tryz.ntmps4
  go_wp2_with fail
  with_reducible refine HMN.out.mono ?_
  rintro _ w1 ⟨rfl, b1⟩
  go_wp2_with fail
  with_reducible refine (HN1.out _ b1).mono ?_
  rintro _ w2 ⟨g, bs, rfl, hbl, hbr, hnd, b2⟩
  have y2 := bb b1 b2
  have HBL := Lib.hid hbl
  have HBR := Lib.hid hbr
  have HND := Lib.hid hnd
  clear hbl hbr hnd
  go_wp2_with fail
  with_reducible refine (HT1.out _ y2).mono ?_
  rintro _ w3 ⟨mk, hnd, A3, n3, c3, ys, A4, n4, c4, rfl, p3, ht3, s3, z3, b3⟩
  have y3 := bb y2 b3
  have HM3 := Lib.hid hnd
  have HP3 := Lib.hid p3
  have HT3 := Lib.hid ht3
  have HS3 := Lib.hid s3
  have HZ3 := Lib.hid z3
  clear hnd p3 ht3 s3 z3
  go_wp2_with fail
  with_reducible refine (HP1.out _ y3).mono ?_
  rintro _ w4 ⟨rfl, b4⟩
  have y4 := bb y3 b4
  go_wp2_with fail
  with_reducible refine (HT2.out _ y4).mono ?_
  rintro _ w5 ⟨mk', hnd', A5, n5, c5, us, A6, n6, c6, rfl, p5, ht5, s5, z5, b5⟩
  have y5 := bb y4 b5
  have hmm := need_unique HM3.out hnd'
  have e1 : trimL (xs.map RI.pi) mk' = trimL (xs.map RI.pi) mk := (trimL_congr HAH.out hmm).symm
  have e2 : trimO (xs.map RI.pi) mk' outs = trimO (xs.map RI.pi) mk outs := (trimO_congr hmm).symm
  rw [e1] at ht5
  rw [e2] at z5
  have e5 : n5 = n3 := by
    have h9 := congrArg List.length (ht5.trans HT3.out.symm)
    rw [List.length_map, List.length_map, p5.1.1, HP3.out.1.1] at h9
    exact h9
  have e6 : n6 = n4 := by rw [← z5.1.1, ← HZ3.out.1.1]
  have hn3' : n3 ≤ 300 := by
    have h9 := congrArg List.length HT3.out
    rw [List.length_map, trimL_len, HP3.out.1.1] at h9
    have := cnt_le mk (xs.map RI.pi).length
    have := HLX.out
    omega
  have hn4 : n4 ≤ 100 := by
    have h9 := HZ3.out.1.1
    have h8 := HOL.out
    unfold trimO at h9
    rw [List.length_map] at h9
    omega
  subst e5 e6
  have SP := fun (w1 : World) (hb9 : Below w5.heap.size w5 w1) => ref_sameP (((HP3.out.below b4).below b5).below hb9) (p5.below hb9) (HT3.out.trans ht5.symm) HS3.out s5 (by omega) (by omega)
  have SI := fun (w1 : World) (hb9 : Below w5.heap.size w5 w1) => plain_ints (((HZ3.out.below b4).below b5).below hb9) (z5.below hb9) (by omega)
  have HSP := Lib.hid SP
  have HSI := Lib.hid SI
  have b25 : Below w2.heap.size w2 w5 := bb b3 (bb b4 b5)
  have HB5 := Lib.hid (Box.below' HBR.out b25)
  clear SP SI p5 ht5 z5 s5 hnd' hmm e1 e2 HP3 HZ3 HT3 HS3 HM3
  go_wp2_with fail
  with_reducible refine (HN2.out _ y5).mono ?_
  rintro _ w6 ⟨g', cs, rfl, _, hcl, hcr, hnd2, b6⟩
  obtain rfl := bools_eq HLX.out HBL.out hcl HND.out hnd2
  have PB := plain_bools (Box.below' HB5.out b6) hcr hcl (by omega)
  have HPB := Lib.hid PB
  clear PB hcl hcr hnd2
  go_wp2_with fail
  with_reducible refine HPB.out.mono ?_
  rintro _ w7 ⟨rfl, b7⟩
  have x7 := bb b6 b7
  go_wp2_with fail
  with_reducible refine (HSP.out _ x7).mono ?_
  rintro _ w8 ⟨rfl, b8⟩
  have x8 := bb x7 b8
  go_wp2_with fail
  with_reducible refine (HSI.out _ x8).mono ?_
  rintro _ w9 ⟨rfl, b9⟩
  have x9 := bb x8 b9
  go_wp2_with fail
  with_reducible refine (HSM.out _ (bb y5 x9)).mono ?_
  rintro _ w10 ⟨rfl, b10⟩
  go_wp2_with fail
  go_ret
  exact ⟨rfl, bb (bb y5 x9) b10⟩

end Go.Proofs.YtibgpeaplmcogaaGreatDoor

namespace Go.Proofs.YtibgpeaplmcogaaGreatDoor
set_option maxRecDepth 100000
open Go.RowKit
set_option linter.unusedVariables false
set_option linter.unusedSimpArgs false
set_option maxRecDepth 100000

theorem nam15t {W : World} (h : laidMetH Tryz.prog Rows.lineTrimsRow.laid W) : Nam W := by
  rw [MakeChecks.laidMetH_plain _ _ _ (by kernel_rfl)] at h
  obtain ⟨ps, ⟨_, _, _, _, _, _, _, _, _, _, ⟨_, _, _, _, _, _, _, _, _, _, ⟨_, _, _, _, _, _, _, _, _, _, ⟨_, _, _, _, _, _, _, _, _, _, ⟨g, t, cs, fuel, p, q, hg, ht, hv, hd, _, _⟩, _⟩, _⟩, _⟩, _⟩, _, _⟩ := h
  obtain rfl : g = 0 := Option.some.inj (hg.symm.trans (show Tryz.prog.globalNamed ((Rows.lineTrimsRow.laid.map Prod.fst).getD 4 Rows.lineTrimsRow.spec) = some 0 by kernel_rfl))
  obtain rfl := Option.some.inj ((show (Tryz.prog.globals[0]?).map (·.type) = some 67 by kernel_rfl).symm.trans ht)
  obtain ⟨xs, m, _, ex, _, hl, hel⟩ := DataW.trod_array Tryz.underlying67 hd
  have c5 : Tryz.prog.cellsOf 9 = 1 := by kernel_rfl
  have hcell : ∀ r, r < 11 → W.cell? ⟨0, r, none⟩ = some (.string (nmS r)) := by
    intro r hr
    have hE := hel r hr
    rw [c5, Nat.mul_one, List.getElem?_eq_getElem (by omega)] at hE
    obtain ⟨s, e1, e2, _⟩ := DataW.trod_string Tryz.underlying9 hE
    have hlen : nameL.length = 11 := rfl
    have e3 : (xs.map (·.1)) = nameL.map fun n => (DataW.lit (.string n) : DataW Unit) := (DataW.agg.inj (Prod.mk.inj ex).1).symm
    have e4 : (xs.map (·.1))[r]? = (nameL.map fun n => (DataW.lit (.string n) : DataW Unit))[r]? := by rw [e3]
    rw [List.getElem?_map, List.getElem?_map, List.getElem?_eq_getElem (by omega : r < xs.length), List.getElem?_eq_getElem (by omega : r < nameL.length), e2] at e4
    have hz : s = nmS r := by
      simp only [Option.map_some, Option.some.injEq, DataW.lit.injEq, Lit.string.injEq] at e4
      unfold nmS
      rw [List.getD, List.getElem?_eq_getElem (by omega : r < nameL.length), Option.getD_some, ← e4]
    rw [World.var?_cell hg hv r, ← hz]
    have : cs.toList[r]? = some (.string s) := by
      have h0 : ((cs.toList.drop r).take 1)[0]? = some (.string s) := by rw [e1]; rfl
      simpa using h0
    simpa using this
  refine ⟨?_, hcell⟩
  have h1 := hcell 0 (by omega)
  rcases Nat.lt_or_ge 0 W.heap.size with h0 | h0
  · exact h0
  · exfalso
    have : W.heap[0]? = none := Array.getElem?_eq_none h0
    unfold World.cell? at h1
    simp [this] at h1

theorem lineTrims_row (a0 : Option Addr) (len0 cap0 : Nat) (z0 : List RI) (a1 : Option Addr) (len1 cap1 : Nat) (z1 : List Int) (w : World) (w0 : SlP w a0 len0 cap0 z0) (w1 : SlZ w a1 len1 cap1 z1) (hN : Nam w) :
    Calls Tryz.prog 4 #[.slice a0 len0 cap0, .slice a1 len1 cap1] w (RetBl true w) := lineTrims_walk w0 w1 hN

end Go.Proofs.YtibgpeaplmcogaaGreatDoor
