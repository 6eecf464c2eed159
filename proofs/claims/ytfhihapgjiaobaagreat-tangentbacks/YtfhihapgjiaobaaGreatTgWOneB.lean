/-
  What the document's reverse pass (gradineref17.Back) returns. Conditions: the slices read as at most 60 instructions that are a program, as that many numbers of at most 64 words, as at most 60 ints and as that many numbers of at most 8 words.
-/
import Derived.Test.YtfhihapgjiaobaaGreatLnBkAllB
import Derived.Test.YtfhihapgjiaobaaGreatEvJAllB
namespace Go.Proofs.YtfhihapgjiaobaaGreat
set_option maxRecDepth 100000
open Go.RowKit
set_option linter.unusedVariables false
set_option linter.unusedSimpArgs false

theorem OwnQ.lower {B B' : Nat} {w : World} {v : Value} {Xs : List Rat} (h : OwnQ B w v Xs) (hB : B' ≤ B) : OwnQ B' w v Xs := by
  obtain ⟨xs, ⟨h0, h1⟩, h2, h3⟩ := h
  rcases h1 with h1 | ⟨g', cap, cur, e, h4, h5⟩
  · exact ⟨xs, ⟨h0, .inl h1⟩, h2, h3⟩
  · exact ⟨xs, ⟨h0, .inr ⟨g', cap, cur, e, Nat.le_trans hB h4, h5⟩⟩, h2, h3⟩
theorem Box.put3o {t : TypeId} {w : World} {b g o : Nat} {vs : Array Value} (h : Box t w b vs) (hne : b ≠ g) (x0 x1 x2 : Value) : Box t (put3o w g o x0 x1 x2) b vs := ((keep_put3o w g o x0 x1 x2).block b h.lt hne).trans h
theorem rep_succ (n : Nat) : List.replicate (n + 1) (0 : Rat) = List.replicate n 0 ++ [0] := List.replicate_succ'
theorem outB_get {outs : List Int} {n k : Nat} (h : ∀ j, j < outs.length → outB n (outs.getD j 0) = true) : outs.all (outB n) = true := by
  rw [List.all_eq_true]
  intro o ho
  obtain ⟨j, hj, rfl⟩ := List.mem_iff_getElem.1 ho
  have := h j hj
  rw [List.getD_eq_getElem?_getD, List.getElem?_eq_getElem hj] at this
  exact this
theorem giveTo_stop {v : List Rat} {l : List PI} {i : Nat} {s : List Rat × List Rat} {R : Except (Nat × Int) (List Rat × List Rat)} {e : Int} (h : R = giveTo v l (i + 1) s) (he : giveSt v i (l.getD i PI.nil) s = .error e) : R = .error (i, e) := by rw [h, giveTo_err he]
theorem giveTo_next {v : List Rat} {l : List PI} {i : Nat} {s s' : List Rat × List Rat} {R : Except (Nat × Int) (List Rat × List Rat)} (h : R = giveTo v l (i + 1) s) (he : giveSt v i (l.getD i PI.nil) s = .ok s') : R = giveTo v l i s' := by rw [h, giveTo_ok he]

/-- what Give returned, in a word: the error is 4 where it is divided by 0; else there are the two numbers (the second one where it counts) -/
def GvF (x : PI) (Y G : Rat) (v : List Rat) (a b : NV) (e : Int) (w : World) : Prop :=
  (tden x Y v = 0 → e = 4) ∧ (¬ tden x Y v = 0 → e = 0 ∧ a.q w (G * dA x Y v) ∧ (arity x.op = 2 → b.q w (G * dB x Y v)))
theorem GvF.below {x : PI} {Y G : Rat} {v : List Rat} {a b : NV} {e : Int} {w w' : World} (h : GvF x Y G v a b e w) (hb : Below w.heap.size w w') : GvF x Y G v a b e w' :=
  ⟨h.1, fun h0 => ⟨(h.2 h0).1, Q.below (h.2 h0).2.1 hb, fun h2 => Q.below ((h.2 h0).2.2 h2) hb⟩⟩
theorem GvF.put3 {x : PI} {Y G : Rat} {v : List Rat} {a b : NV} {e : Int} {w : World} {g : Nat} (h : GvF x Y G v a b e w) (hB : IsBox 45 w g) (x0 x1 x2 : Value) : GvF x Y G v a b e (put3 w g x0 x1 x2) :=
  ⟨h.1, fun h0 => ⟨(h.2 h0).1, Q.put3 hB (h.2 h0).2.1, fun h2 => Q.put3 hB ((h.2 h0).2.2 h2)⟩⟩
theorem RetGive.any {x : PI} {Y G : Rat} {v : List Rat} {w w' : World} {e : Ending} (h : RetGive x Y G v w e w') :
    ∃ (s1 : Bool) (A1 : Option Addr) (n1 c1 : Nat) (D1 : Option Addr) (m1 d1 : Nat) (s2 : Bool) (A2 : Option Addr) (n2 c2 : Nat) (D2 : Option Addr) (m2 d2 : Nat) (k : Int), e = .returned (.tuple #[.agg #[.bool s1, .slice A1 n1 c1, .slice D1 m1 d1], .agg #[.bool s2, .slice A2 n2 c2, .slice D2 m2 d2], .int .i64 k]) ∧
      GvF x Y G v ⟨s1, A1, n1, c1, D1, m1, d1⟩ ⟨s2, A2, n2, c2, D2, m2, d2⟩ k w' ∧ Below w.heap.size w w' := by
  unfold RetGive at h
  split at h
  · rename_i h0
    obtain ⟨rfl, hb⟩ := h
    exact ⟨_, _, _, _, _, _, _, _, _, _, _, _, _, _, _, rfl, ⟨fun _ => rfl, fun h1 => absurd h0 h1⟩, hb⟩
  · rename_i h0
    obtain ⟨s1, A1, n1, c1, D1, m1, d1, s2, A2, n2, c2, D2, m2, d2, rfl, q1, q2, hb⟩ := h
    exact ⟨_, _, _, _, _, _, _, _, _, _, _, _, _, _, _, rfl, ⟨fun h1 => absurd h1 h0, fun _ => ⟨rfl, q1, fun h2 => q2 (decide_eq_true h2)⟩⟩, hb⟩
/-- where the two numbers lie behind Give -/
def GvC (V : World) (x : PI) (Y G : Rat) (v : List Rat) (s16 s17 s18 : Value) (w : World) : Prop :=
  ∃ g1 g2 a b e, s16 = .pointer (some ⟨g1, 0, none⟩) ∧ s17 = .pointer (some ⟨g2, 0, none⟩) ∧ s18 = .int .i64 e ∧ V.heap.size ≤ g1 ∧ V.heap.size ≤ g2 ∧ NV.box w g1 a ∧ NV.box w g2 b ∧ GvF x Y G v a b e w ∧ Below V.heap.size V w
def Z3 : Array Value := #[.bool false, .slice none 0 0, .slice none 0 0]

set_option maxRecDepth 100000 in
set_option maxHeartbeats 16000000 in
theorem rf_back17 {w : World} {A B O D : Option Addr} {n c m d mo o_ kc cc : Nat} {xs : List RI} {v Cs : List Rat} {outs : List Int} (h : SlP w A n c xs) (hprog : IsProg vq nq (xs.map RI.pi)) (hv : SlQ w B m d v) (hvl : n = m) (zv : AllSz 64 v) (ho : SlZ w O mo o_ outs) (hc : SlQ w D kc cc Cs) (hkc : mo = kc) (zc : AllSz 8 Cs) (hn : n ≤ 60) (hmo : mo ≤ 60) :
    Calls Tryz.prog 16 #[.slice A n c, .slice B m d, .slice O mo o_, .slice D kc cc] w (RetEx (bkRun (xs.map RI.pi) v outs Cs (inputsTo (xs.map RI.pi) n).toNat) w) := by
  subst hvl hkc
  have hlen : (xs.map RI.pi).length = n := by rw [List.length_map]; exact h.1.1
  have hol : outs.length = mo := ho.1.1
  obtain ⟨M, hM, hM2⟩ : ∃ M : Nat, inputsTo (xs.map RI.pi) n = (M : Int) ∧ M ≤ 65536 := ⟨(inputsTo (xs.map RI.pi) n).toNat, by have := inputs_range (xs.map RI.pi) n; omega, by have := inputs_range (xs.map RI.pi) n; omega⟩
  have IN := fun (w1 : World) (hb : Below w.heap.size w w1) => ref_inputs (h.below hb) (by omega)
  have hpin := prog_inputs hprog
  rw [hlen] at hpin
  rw [hM, show ((M : Int)).toNat = M from by omega] at *
  obtain ⟨R, hR⟩ : ∃ R, R = bkRun (xs.map RI.pi) v outs Cs M := ⟨_, rfl⟩
  rw [← hR]
  have hno : ∀ j, j < mo → outB n (outs.getD j 0) = false → R = .error (0, 11) := fun j hj hh => by
    rw [hR]
    refine bkRun_no (o := outs.getD j 0) ?_ (by rw [hlen]; exact hh)
    rw [List.getD_eq_getElem?_getD, List.getElem?_eq_getElem (by omega)]
    exact List.getElem_mem _
  have herr : (∀ j, j < mo → outB n (outs.getD j 0) = true) → ∀ e, giveTo v (xs.map RI.pi) n (seedTo outs Cs n mo, List.replicate M 0) = .error e → R = .error e := fun h1 e h2 => by
    rw [hR]
    exact bkRun_err (by rw [hlen]; exact outB_get (k := 0) (by rw [hol]; exact h1)) (by rw [hlen, hol]; exact h2)
  have hok : (∀ j, j < mo → outB n (outs.getD j 0) = true) → ∀ s, giveTo v (xs.map RI.pi) n (seedTo outs Cs n mo, List.replicate M 0) = .ok s → R = .ok s.2 := fun h1 s h2 => by
    rw [hR]
    exact bkRun_ok (by rw [hlen]; exact outB_get (k := 0) (by rw [hol]; exact h1)) (by rw [hlen, hol]; exact h2)
  have R0 := fun (w1 : World) => Lib.hid (ref_of 0 (by omega) (by omega) w1)
  have HIN := Lib.hid IN
  have HNO := Lib.hid hno
  have HERR := Lib.hid herr
  have HOK := Lib.hid hok
  have HPIN := Lib.hid hpin
  have HPR := Lib.hid hprog
  have HL := Lib.hid h
  have HV := Lib.hid hv
  have HO := Lib.hid ho
  have HC := Lib.hid hc
  have HLEN := Lib.hid hlen
  have HZV := Lib.hid zv
  have HZC := Lib.hid zc
  have HSD := Lib.hid (fine_seed (outs := outs) (cs := Cs) n zc)
  obtain ⟨i0, hi0, hz0, hz1, hz2⟩ := info_parts infoQ
  clear hR hno herr hok hpin hprog h hv ho hc hlen zv zc IN hol hM
  go_enter Tryz.func16, Tryz.ntmps16
  go_wp2_with fail
  go_loopw [11, 21] (fun vv iv wr => ∃ (j : Nat), j ≤ n ∧ iv = .int .i64 j ∧ Hid (OwnQ w.heap.size wr vv (List.replicate j 0)) ∧ Below w.heap.size w wr) (fun _ iv _ => n - mes iv)
  case atStart => exact ⟨0, by omega, rfl, Lib.hid ⟨[], OwnC.nil, rfl, fun j x hx => by simp at hx⟩, Below.refl _ _⟩
  case round =>
  obtain ⟨j, hj, rfl, HX, hb⟩ := hrel
  obtain ⟨A_h, c_h, ev⟩ := HX.out.form
  rw [List.length_replicate] at ev
  subst ev
  by_cases hj2 : j < n
  · go_wp2_with fail
    with_reducible refine (R0 _).out.mono ?_
    rintro _ w5 ⟨s_t, A_t, n_t, c_t, D_t, m_t, d_t, rfl, q5, b5⟩
    have y5 : Below w.heap.size w w5 := bb hb b5
    obtain ⟨vs, o1, o2, o3⟩ := HX.out.below b5
    have hvs : vs.length = j := by rw [o2, List.length_replicate]
    have hok2 := rqOf_ok (N := 1) (X := (0 : Rat)) q5 (by exact sz_zero 1 (by omega)) (by omega)
    have HO1 := Lib.hid o1
    have HO2 := Lib.hid o2
    have HO3 := Lib.hid o3
    have HVS := Lib.hid hvs
    have HOQ5 := Lib.hid hok2
    clear o1 o2 o3 hvs q5 hok2
    go_wp2_with (at_builtin; refine wpList_append_C _ rfl _ _ 23 rfl w.heap.size 45 i0 _ 56 Tryz.underlying23 hi0 hz0 hz1 hz2 rfl (by decide) zeroQ _ vs rfl (HO1.out.below (below_alloc _ _)) ⟨w5.heap.size, 0, none⟩ 1 (rqOf s_t A_t n_t c_t D_t m_t d_t (0 : Rat)) rfl rfl ?c1 (rq_one _) (rq_noW _) ?c3 ?c4 ?c5 ?_)
    case c1 => exact news_new w5 _ _
    case c3 => have := HVS.out; unfold maxLen; omega
    case c4 => have := HVS.out; omega
    case c5 => have := y5.size; simp; omega
    intro v' w6 hown hgrow
    have hbn := (y5.alloc y5.size _).grown hgrow (by have := y5.size; simp; omega) (HO1.out.base)
    have HOQ := Lib.hid (OwnQ.append HO1.out HO2.out HO3.out HOQ5.out.1 HOQ5.out.2 hown hgrow)
    clear hown hgrow
    go_wp2_with fail
    go_roundw
    case rel => exact ⟨j + 1, by omega, by go_num, Lib.hid (by rw [rep_succ]; exact HOQ.out), hbn⟩
    case measure => simp [mes, intOf]; omega
  · obtain rfl : j = n := by omega
    clear hj hj2
    have I2 := HIN.out wr hb
    have HI2 := Lib.hid I2
    clear I2
    go_wp2_with fail
    with_reducible refine HI2.out.mono ?_
    rintro _ w2 ⟨rfl, b2⟩
    have HH := Lib.hid (HX.out.below b2)
    have X2 := Lib.hid (bb hb b2)
    clear HX HI2 hb b2
    go_wp2_with fail
    go_loopw [12, 30] (fun vv iv wr => ∃ (j : Nat), j ≤ M ∧ iv = .int .i64 j ∧ Hid (OwnQ w2.heap.size wr vv (List.replicate j 0)) ∧ Below w2.heap.size w2 wr) (fun _ iv _ => M - mes iv)
    case atStart => exact ⟨0, by omega, rfl, Lib.hid ⟨[], OwnC.nil, rfl, fun j x hx => by simp at hx⟩, Below.refl _ _⟩
    case round =>
    obtain ⟨j2, hj, rfl, HX, hb⟩ := hrel
    obtain ⟨A_i, c_i, ev⟩ := HX.out.form
    rw [List.length_replicate] at ev
    subst ev
    by_cases hj2 : j2 < M
    · go_wp2_with fail
      with_reducible refine (R0 _).out.mono ?_
      rintro _ w5 ⟨s_t, A_t, n_t, c_t, D_t, m_t, d_t, rfl, q5, b5⟩
      have y5 : Below w2.heap.size w2 w5 := bb hb b5
      obtain ⟨vs, o1, o2, o3⟩ := HX.out.below b5
      have hvs : vs.length = j2 := by rw [o2, List.length_replicate]
      have hok2 := rqOf_ok (N := 1) (X := (0 : Rat)) q5 (by exact sz_zero 1 (by omega)) (by omega)
      have HO1 := Lib.hid o1
      have HO2 := Lib.hid o2
      have HO3 := Lib.hid o3
      have HVS := Lib.hid hvs
      have HOQ5 := Lib.hid hok2
      clear o1 o2 o3 hvs q5 hok2
      go_wp2_with (at_builtin; refine wpList_append_C _ rfl _ _ 23 rfl w2.heap.size 45 i0 _ 56 Tryz.underlying23 hi0 hz0 hz1 hz2 rfl (by decide) zeroQ _ vs rfl (HO1.out.below (below_alloc _ _)) ⟨w5.heap.size, 0, none⟩ 1 (rqOf s_t A_t n_t c_t D_t m_t d_t (0 : Rat)) rfl rfl ?c1 (rq_one _) (rq_noW _) ?c3 ?c4 ?c5 ?_)
      case c1 => exact news_new w5 _ _
      case c3 => have := HVS.out; unfold maxLen; omega
      case c4 => have := HVS.out; omega
      case c5 => have := y5.size; simp; omega
      intro v' w6 hown hgrow
      have hbn := (y5.alloc y5.size _).grown hgrow (by have := y5.size; simp; omega) (HO1.out.base)
      have HOQ := Lib.hid (OwnQ.append HO1.out HO2.out HO3.out HOQ5.out.1 HOQ5.out.2 hown hgrow)
      clear hown hgrow
      go_wp2_with fail
      go_roundw
      case rel => exact ⟨j2 + 1, by omega, by go_num, Lib.hid (by rw [rep_succ]; exact HOQ.out), hbn⟩
      case measure => simp [mes, intOf]; omega
    · obtain rfl : j2 = M := by omega
      clear hj hj2
      have HW3 := Lib.hid (show Rows2 w A_h j c_h A_i j2 c_i (seedTo outs Cs j 0) (List.replicate j2 0) wr from ⟨HH.out.below hb, HX.out.lower X2.out.size, fun g e1 e2 => by
        subst e1 e2
        have := HH.out.lt.1
        have := HX.out.lt.2.1
        omega, bb X2.out hb⟩)
      clear HX HH hb X2
      go_wp2_with fail
      go_loopw [39] (fun iv wr => ∃ k : Nat, k ≤ mo ∧ iv = .int .i64 k ∧ Hid (Rows2 w A_h j c_h A_i j2 c_i (seedTo outs Cs j k) (List.replicate j2 0) wr) ∧ Hid (∀ i, i < k → outB j (outs.getD i 0) = true)) (fun iv _ => mo - mes iv)
      case atStart => exact ⟨0, by omega, rfl, HW3, Lib.hid (fun i hi => by omega)⟩
      case round =>
      clear HW3
      obtain ⟨k, hk, rfl, HX, HG⟩ := hrel
      by_cases hk2 : k < mo
      · obtain ⟨b_o, o_o2, o, rfl, l_o, hox, _, k_o⟩ := HO.out.at_ hk2
        obtain ⟨b_c, o_c, s_c, A_c, n_c, c_c, D_c, m_c, d_c, rfl, l_c, k0_c, k1_c, k2_c, q_c⟩ := HC.out.at_ hk2
        have hoj : outs.getD k 0 = o := by rw [List.getD_eq_getElem?_getD, hox]; rfl
        have hbr := HX.out.b
        have k_o1 := (hbr.cell (p := ⟨b_o, o_o2 + k, none⟩) l_o).trans k_o
        have hk3 : (k : Int) < (mo : Int) := by omega
        by_cases hg1 : o < 0
        · have hRR := HNO.out k hk2 (by rw [hoj]; unfold outB; exact decide_eq_false (by omega))
          subst hRR
          have HBR := Lib.hid hbr
          clear hbr hox hoj q_c
          go_wp2_with fail
          go_ret3
          exact ⟨rfl, HBR.out⟩
        by_cases hg2 : (j : Int) ≤ o
        · have hRR := HNO.out k hk2 (by rw [hoj]; unfold outB; exact decide_eq_false (by omega))
          subst hRR
          have HBR := Lib.hid hbr
          clear hbr hox hoj q_c
          go_wp2_with fail
          go_ret3
          exact ⟨rfl, HBR.out⟩
        obtain ⟨oi, rfl⟩ : ∃ oi : Nat, o = (oi : Int) := ⟨o.toNat, by omega⟩
        have hoi : oi < j := by omega
        have hgood : outB j (outs.getD k 0) = true := by rw [hoj]; unfold outB; exact decide_eq_true (by omega)
        obtain ⟨ga, rfl⟩ := HX.out.h.made hoi
        obtain ⟨s_h, A_h, n_h, c_h2, D_h, m_h, d_h, k0_h, k1_h, k2_h, q_h, _⟩ := HX.out.h.at_ hoi
        have hfs := HSD.out k
        have hsx : seedTo outs Cs j (k + 1) = (seedTo outs Cs j k).set oi ((seedTo outs Cs j k).getD oi 0 + Cs.getD k 0) := by
          show addAt _ _ _ = _
          rw [hoj]; rfl
        have zC := getD_sz HZC.out (by omega) k
        have zH := getD_sz hfs.sz (by omega) oi
        have AD := ref_qaddT (N := 30000) ((q_h).below (Below.refl _ wr).drew) ((q_c.below hbr).below (Below.refl _ wr).drew) (zH.mono (by omega)) (zC.mono (by omega)) (by omega) (hfs.tz oi zC (by omega))
        have zs : Sz ((seedTo outs Cs j k).getD oi 0 + Cs.getD k 0) 100000 := (zH.add zC).mono (by omega)
        have hS : ∀ w', Below w.heap.size w w' → w'.cell? ⟨b_o, o_o2 + k, none⟩ = some (.int .i64 (oi : Int)) ∧ w'.cell? ⟨b_c, o_c + k * 3, none⟩ = some (.bool s_c) ∧ w'.cell? ⟨b_c, o_c + k * 3 + 1, none⟩ = some (.slice A_c n_c c_c) ∧ w'.cell? ⟨b_c, o_c + k * 3 + 2, none⟩ = some (.slice D_c m_c d_c) := fun w' hb9 => ⟨(hb9.cell (p := ⟨b_o, o_o2 + k, none⟩) l_o).trans k_o, (hb9.cell (p := ⟨b_c, o_c + k * 3, none⟩) l_c).trans k0_c, (hb9.cell (p := ⟨b_c, o_c + k * 3 + 1, none⟩) l_c).trans k1_c, (hb9.cell (p := ⟨b_c, o_c + k * 3 + 2, none⟩) l_c).trans k2_c⟩
        generalize (seedTo outs Cs j k).getD oi 0 + Cs.getD k 0 = SM at *
        have HAD := Lib.hid AD
        have HS := Lib.hid hS
        have HSX := Lib.hid hsx
        have HZS := Lib.hid zs
        have HBR := Lib.hid hbr
        have hoi3 : (oi : Int) < (j : Int) := by omega
        have hoi4 : (0 : Int) ≤ (oi : Int) := by omega
        have hgd : decide ((j : Int) ≤ (oi : Int)) = false := decide_eq_false (by omega)
        obtain ⟨_, a0, a1, a2⟩ := HS.out _ hbr
        have HGD := Lib.hid hgood
        clear AD hS hsx zs zC zH hfs hoj hox hgood q_c q_h hbr k_o k0_c k1_c k2_c hg1 hg2
        go_wp2_with fail
        refine wp_region_held_drew (S := fun w' => w'.cell? ⟨b_o, o_o2 + k, none⟩ = some (.int .i64 (oi : Int)) ∧ w'.cell? ⟨b_c, o_c + k * 3, none⟩ = some (.bool s_c) ∧ w'.cell? ⟨b_c, o_c + k * 3 + 1, none⟩ = some (.slice A_c n_c c_c) ∧ w'.cell? ⟨b_c, o_c + k * 3 + 2, none⟩ = some (.slice D_c m_c d_c)) (by kernel_rfl) (HS.out _ HBR.out.drew) (fun hHeld => ?_)
        refine wpAnyH_take (i := 0) (v := ?_) rfl (by kernel_rfl) (by kernel_rfl) (by kernel_rfl) (fun _ _ _ h => h) (Or.inl ⟨by kernel_rfl, ?_⟩) (by assumption) ?_
        rotate_left
        · intro w hSw
          (try dsimp only at hSw)
          go_simp
          (try with_reducible rfl)
        try simp only [Act.put, List.setIfInBounds_toArray, List.set_cons_zero, List.set_cons_succ, List.getElem_toArray, List.getElem_cons_zero, List.getElem_cons_succ]
        refine wpAnyH_take (i := 1) (v := ?_) rfl (by kernel_rfl) (by kernel_rfl) (by kernel_rfl) (fun _ _ _ h => h) (Or.inl ⟨by kernel_rfl, ?_⟩) (by assumption) ?_
        rotate_left
        · intro w hSw
          (try dsimp only at hSw)
          go_simp
          (try with_reducible rfl)
        try simp only [Act.put, List.setIfInBounds_toArray, List.set_cons_zero, List.set_cons_succ, List.getElem_toArray, List.getElem_cons_zero, List.getElem_cons_succ]
        refine wpAnyH_take (i := 2) (v := ?_) rfl (by kernel_rfl) (by kernel_rfl) (by kernel_rfl) (fun _ _ _ h => h) (Or.inl ⟨by kernel_rfl, ?_⟩) (by assumption) ?_
        rotate_left
        · intro w hSw
          (try dsimp only at hSw)
          go_simp
          (try with_reducible rfl)
        try simp only [Act.put, List.setIfInBounds_toArray, List.set_cons_zero, List.set_cons_succ, List.getElem_toArray, List.getElem_cons_zero, List.getElem_cons_succ]
        refine wpAnyH_take (i := 3) (v := ?_) rfl (by kernel_rfl) (by kernel_rfl) (by kernel_rfl) (fun _ _ _ h => h) (Or.inl ⟨by kernel_rfl, ?_⟩) (by assumption) ?_
        rotate_left
        · intro w hSw
          (try dsimp only at hSw)
          go_simp
          (try with_reducible rfl)
        try simp only [Act.put, List.setIfInBounds_toArray, List.set_cons_zero, List.set_cons_succ, List.getElem_toArray, List.getElem_cons_zero, List.getElem_cons_succ]
        refine wpAnyH_take (i := 4) (v := ?_) rfl (by kernel_rfl) (by kernel_rfl) (by kernel_rfl) (fun _ _ _ h => h) (Or.inl ⟨by kernel_rfl, ?_⟩) (by assumption) ?_
        rotate_left
        · intro w hSw
          (try dsimp only at hSw)
          go_simp
          (try with_reducible rfl)
        try simp only [Act.put, List.setIfInBounds_toArray, List.set_cons_zero, List.set_cons_succ, List.getElem_toArray, List.getElem_cons_zero, List.getElem_cons_succ]
        refine wpAnyH_take (i := 5) (v := ?_) rfl (by kernel_rfl) (by kernel_rfl) (by kernel_rfl) (fun _ _ _ h => h) (Or.inl ⟨by kernel_rfl, ?_⟩) (by assumption) ?_
        rotate_left
        · intro w hSw
          (try dsimp only at hSw)
          go_simp
          (try with_reducible rfl)
        try simp only [Act.put, List.setIfInBounds_toArray, List.set_cons_zero, List.set_cons_succ, List.getElem_toArray, List.getElem_cons_zero, List.getElem_cons_succ]
        refine wpAnyH_take (i := 6) (v := ?_) rfl (by kernel_rfl) (by kernel_rfl) (by kernel_rfl) (fun _ _ _ h => h) (Or.inl ⟨by kernel_rfl, ?_⟩) (by assumption) ?_
        rotate_left
        · intro w hSw
          (try dsimp only at hSw)
          go_simp
          (try with_reducible rfl)
        try simp only [Act.put, List.setIfInBounds_toArray, List.set_cons_zero, List.set_cons_succ, List.getElem_toArray, List.getElem_cons_zero, List.getElem_cons_succ]
        refine wpAnyH_take (i := 7) (v := ?_) rfl (by kernel_rfl) (by kernel_rfl) (by kernel_rfl) (fun _ _ _ h => h) (Or.inl ⟨by kernel_rfl, ?_⟩) (by assumption) ?_
        rotate_left
        · intro w hSw
          (try dsimp only at hSw)
          go_simp
          (try with_reducible rfl)
        try simp only [Act.put, List.setIfInBounds_toArray, List.set_cons_zero, List.set_cons_succ, List.getElem_toArray, List.getElem_cons_zero, List.getElem_cons_succ]
        refine wpAnyH_take (i := 8) (v := ?_) rfl (by kernel_rfl) (by kernel_rfl) (by kernel_rfl) (fun _ _ _ h => h) (Or.inl ⟨by kernel_rfl, ?_⟩) (by assumption) ?_
        rotate_left
        · intro w hSw
          (try dsimp only at hSw)
          go_simp
          (try with_reducible rfl)
        try simp only [Act.put, List.setIfInBounds_toArray, List.set_cons_zero, List.set_cons_succ, List.getElem_toArray, List.getElem_cons_zero, List.getElem_cons_succ]
        refine wpAnyH_take (i := 9) (v := ?_) rfl (by kernel_rfl) (by kernel_rfl) (by kernel_rfl) (fun _ _ _ h => h) (Or.inl ⟨by kernel_rfl, ?_⟩) (by assumption) ?_
        rotate_left
        · intro w hSw
          (try dsimp only at hSw)
          go_simp
          (try with_reducible rfl)
        try simp only [Act.put, List.setIfInBounds_toArray, List.set_cons_zero, List.set_cons_succ, List.getElem_toArray, List.getElem_cons_zero, List.getElem_cons_succ]
        refine wpAnyH_take (i := 10) (v := ?_) rfl (by kernel_rfl) (by kernel_rfl) (by kernel_rfl) (fun _ _ _ h => h) (Or.inl ⟨by kernel_rfl, ?_⟩) (by assumption) ?_
        rotate_left
        · intro w hSw
          (try dsimp only at hSw)
          go_simp
          (try with_reducible rfl)
        try simp only [Act.put, List.setIfInBounds_toArray, List.set_cons_zero, List.set_cons_succ, List.getElem_toArray, List.getElem_cons_zero, List.getElem_cons_succ]
        refine wpAnyH_take (i := 12) (v := ?_) rfl (by kernel_rfl) (by kernel_rfl) (by kernel_rfl) (fun _ _ _ h => h) (Or.inl ⟨by kernel_rfl, ?_⟩) (by assumption) ?_
        rotate_left
        · intro w hSw
          (try dsimp only at hSw)
          go_simp
          (try with_reducible rfl)
        try simp only [Act.put, List.setIfInBounds_toArray, List.set_cons_zero, List.set_cons_succ, List.getElem_toArray, List.getElem_cons_zero, List.getElem_cons_succ]
        refine wpAnyH_take (i := 13) (v := ?_) rfl (by kernel_rfl) (by kernel_rfl) (by kernel_rfl) (fun _ _ _ h => h) (Or.inl ⟨by kernel_rfl, ?_⟩) (by assumption) ?_
        rotate_left
        · intro w hSw
          (try dsimp only at hSw)
          go_simp
          (try with_reducible rfl)
        try simp only [Act.put, List.setIfInBounds_toArray, List.set_cons_zero, List.set_cons_succ, List.getElem_toArray, List.getElem_cons_zero, List.getElem_cons_succ]
        refine wpAnyH_take (i := 14) (v := ?_) rfl (by kernel_rfl) (by kernel_rfl) (by kernel_rfl) (fun _ _ _ h => h) (Or.inl ⟨by kernel_rfl, ?_⟩) (by assumption) ?_
        rotate_left
        · intro w hSw
          (try dsimp only at hSw)
          go_simp
          (try with_reducible rfl)
        try simp only [Act.put, List.setIfInBounds_toArray, List.set_cons_zero, List.set_cons_succ, List.getElem_toArray, List.getElem_cons_zero, List.getElem_cons_succ]
        refine wpAnyH_take (i := 15) (v := ?_) rfl (by kernel_rfl) (by kernel_rfl) (by kernel_rfl) (fun _ _ _ h => h) (Or.inl ⟨by kernel_rfl, ?_⟩) (by assumption) ?_
        rotate_left
        · intro w hSw
          (try dsimp only at hSw)
          go_simp
          (try with_reducible rfl)
        try simp only [Act.put, List.setIfInBounds_toArray, List.set_cons_zero, List.set_cons_succ, List.getElem_toArray, List.getElem_cons_zero, List.getElem_cons_succ]
        refine wpAnyH_ready (rs := [11]) (by kernel_rfl) (by simp) ?_
        refine AllReadyH.cons rfl (fun K hK => ?_) AllReadyH.nil
        go_simp
        (try go_wp2_with fail)
        refine hK.out _ _ (HS.out _ HBR.out.drew) (fun hHeld => ?_)
        clear hK K
        try simp only [Act.put, List.setIfInBounds_toArray, List.set_cons_zero, List.set_cons_succ, List.getElem_toArray, List.getElem_cons_zero, List.getElem_cons_succ]
        refine wpAnyH_ready (rs := [16]) (by kernel_rfl) (by simp) ?_
        refine AllReadyH.cons rfl (fun K hK => ?_) AllReadyH.nil
        go_simp
        with_reducible refine HAD.out.mono ?_
        rintro _ w9 ⟨s9, A9, n9, c9, D9, m9, d9, rfl, q9, b9⟩
        have x9 : Below wr.heap.size wr w9 := Below.undrew b9
        have R9 := HX.out.below x9
        obtain ⟨_, _, _, _, _, _, _, _, _, _, _, f0, f1, f2⟩ := R9.h.at_ hoi
        have R10 := R9.puth hoi q9 HZS.out (by omega)
        have HR10 := Lib.hid R10
        have HR9 := Lib.hid R9
        clear R9 R10
        (try go_wp2_with fail)
        refine hK.out _ _ (HS.out _ HR9.out.b) (fun hHeld => ?_)
        clear hK K
        try simp only [Act.put, List.setIfInBounds_toArray, List.set_cons_zero, List.set_cons_succ, List.getElem_toArray, List.getElem_cons_zero, List.getElem_cons_succ]
        refine wpAnyH_take (i := 17) (v := ?_) rfl (by kernel_rfl) (by kernel_rfl) (by kernel_rfl) (fun _ _ _ h => h) (Or.inl ⟨by kernel_rfl, ?_⟩) (by assumption) ?_
        rotate_left
        · intro w hSw
          (try dsimp only at hSw)
          go_simp
          (try with_reducible rfl)
        try simp only [Act.put, List.setIfInBounds_toArray, List.set_cons_zero, List.set_cons_succ, List.getElem_toArray, List.getElem_cons_zero, List.getElem_cons_succ]
        refine wpAnyH_ready (rs := [18]) (by kernel_rfl) (by simp) ?_
        refine AllReadyH.cons rfl (fun K hK => ?_) AllReadyH.nil
        go_simp
        (try go_wp2_with fail)
        refine hK.out _ _ (HS.out _ HR10.out.b) (fun hHeld => ?_)
        clear hK K
        try simp only [Act.put, List.setIfInBounds_toArray, List.set_cons_zero, List.set_cons_succ, List.getElem_toArray, List.getElem_cons_zero, List.getElem_cons_succ]
        refine wpAnyH_done (by kernel_rfl) ?_ _
        obtain ⟨W9, hW9⟩ : ∃ W, put3o w9 ga (oi * 3) (.bool s9) (.slice A9 n9 c9) (.slice D9 m9 d9) = W := ⟨_, rfl⟩
        simp only [hW9] at HR10
        unfold put3o at hW9
        go_wp2_with fail
        (try rw [hW9])
        go_roundw
        case rel => exact ⟨k + 1, by omega, by go_num, Lib.hid (by rw [HSX.out]; exact HR10.out), Lib.hid (fun i hi => by rcases Nat.lt_or_eq_of_le (Nat.le_of_lt_succ hi) with h9 | rfl; exact HG.out i h9; exact HGD.out)⟩
        case measure => simp [mes, intOf]; omega
      · obtain rfl : k = mo := by omega
        obtain ⟨GR, hGR⟩ : ∃ GR, GR = giveTo v (xs.map RI.pi) j (seedTo outs Cs j k, List.replicate j2 0) := ⟨_, rfl⟩
        have HE := Lib.hid (fun e (he : GR = .error e) => HERR.out HG.out e (hGR ▸ he))
        have HK := Lib.hid (fun s (he : GR = .ok s) => HOK.out HG.out s (hGR ▸ he))
        have HF0 := Lib.hid (show Fine j (610 + 516 * (j - j)) (seedTo outs Cs j k) ∧ Fine j2 (1 + 258 * (j - j)) (List.replicate j2 0) from ⟨(HSD.out k).mono (by omega), Fine.zeros _ _ (by omega)⟩)
        have HGR := Lib.hid hGR
        clear hGR HERR HOK HNO HG HIN hk hk2 HSD HC HZC HO
        go_wp2_with fail
        go_loopw [14] (fun iv wr => ∃ (k4 : Nat) (jj : Int) (has ins : List Rat), k4 ≤ j ∧ jj + 1 ≤ k4 ∧ (k4 : Int) ≤ jj + 1 ∧ iv = .int .i64 jj ∧ Hid (Rows2 w A_h j c_h A_i j2 c_i has ins wr) ∧ Hid (GR = giveTo v (xs.map RI.pi) k4 (has, ins)) ∧ Hid (Fine j (610 + 516 * (j - k4)) has ∧ Fine j2 (1 + 258 * (j - k4)) ins)) (fun iv _ => (intOf iv + 1).toNat)
        case atStart => exact ⟨j, (j : Int) - 1, _, _, Nat.le_refl _, by omega, by omega, by go_num, HX, HGR, HF0⟩
        case round =>
        clear HX HGR HF0
        obtain ⟨k4, jj, has, ins, hk4, hj1, hj3, rfl, HX, HGR, HF⟩ := hrel
        by_cases hk0 : k4 = 0
        · subst hk0
          obtain rfl : jj = -1 := by omega
          have hRR := HK.out _ HGR.out
          subst hRR
          go_wp2_with fail
          go_ret3
          exact ⟨⟨_, _, _, rfl, HX.out.i.slq⟩, HX.out.b⟩
        obtain ⟨i, rfl⟩ : ∃ i, k4 = i + 1 := ⟨k4 - 1, by omega⟩
        obtain rfl : jj = (i : Int) := by omega
        clear hk0 hj1 hj3
        have hi : i < j := by omega
        obtain ⟨b0, off, x, rfl, hlt, hxk, hok, c0, c1, c2, c3, c4, c5⟩ := HL.out.at_ hi
        have hp := pi_at hxk
        have hfit : fits vq nq x.pi i := by rw [← hp]; exact HPR.out.1 i (by rw [HLEN.out]; exact hi)
        have hin2 : x.op = 1 → x.a.toNat < j2 := fun h1 => by have := HPIN.out i hi; rw [hp] at this; exact this h1
        obtain ⟨ga, rfl⟩ := HX.out.h.made hi
        obtain ⟨s_g, A_g, n_g, c_g, D_g, m_g, d_g, k0_g, k1_g, k2_g, q_g, _⟩ := HX.out.h.at_ hi
        obtain ⟨G, hG⟩ : ∃ G, has.getD i 0 = G := ⟨_, rfl⟩
        have zG0 := getD_sz HF.out.1.sz (by omega) i
        rw [hG] at q_g zG0
        have hbig5 : 4096 < bitsQ G → R = .error (i, 5) := fun hb => HE.out _ (giveTo_stop HGR.out (by rw [hp]; exact giveSt_big (by rw [hG]; exact hb)))
        have hinp : x.op = 1 → ¬ 4096 < bitsQ G → GR = giveTo v (xs.map RI.pi) i (has, addAt ins x.a.toNat G) := fun h1 hb => giveTo_next HGR.out (by rw [hp]; have := giveSt_in (v := v) (i := i) (s := (has, ins)) (x := x.pi) h1 (by rw [hG]; exact hb); rw [hG] at this; exact this)
        have hval : ¬ x.op = 1 → ¬ 4096 < bitsQ G → giveSt v i x.pi (has, ins) = match giveV x.pi G (v.getD i 0) v has with | .error e => .error e | .ok us => .ok (us, ins) := fun h1 hb => by have := giveSt_no (v := v) (i := i) (s := (has, ins)) (x := x.pi) h1 (by rw [hG]; exact hb); rw [hG] at this; exact this
        have hvE : ¬ x.op = 1 → ¬ 4096 < bitsQ G → ∀ e, giveV x.pi G (v.getD i 0) v has = .error e → R = .error (i, e) := fun h1 hb e he => HE.out _ (giveTo_stop HGR.out (by rw [hp, hval h1 hb, he]))
        have hvK : ¬ x.op = 1 → ¬ 4096 < bitsQ G → ∀ us, giveV x.pi G (v.getD i 0) v has = .ok us → GR = giveTo v (xs.map RI.pi) i (us, ins) := fun h1 hb us he => giveTo_next HGR.out (by rw [hp, hval h1 hb, he])
        clear hval hp hxk
        have zy : Sz (v.getD i 0) 64 := getD_sz HZV.out (by omega) i
        have hbr := HX.out.b
        obtain ⟨op, a, b, q⟩ := x
        simp only at c0 c1 c2 c3 c4 c5 hin2 hbig5 hinp hvE hvK hfit
        have hfit2 : fits vq nq ⟨op, a, b, (q.s, q.z, q.z')⟩ i := hfit
        have AR := fun (w1 : World) => Lib.hid (ref_arity op w1)
        have e0 := (hbr.cell (p := ⟨b0, off + i * 6, none⟩) hlt).trans c0
        have e1 := (hbr.cell (p := ⟨b0, off + i * 6 + 1, none⟩) hlt).trans c1
        have e2 := (hbr.cell (p := ⟨b0, off + i * 6 + 2, none⟩) hlt).trans c2
        have e3 := (hbr.cell (p := ⟨b0, off + i * 6 + 3, none⟩) hlt).trans c3
        have e4 := (hbr.cell (p := ⟨b0, off + i * 6 + 4, none⟩) hlt).trans c4
        have e5 := (hbr.cell (p := ⟨b0, off + i * 6 + 5, none⟩) hlt).trans c5
        have hi3 : (i : Int) < (j : Int) := by omega
        have hi4 : (0 : Int) ≤ (i : Int) := by omega
        have hi5 : i ≤ 60 := by omega
        obtain ⟨V, hW, Bx, hb1⟩ := box0 52 wr #[.int .i64 op, .int .i64 a, .int .i64 b, .bool q.s, .slice q.A q.n q.c, .slice q.A' q.n' q.c']
        have HW := Lib.hid hW
        have HBx := Lib.hid Bx
        have PB := ref_pbits (q_g.below hb1) zG0 (by omega)
        have HRV := Lib.hid (HX.out.below hb1)
        have HB1 := Lib.hid hb1
        have hszV : V.heap.size = wr.heap.size + 1 := by rw [← hW]; simp
        have HSV := Lib.hid hszV
        clear hW Bx hok hfit q_g c0 c1 c2 c3 c4 c5 zG0 hszV
        go_upto_region 21 with (fail)
        rw [HW.out]
        obtain ⟨k0, k1, k2, k3, k4, k5⟩ := HBx.out.six.1
        have g0 := (HB1.out.cell (p := ⟨ga, i * 3, none⟩) HX.out.h.lt.1).trans k0_g
        have g1 := (HB1.out.cell (p := ⟨ga, i * 3 + 1, none⟩) HX.out.h.lt.1).trans k1_g
        have g2 := (HB1.out.cell (p := ⟨ga, i * 3 + 2, none⟩) HX.out.h.lt.1).trans k2_g
        clear e0 e1 e2 e3 e4 e5 HW
        by_cases hbig : 4096 < bitsQ G
        · have hRR := hbig5 hbig
          subst hRR
          unfold bitsQ at hbig
          generalize max (blen G.num.natAbs : Int) (blen G.den) = tt at *
          have HPB := Lib.hid PB
          clear PB hbig5 hinp hvE hvK
          go_wp2_with fail
          with_reducible refine HPB.out.mono ?_
          rintro _ w5 ⟨rfl, b5⟩
          go_wp2_with fail
          go_ret3
          exact ⟨rfl, bb HRV.out.b b5⟩
        have zG : Sz G 64 := sz_of_bits hbig
        have HIE := Lib.hid (fun h1 => hinp h1 hbig)
        have HVE := Lib.hid (fun h1 => hvE h1 hbig)
        have HVK := Lib.hid (fun h1 => hvK h1 hbig)
        unfold bitsQ at hbig
        generalize max (blen G.num.natAbs : Int) (blen G.den) = tt at *
        have HPB := Lib.hid PB
        clear PB hbig5 hinp hvE hvK
        go_wp2_with fail
        with_reducible refine HPB.out.mono ?_
        rintro _ w2 ⟨rfl, b2⟩
        have HR2 := Lib.hid (HRV.out.below b2)
        have HB2 := Lib.hid b2
        obtain ⟨k0, k1, k2, k3, k4, k5⟩ := (HBx.out.below' b2).six.1
        obtain ⟨s_g2, A_g2, n_g2, c_g2, D_g2, m_g2, d_g2, k0_g2, k1_g2, k2_g2, q_g2, _⟩ := HR2.out.h.at_ hi
        rw [hG] at q_g2
        have HQG := Lib.hid q_g2
        clear g0 g1 g2 k0_g k1_g k2_g HPB q_g2 hbr
        by_cases h1 : op = 1
        · subst h1
          obtain ⟨f1, f2⟩ := fit_in hfit2
          have f3 := hin2 rfl
          obtain ⟨ai, rfl⟩ : ∃ i : Nat, a = (i : Int) := ⟨a.toNat, by omega⟩
          have hai : ai < j2 := by omega
          have hIE := HIE.out rfl
          rw [show ((ai : Int)).toNat = ai by omega] at hIE
          have HIE2 := Lib.hid hIE
          obtain ⟨gi, rfl⟩ := HX.out.i.made hai
          have zI := getD_sz HF.out.2.sz (by omega) ai
          obtain ⟨s_i, A_i, n_i, c_i2, D_i, m_i, d_i, k0_i, k1_i, k2_i, q_i, _⟩ := HR2.out.i.at_ hai
          have AD := ref_qaddT (N := 30000) (q_i.below (Below.refl _ w2).drew) (HQG.out.below (Below.refl _ w2).drew) (zI.mono (by omega)) (zG.mono (by omega)) (by omega) (HF.out.2.tz ai zG (by omega))
          have HFN := Lib.hid (HF.out.2.add (i := ai) (by omega) zG (by omega))
          have zs : Sz (ins.getD ai 0 + G) 100000 := (zI.add zG).mono (by omega)
          have hne : ga ≠ gi := fun e => HX.out.ne ga rfl (by rw [e])
          have hl1 := HX.out.h.lt.1
          have hl2 := HX.out.i.lt.1
          have hS : ∀ w', Below w2.heap.size w2 w' → w'.cell? ⟨wr.heap.size, 1, none⟩ = some (.int .i64 (ai : Int)) ∧ w'.cell? ⟨ga, i * 3, none⟩ = some (.bool s_g2) ∧ w'.cell? ⟨ga, i * 3 + 1, none⟩ = some (.slice A_g2 n_g2 c_g2) ∧ w'.cell? ⟨ga, i * 3 + 2, none⟩ = some (.slice D_g2 m_g2 d_g2) := fun w' hb9 => ⟨(HBx.out.below' (bb HB2.out hb9)).six.1.2.1, (hb9.cell (p := ⟨ga, i * 3, none⟩) HR2.out.h.lt.1).trans k0_g2, (hb9.cell (p := ⟨ga, i * 3 + 1, none⟩) HR2.out.h.lt.1).trans k1_g2, (hb9.cell (p := ⟨ga, i * 3 + 2, none⟩) HR2.out.h.lt.1).trans k2_g2⟩
          have hP : ∀ (w' : World) (z0 z1 z2 : Value), Below w2.heap.size w2 w' → (fun w' : World => w'.cell? ⟨wr.heap.size, 1, none⟩ = some (.int .i64 (ai : Int)) ∧ w'.cell? ⟨ga, i * 3, none⟩ = some (.bool s_g2) ∧ w'.cell? ⟨ga, i * 3 + 1, none⟩ = some (.slice A_g2 n_g2 c_g2) ∧ w'.cell? ⟨ga, i * 3 + 2, none⟩ = some (.slice D_g2 m_g2 d_g2)) (put3o w' gi (ai * 3) z0 z1 z2) := fun w' z0 z1 z2 hb9 => by
            have h9 := hS w' hb9
            have z9 := hb9.size
            have z8 := HB2.out.size
            have z7 := HSV.out
            exact ⟨(cell_put3o (by omega) (by omega)).trans h9.1, (cell_put3o hne (by omega)).trans h9.2.1, (cell_put3o hne (by omega)).trans h9.2.2.1, (cell_put3o hne (by omega)).trans h9.2.2.2⟩
          have hsx : addAt ins ai G = ins.set ai (ins.getD ai 0 + G) := rfl
          generalize ins.getD ai 0 + G = SM at *
          have HAD := Lib.hid AD
          have HS := Lib.hid hS
          have HP := Lib.hid hP
          have HSX := Lib.hid hsx
          have HZS := Lib.hid zs
          have hai3 : (ai : Int) < (j2 : Int) := by omega
          have hai4 : (0 : Int) ≤ (ai : Int) := by omega
          simp only [show arity 1 = 0 from by decide] at AR
          clear AD hS hP hsx zs zI q_i hne hl1 hl2 hIE HIE f1 f2 f3 hin2 HVE HVK
          go_wp2_with fail
          refine wp_region_held_drew (S := fun w' => w'.cell? ⟨wr.heap.size, 1, none⟩ = some (.int .i64 (ai : Int)) ∧ w'.cell? ⟨ga, i * 3, none⟩ = some (.bool s_g2) ∧ w'.cell? ⟨ga, i * 3 + 1, none⟩ = some (.slice A_g2 n_g2 c_g2) ∧ w'.cell? ⟨ga, i * 3 + 2, none⟩ = some (.slice D_g2 m_g2 d_g2)) (by kernel_rfl) (HS.out _ (Below.refl _ w2).drew) (fun hHeld => ?_)
          refine wpAnyH_take (i := 0) (v := ?_) rfl (by kernel_rfl) (by kernel_rfl) (by kernel_rfl) (fun _ _ _ h => h) (Or.inl ⟨by kernel_rfl, ?_⟩) (by assumption) ?_
          rotate_left
          · intro w hSw
            (try dsimp only at hSw)
            go_simp
            (try with_reducible rfl)
          try simp only [Act.put, List.setIfInBounds_toArray, List.set_cons_zero, List.set_cons_succ, List.getElem_toArray, List.getElem_cons_zero, List.getElem_cons_succ]
          refine wpAnyH_take (i := 1) (v := ?_) rfl (by kernel_rfl) (by kernel_rfl) (by kernel_rfl) (fun _ _ _ h => h) (Or.inl ⟨by kernel_rfl, ?_⟩) (by assumption) ?_
          rotate_left
          · intro w hSw
            (try dsimp only at hSw)
            go_simp
            (try with_reducible rfl)
          try simp only [Act.put, List.setIfInBounds_toArray, List.set_cons_zero, List.set_cons_succ, List.getElem_toArray, List.getElem_cons_zero, List.getElem_cons_succ]
          refine wpAnyH_take (i := 2) (v := ?_) rfl (by kernel_rfl) (by kernel_rfl) (by kernel_rfl) (fun _ _ _ h => h) (Or.inl ⟨by kernel_rfl, ?_⟩) (by assumption) ?_
          rotate_left
          · intro w hSw
            (try dsimp only at hSw)
            go_simp
            (try with_reducible rfl)
          try simp only [Act.put, List.setIfInBounds_toArray, List.set_cons_zero, List.set_cons_succ, List.getElem_toArray, List.getElem_cons_zero, List.getElem_cons_succ]
          refine wpAnyH_take (i := 3) (v := ?_) rfl (by kernel_rfl) (by kernel_rfl) (by kernel_rfl) (fun _ _ _ h => h) (Or.inl ⟨by kernel_rfl, ?_⟩) (by assumption) ?_
          rotate_left
          · intro w hSw
            (try dsimp only at hSw)
            go_simp
            (try with_reducible rfl)
          try simp only [Act.put, List.setIfInBounds_toArray, List.set_cons_zero, List.set_cons_succ, List.getElem_toArray, List.getElem_cons_zero, List.getElem_cons_succ]
          refine wpAnyH_take (i := 4) (v := ?_) rfl (by kernel_rfl) (by kernel_rfl) (by kernel_rfl) (fun _ _ _ h => h) (Or.inl ⟨by kernel_rfl, ?_⟩) (by assumption) ?_
          rotate_left
          · intro w hSw
            (try dsimp only at hSw)
            go_simp
            (try with_reducible rfl)
          try simp only [Act.put, List.setIfInBounds_toArray, List.set_cons_zero, List.set_cons_succ, List.getElem_toArray, List.getElem_cons_zero, List.getElem_cons_succ]
          refine wpAnyH_take (i := 5) (v := ?_) rfl (by kernel_rfl) (by kernel_rfl) (by kernel_rfl) (fun _ _ _ h => h) (Or.inl ⟨by kernel_rfl, ?_⟩) (by assumption) ?_
          rotate_left
          · intro w hSw
            (try dsimp only at hSw)
            go_simp
            (try with_reducible rfl)
          try simp only [Act.put, List.setIfInBounds_toArray, List.set_cons_zero, List.set_cons_succ, List.getElem_toArray, List.getElem_cons_zero, List.getElem_cons_succ]
          refine wpAnyH_take (i := 6) (v := ?_) rfl (by kernel_rfl) (by kernel_rfl) (by kernel_rfl) (fun _ _ _ h => h) (Or.inl ⟨by kernel_rfl, ?_⟩) (by assumption) ?_
          rotate_left
          · intro w hSw
            (try dsimp only at hSw)
            go_simp
            (try with_reducible rfl)
          try simp only [Act.put, List.setIfInBounds_toArray, List.set_cons_zero, List.set_cons_succ, List.getElem_toArray, List.getElem_cons_zero, List.getElem_cons_succ]
          refine wpAnyH_take (i := 8) (v := ?_) rfl (by kernel_rfl) (by kernel_rfl) (by kernel_rfl) (fun _ _ _ h => h) (Or.inl ⟨by kernel_rfl, ?_⟩) (by assumption) ?_
          rotate_left
          · intro w hSw
            (try dsimp only at hSw)
            go_simp
            (try with_reducible rfl)
          try simp only [Act.put, List.setIfInBounds_toArray, List.set_cons_zero, List.set_cons_succ, List.getElem_toArray, List.getElem_cons_zero, List.getElem_cons_succ]
          refine wpAnyH_take (i := 9) (v := ?_) rfl (by kernel_rfl) (by kernel_rfl) (by kernel_rfl) (fun _ _ _ h => h) (Or.inl ⟨by kernel_rfl, ?_⟩) (by assumption) ?_
          rotate_left
          · intro w hSw
            (try dsimp only at hSw)
            go_simp
            (try with_reducible rfl)
          try simp only [Act.put, List.setIfInBounds_toArray, List.set_cons_zero, List.set_cons_succ, List.getElem_toArray, List.getElem_cons_zero, List.getElem_cons_succ]
          refine wpAnyH_take (i := 10) (v := ?_) rfl (by kernel_rfl) (by kernel_rfl) (by kernel_rfl) (fun _ _ _ h => h) (Or.inl ⟨by kernel_rfl, ?_⟩) (by assumption) ?_
          rotate_left
          · intro w hSw
            (try dsimp only at hSw)
            go_simp
            (try with_reducible rfl)
          try simp only [Act.put, List.setIfInBounds_toArray, List.set_cons_zero, List.set_cons_succ, List.getElem_toArray, List.getElem_cons_zero, List.getElem_cons_succ]
          refine wpAnyH_take (i := 11) (v := ?_) rfl (by kernel_rfl) (by kernel_rfl) (by kernel_rfl) (fun _ _ _ h => h) (Or.inl ⟨by kernel_rfl, ?_⟩) (by assumption) ?_
          rotate_left
          · intro w hSw
            (try dsimp only at hSw)
            go_simp
            (try with_reducible rfl)
          try simp only [Act.put, List.setIfInBounds_toArray, List.set_cons_zero, List.set_cons_succ, List.getElem_toArray, List.getElem_cons_zero, List.getElem_cons_succ]
          refine wpAnyH_ready (rs := [7]) (by kernel_rfl) (by simp) ?_
          refine AllReadyH.cons rfl (fun K hK => ?_) AllReadyH.nil
          go_simp
          (try go_wp2_with fail)
          refine hK.out _ _ (HS.out _ (Below.refl _ w2).drew) (fun hHeld => ?_)
          clear hK K
          try simp only [Act.put, List.setIfInBounds_toArray, List.set_cons_zero, List.set_cons_succ, List.getElem_toArray, List.getElem_cons_zero, List.getElem_cons_succ]
          refine wpAnyH_ready (rs := [12]) (by kernel_rfl) (by simp) ?_
          refine AllReadyH.cons rfl (fun K hK => ?_) AllReadyH.nil
          go_simp
          with_reducible refine HAD.out.mono ?_
          rintro _ w9 ⟨s9, A9, n9, c9, D9, m9, d9, rfl, q9, b9⟩
          have x9 : Below w2.heap.size w2 w9 := Below.undrew b9
          have R9 := HR2.out.below x9
          obtain ⟨_, _, _, _, _, _, _, _, _, _, _, f0, f1, f2⟩ := R9.i.at_ hai
          have R10 := R9.puti hai q9 HZS.out (by omega)
          have HR10 := Lib.hid R10
          have HB9 := Lib.hid ((HBx.out.below' (bb HB2.out x9)).setO (g' := gi) (by have := HX.out.i.lt.1; omega))
          clear R9 R10
          (try go_wp2_with fail)
          refine hK.out _ _ (HS.out _ x9) (fun hHeld => ?_)
          clear hK K
          try simp only [Act.put, List.setIfInBounds_toArray, List.set_cons_zero, List.set_cons_succ, List.getElem_toArray, List.getElem_cons_zero, List.getElem_cons_succ]
          refine wpAnyH_take (i := 13) (v := ?_) rfl (by kernel_rfl) (by kernel_rfl) (by kernel_rfl) (fun _ _ _ h => h) (Or.inl ⟨by kernel_rfl, ?_⟩) (by assumption) ?_
          rotate_left
          · intro w hSw
            (try dsimp only at hSw)
            go_simp
            (try with_reducible rfl)
          try simp only [Act.put, List.setIfInBounds_toArray, List.set_cons_zero, List.set_cons_succ, List.getElem_toArray, List.getElem_cons_zero, List.getElem_cons_succ]
          refine wpAnyH_ready (rs := [14]) (by kernel_rfl) (by simp) ?_
          refine AllReadyH.cons rfl (fun K hK => ?_) AllReadyH.nil
          go_simp
          (try go_wp2_with fail)
          refine hK.out _ _ (HP.out _ _ _ _ x9) (fun hHeld => ?_)
          clear hK K
          try simp only [Act.put, List.setIfInBounds_toArray, List.set_cons_zero, List.set_cons_succ, List.getElem_toArray, List.getElem_cons_zero, List.getElem_cons_succ]
          refine wpAnyH_done (by kernel_rfl) ?_ _
          obtain ⟨W9, hW9⟩ : ∃ W, put3o w9 gi (ai * 3) (.bool s9) (.slice A9 n9 c9) (.slice D9 m9 d9) = W := ⟨_, rfl⟩
          have kk0 := (keep_cell (b := wr.heap.size) (i := 0) (keep_put3o w9 gi (ai * 3) (.bool s9) (.slice A9 n9 c9) (.slice D9 m9 d9)) (by have := x9.size; have := HB2.out.size; have := HSV.out; omega) (by have := HX.out.i.lt.1; omega)).trans ((HBx.out.below' (bb HB2.out x9)).six.1.1)
          simp only [hW9] at HR10 kk0
          unfold put3o at hW9
          go_upto_region 25 with (fail)
          (try rw [hW9])
          go_wp2_with fail
          with_reducible refine (AR _).out.mono ?_
          rintro _ _ ⟨rfl, rfl⟩
          go_wp2_with fail
          go_roundw
          case rel => exact ⟨i, (i : Int) - 1, has, addAt ins ai G, by omega, by omega, by omega, by go_num, Lib.hid (by rw [HSX.out]; exact HR10.out), HIE2, Lib.hid ⟨HF.out.1.mono (by omega), HFN.out.mono (by omega)⟩⟩
          case measure => (simp [intOf] <;> omega)
        by_cases h2 : op = 2
        · subst h2
          have hVK := HVK.out (by omega) _ (giveV_2 (a := a) (b := b) (q := (q.s, q.z, q.z')))
          have HVK2 := Lib.hid hVK
          simp only [show arity 2 = 0 from by decide] at AR
          clear HVE HVK HIE hin2 hVK
          go_wp2_with fail
          with_reducible refine (AR _).out.mono ?_
          rintro _ _ ⟨rfl, rfl⟩
          go_wp2_with fail
          go_roundw
          case rel => exact ⟨i, (i : Int) - 1, has, ins, by omega, by omega, by omega, by go_num, HR2, HVK2, Lib.hid ⟨HF.out.1.mono (by omega), HF.out.2.mono (by omega)⟩⟩
          case measure => (simp [intOf] <;> omega)
        have hr2 := ar_op h2 h1
        have ee1 : (op == 1) = false := by simpa using h1
        have hab : 0 < arity op ∧ (0 ≤ a ∧ a < i) ∧ (0 ≤ b ∧ b < i) ∧ (arity op = 1 ∨ arity op = 2) := by
          rcases hr2 with h9 | h9 | h9
          · have hf := fit_one h2 h1 h9 hfit2
            have hb0' : b = 0 := by
              unfold fits at hfit2
              simp only at hfit2
              rw [if_neg h2, if_neg h1, if_pos h9] at hfit2
              exact hfit2.2.2.2
            omega
          · have hf := fit_two h2 h1 h9 hfit2
            omega
          · exact (fit_no h2 h1 h9 hfit2).elim
        obtain ⟨hA, ha, hb', har12⟩ := hab
        have HA12 := Lib.hid har12
        obtain ⟨ia, rfl⟩ : ∃ i : Nat, a = (i : Int) := ⟨a.toNat, by omega⟩
        obtain ⟨ib, rfl⟩ : ∃ i : Nat, b = (i : Int) := ⟨b.toNat, by omega⟩
        have ia1 : ia < i := by omega
        have ib1 : ib < i := by omega
        have ia2 : ia < j := by omega
        have ib2 : ib < j := by omega
        have ia3 : (ia : Int) < (j : Int) := by omega
        have ib3 : (ib : Int) < (j : Int) := by omega
        obtain ⟨g_y, o_y, s_y, A_y, n_y, c_y, D_y, m_y, d_y, rfl, l_y, k0_y, k1_y, k2_y, q_y⟩ := HV.out.at_ hi
        obtain ⟨g_va, o_va, s_va, A_va, n_va, c_va, D_va, m_va, d_va, e_va, l_va, k0_va, k1_va, k2_va, q_va⟩ := HV.out.at_ ia2
        obtain ⟨g_vb, o_vb, s_vb, A_vb, n_vb, c_vb, D_vb, m_vb, d_vb, e_vb, l_vb, k0_vb, k1_vb, k2_vb, q_vb⟩ := HV.out.at_ ib2
        injection e_va with e_va
        injection e_va with e3 e4
        subst e3 e4
        injection e_vb with e_vb
        injection e_vb with e3 e4
        subst e3 e4
        clear l_va l_vb
        have bw2 : Below w.heap.size w w2 := HR2.out.b
        have GV := fun (w1 : World) (hb9 : Below w2.heap.size w2 w1) => (gv_value (op := op) (a := (ia : Int)) (b := (ib : Int)) (q := q) (v := v) (Y := v.getD i 0) ((q_y.below bw2).below hb9) zy ((q_va.below bw2).below hb9) ((q_vb.below bw2).below hb9) (HQG.out.below hb9) zG HZV.out hA).mono (fun e w' h9 => RetGive.any h9)
        have hS : ∀ w', Below w2.heap.size w2 w' → w'.cell? ⟨wr.heap.size, 0, none⟩ = some (.int .i64 op) ∧ w'.cell? ⟨wr.heap.size, 1, none⟩ = some (.int .i64 (ia : Int)) ∧ w'.cell? ⟨wr.heap.size, 2, none⟩ = some (.int .i64 (ib : Int)) ∧ w'.cell? ⟨wr.heap.size, 3, none⟩ = some (.bool q.s) ∧ w'.cell? ⟨wr.heap.size, 4, none⟩ = some (.slice q.A q.n q.c) ∧ w'.cell? ⟨wr.heap.size, 5, none⟩ = some (.slice q.A' q.n' q.c') ∧ w'.cell? ⟨g_y, o_y + i * 3, none⟩ = some (.bool s_y) ∧ w'.cell? ⟨g_y, o_y + i * 3 + 1, none⟩ = some (.slice A_y n_y c_y) ∧ w'.cell? ⟨g_y, o_y + i * 3 + 2, none⟩ = some (.slice D_y m_y d_y) ∧ w'.cell? ⟨g_y, o_y + ia * 3, none⟩ = some (.bool s_va) ∧ w'.cell? ⟨g_y, o_y + ia * 3 + 1, none⟩ = some (.slice A_va n_va c_va) ∧ w'.cell? ⟨g_y, o_y + ia * 3 + 2, none⟩ = some (.slice D_va m_va d_va) ∧ w'.cell? ⟨g_y, o_y + ib * 3, none⟩ = some (.bool s_vb) ∧ w'.cell? ⟨g_y, o_y + ib * 3 + 1, none⟩ = some (.slice A_vb n_vb c_vb) ∧ w'.cell? ⟨g_y, o_y + ib * 3 + 2, none⟩ = some (.slice D_vb m_vb d_vb) ∧ w'.cell? ⟨ga, i * 3, none⟩ = some (.bool s_g2) ∧ w'.cell? ⟨ga, i * 3 + 1, none⟩ = some (.slice A_g2 n_g2 c_g2) ∧ w'.cell? ⟨ga, i * 3 + 2, none⟩ = some (.slice D_g2 m_g2 d_g2) := fun w' hb9 => ⟨(HBx.out.below' (bb HB2.out hb9)).six.1.1, (HBx.out.below' (bb HB2.out hb9)).six.1.2.1, (HBx.out.below' (bb HB2.out hb9)).six.1.2.2.1, (HBx.out.below' (bb HB2.out hb9)).six.1.2.2.2.1, (HBx.out.below' (bb HB2.out hb9)).six.1.2.2.2.2.1, (HBx.out.below' (bb HB2.out hb9)).six.1.2.2.2.2.2, (hb9.cell (p := ⟨g_y, o_y + i * 3, none⟩) (Nat.lt_of_lt_of_le l_y bw2.size)).trans ((bw2.cell (p := ⟨g_y, o_y + i * 3, none⟩) l_y).trans k0_y), (hb9.cell (p := ⟨g_y, o_y + i * 3 + 1, none⟩) (Nat.lt_of_lt_of_le l_y bw2.size)).trans ((bw2.cell (p := ⟨g_y, o_y + i * 3 + 1, none⟩) l_y).trans k1_y), (hb9.cell (p := ⟨g_y, o_y + i * 3 + 2, none⟩) (Nat.lt_of_lt_of_le l_y bw2.size)).trans ((bw2.cell (p := ⟨g_y, o_y + i * 3 + 2, none⟩) l_y).trans k2_y), (hb9.cell (p := ⟨g_y, o_y + ia * 3, none⟩) (Nat.lt_of_lt_of_le l_y bw2.size)).trans ((bw2.cell (p := ⟨g_y, o_y + ia * 3, none⟩) l_y).trans k0_va), (hb9.cell (p := ⟨g_y, o_y + ia * 3 + 1, none⟩) (Nat.lt_of_lt_of_le l_y bw2.size)).trans ((bw2.cell (p := ⟨g_y, o_y + ia * 3 + 1, none⟩) l_y).trans k1_va), (hb9.cell (p := ⟨g_y, o_y + ia * 3 + 2, none⟩) (Nat.lt_of_lt_of_le l_y bw2.size)).trans ((bw2.cell (p := ⟨g_y, o_y + ia * 3 + 2, none⟩) l_y).trans k2_va), (hb9.cell (p := ⟨g_y, o_y + ib * 3, none⟩) (Nat.lt_of_lt_of_le l_y bw2.size)).trans ((bw2.cell (p := ⟨g_y, o_y + ib * 3, none⟩) l_y).trans k0_vb), (hb9.cell (p := ⟨g_y, o_y + ib * 3 + 1, none⟩) (Nat.lt_of_lt_of_le l_y bw2.size)).trans ((bw2.cell (p := ⟨g_y, o_y + ib * 3 + 1, none⟩) l_y).trans k1_vb), (hb9.cell (p := ⟨g_y, o_y + ib * 3 + 2, none⟩) (Nat.lt_of_lt_of_le l_y bw2.size)).trans ((bw2.cell (p := ⟨g_y, o_y + ib * 3 + 2, none⟩) l_y).trans k2_vb), (hb9.cell (p := ⟨ga, i * 3, none⟩) HR2.out.h.lt.1).trans k0_g2, (hb9.cell (p := ⟨ga, i * 3 + 1, none⟩) HR2.out.h.lt.1).trans k1_g2, (hb9.cell (p := ⟨ga, i * 3 + 2, none⟩) HR2.out.h.lt.1).trans k2_g2⟩
        obtain ⟨ar, har⟩ : ∃ ar, arity op = ar := ⟨_, rfl⟩
        have har2 : 0 < ar := by omega
        have har3 : ¬ ar < 1 := by omega
        simp only [har] at AR
        have hp26 := hS _ (Below.refl _ w2)
        obtain ⟨_, _, _, _, _, _, a6, a7, a8, a9, a10, a11, a12, a13, a14, a15, a16, a17⟩ := hp26
        have HGV := Lib.hid GV
        have HS := Lib.hid hS
        have HHA := Lib.hid hA
        have HAR := Lib.hid har
        have HQY := Lib.hid zy
        clear GV hS hr2 hfit2 hin2 ha hb' hA har har12 q_y q_va q_vb k0_y k1_y k2_y k0_va k1_va k2_va k0_vb k1_vb k2_vb bw2 HIE zy
        go_upto_region 26 with ((with_reducible refine (AR _).out.mono ?_); rintro _ _ ⟨rfl, rfl⟩)
        have HXP := Lib.hid (rfl : (⟨op, (ia : Int), (ib : Int), (q.s, q.z, q.z')⟩ : PI) = ⟨op, (ia : Int), (ib : Int), (q.s, q.z, q.z')⟩)
        go_cut [16, 17, 18] (fun s16 s17 s18 wx => GvC w2 ⟨op, (ia : Int), (ib : Int), (q.s, q.z, q.z')⟩ (v.getD i 0) G v s16 s17 s18 wx)
        case first =>
          refine wp_region_held_drew (S := fun w' => w'.cell? ⟨wr.heap.size, 0, none⟩ = some (.int .i64 op) ∧ w'.cell? ⟨wr.heap.size, 1, none⟩ = some (.int .i64 (ia : Int)) ∧ w'.cell? ⟨wr.heap.size, 2, none⟩ = some (.int .i64 (ib : Int)) ∧ w'.cell? ⟨wr.heap.size, 3, none⟩ = some (.bool q.s) ∧ w'.cell? ⟨wr.heap.size, 4, none⟩ = some (.slice q.A q.n q.c) ∧ w'.cell? ⟨wr.heap.size, 5, none⟩ = some (.slice q.A' q.n' q.c') ∧ w'.cell? ⟨g_y, o_y + i * 3, none⟩ = some (.bool s_y) ∧ w'.cell? ⟨g_y, o_y + i * 3 + 1, none⟩ = some (.slice A_y n_y c_y) ∧ w'.cell? ⟨g_y, o_y + i * 3 + 2, none⟩ = some (.slice D_y m_y d_y) ∧ w'.cell? ⟨g_y, o_y + ia * 3, none⟩ = some (.bool s_va) ∧ w'.cell? ⟨g_y, o_y + ia * 3 + 1, none⟩ = some (.slice A_va n_va c_va) ∧ w'.cell? ⟨g_y, o_y + ia * 3 + 2, none⟩ = some (.slice D_va m_va d_va) ∧ w'.cell? ⟨g_y, o_y + ib * 3, none⟩ = some (.bool s_vb) ∧ w'.cell? ⟨g_y, o_y + ib * 3 + 1, none⟩ = some (.slice A_vb n_vb c_vb) ∧ w'.cell? ⟨g_y, o_y + ib * 3 + 2, none⟩ = some (.slice D_vb m_vb d_vb) ∧ w'.cell? ⟨ga, i * 3, none⟩ = some (.bool s_g2) ∧ w'.cell? ⟨ga, i * 3 + 1, none⟩ = some (.slice A_g2 n_g2 c_g2) ∧ w'.cell? ⟨ga, i * 3 + 2, none⟩ = some (.slice D_g2 m_g2 d_g2)) (by kernel_rfl) (HS.out _ (Below.refl _ w2).drew) (fun hHeld => ?_)
          refine wpAnyH_take (i := 0) (v := ?_) rfl (by kernel_rfl) (by kernel_rfl) (by kernel_rfl) (fun _ _ _ h => h) (Or.inl ⟨by kernel_rfl, ?_⟩) (by assumption) ?_
          rotate_left
          · intro w hSw
            (try dsimp only at hSw)
            go_simp
            (try with_reducible rfl)
          try simp only [Act.put, List.setIfInBounds_toArray, List.set_cons_zero, List.set_cons_succ, List.getElem_toArray, List.getElem_cons_zero, List.getElem_cons_succ]
          refine wpAnyH_take (i := 1) (v := ?_) rfl (by kernel_rfl) (by kernel_rfl) (by kernel_rfl) (fun _ _ _ h => h) (Or.inl ⟨by kernel_rfl, ?_⟩) (by assumption) ?_
          rotate_left
          · intro w hSw
            (try dsimp only at hSw)
            go_simp
            (try with_reducible rfl)
          try simp only [Act.put, List.setIfInBounds_toArray, List.set_cons_zero, List.set_cons_succ, List.getElem_toArray, List.getElem_cons_zero, List.getElem_cons_succ]
          refine wpAnyH_take (i := 2) (v := ?_) rfl (by kernel_rfl) (by kernel_rfl) (by kernel_rfl) (fun _ _ _ h => h) (Or.inl ⟨by kernel_rfl, ?_⟩) (by assumption) ?_
          rotate_left
          · intro w hSw
            (try dsimp only at hSw)
            go_simp
            (try with_reducible rfl)
          try simp only [Act.put, List.setIfInBounds_toArray, List.set_cons_zero, List.set_cons_succ, List.getElem_toArray, List.getElem_cons_zero, List.getElem_cons_succ]
          refine wpAnyH_take (i := 3) (v := ?_) rfl (by kernel_rfl) (by kernel_rfl) (by kernel_rfl) (fun _ _ _ h => h) (Or.inl ⟨by kernel_rfl, ?_⟩) (by assumption) ?_
          rotate_left
          · intro w hSw
            (try dsimp only at hSw)
            go_simp
            (try with_reducible rfl)
          try simp only [Act.put, List.setIfInBounds_toArray, List.set_cons_zero, List.set_cons_succ, List.getElem_toArray, List.getElem_cons_zero, List.getElem_cons_succ]
          refine wpAnyH_take (i := 4) (v := ?_) rfl (by kernel_rfl) (by kernel_rfl) (by kernel_rfl) (fun _ _ _ h => h) (Or.inl ⟨by kernel_rfl, ?_⟩) (by assumption) ?_
          rotate_left
          · intro w hSw
            (try dsimp only at hSw)
            go_simp
            (try with_reducible rfl)
          try simp only [Act.put, List.setIfInBounds_toArray, List.set_cons_zero, List.set_cons_succ, List.getElem_toArray, List.getElem_cons_zero, List.getElem_cons_succ]
          refine wpAnyH_take (i := 5) (v := ?_) rfl (by kernel_rfl) (by kernel_rfl) (by kernel_rfl) (fun _ _ _ h => h) (Or.inl ⟨by kernel_rfl, ?_⟩) (by assumption) ?_
          rotate_left
          · intro w hSw
            (try dsimp only at hSw)
            go_simp
            (try with_reducible rfl)
          try simp only [Act.put, List.setIfInBounds_toArray, List.set_cons_zero, List.set_cons_succ, List.getElem_toArray, List.getElem_cons_zero, List.getElem_cons_succ]
          refine wpAnyH_take (i := 6) (v := ?_) rfl (by kernel_rfl) (by kernel_rfl) (by kernel_rfl) (fun _ _ _ h => h) (Or.inl ⟨by kernel_rfl, ?_⟩) (by assumption) ?_
          rotate_left
          · intro w hSw
            (try dsimp only at hSw)
            go_simp
            (try with_reducible rfl)
          try simp only [Act.put, List.setIfInBounds_toArray, List.set_cons_zero, List.set_cons_succ, List.getElem_toArray, List.getElem_cons_zero, List.getElem_cons_succ]
          refine wpAnyH_take (i := 7) (v := ?_) rfl (by kernel_rfl) (by kernel_rfl) (by kernel_rfl) (fun _ _ _ h => h) (Or.inl ⟨by kernel_rfl, ?_⟩) (by assumption) ?_
          rotate_left
          · intro w hSw
            (try dsimp only at hSw)
            go_simp
            (try with_reducible rfl)
          try simp only [Act.put, List.setIfInBounds_toArray, List.set_cons_zero, List.set_cons_succ, List.getElem_toArray, List.getElem_cons_zero, List.getElem_cons_succ]
          refine wpAnyH_take (i := 8) (v := ?_) rfl (by kernel_rfl) (by kernel_rfl) (by kernel_rfl) (fun _ _ _ h => h) (Or.inl ⟨by kernel_rfl, ?_⟩) (by assumption) ?_
          rotate_left
          · intro w hSw
            (try dsimp only at hSw)
            go_simp
            (try with_reducible rfl)
          try simp only [Act.put, List.setIfInBounds_toArray, List.set_cons_zero, List.set_cons_succ, List.getElem_toArray, List.getElem_cons_zero, List.getElem_cons_succ]
          refine wpAnyH_take (i := 9) (v := ?_) rfl (by kernel_rfl) (by kernel_rfl) (by kernel_rfl) (fun _ _ _ h => h) (Or.inl ⟨by kernel_rfl, ?_⟩) (by assumption) ?_
          rotate_left
          · intro w hSw
            (try dsimp only at hSw)
            go_simp
            (try with_reducible rfl)
          try simp only [Act.put, List.setIfInBounds_toArray, List.set_cons_zero, List.set_cons_succ, List.getElem_toArray, List.getElem_cons_zero, List.getElem_cons_succ]
          refine wpAnyH_take (i := 10) (v := ?_) rfl (by kernel_rfl) (by kernel_rfl) (by kernel_rfl) (fun _ _ _ h => h) (Or.inl ⟨by kernel_rfl, ?_⟩) (by assumption) ?_
          rotate_left
          · intro w hSw
            (try dsimp only at hSw)
            go_simp
            (try with_reducible rfl)
          try simp only [Act.put, List.setIfInBounds_toArray, List.set_cons_zero, List.set_cons_succ, List.getElem_toArray, List.getElem_cons_zero, List.getElem_cons_succ]
          refine wpAnyH_take (i := 11) (v := ?_) rfl (by kernel_rfl) (by kernel_rfl) (by kernel_rfl) (fun _ _ _ h => h) (Or.inl ⟨by kernel_rfl, ?_⟩) (by assumption) ?_
          rotate_left
          · intro w hSw
            (try dsimp only at hSw)
            go_simp
            (try with_reducible rfl)
          try simp only [Act.put, List.setIfInBounds_toArray, List.set_cons_zero, List.set_cons_succ, List.getElem_toArray, List.getElem_cons_zero, List.getElem_cons_succ]
          refine wpAnyH_take (i := 12) (v := ?_) rfl (by kernel_rfl) (by kernel_rfl) (by kernel_rfl) (fun _ _ _ h => h) (Or.inl ⟨by kernel_rfl, ?_⟩) (by assumption) ?_
          rotate_left
          · intro w hSw
            (try dsimp only at hSw)
            go_simp
            (try with_reducible rfl)
          try simp only [Act.put, List.setIfInBounds_toArray, List.set_cons_zero, List.set_cons_succ, List.getElem_toArray, List.getElem_cons_zero, List.getElem_cons_succ]
          refine wpAnyH_take (i := 13) (v := ?_) rfl (by kernel_rfl) (by kernel_rfl) (by kernel_rfl) (fun _ _ _ h => h) (Or.inl ⟨by kernel_rfl, ?_⟩) (by assumption) ?_
          rotate_left
          · intro w hSw
            (try dsimp only at hSw)
            go_simp
            (try with_reducible rfl)
          try simp only [Act.put, List.setIfInBounds_toArray, List.set_cons_zero, List.set_cons_succ, List.getElem_toArray, List.getElem_cons_zero, List.getElem_cons_succ]
          refine wpAnyH_take (i := 14) (v := ?_) rfl (by kernel_rfl) (by kernel_rfl) (by kernel_rfl) (fun _ _ _ h => h) (Or.inl ⟨by kernel_rfl, ?_⟩) (by assumption) ?_
          rotate_left
          · intro w hSw
            (try dsimp only at hSw)
            go_simp
            (try with_reducible rfl)
          try simp only [Act.put, List.setIfInBounds_toArray, List.set_cons_zero, List.set_cons_succ, List.getElem_toArray, List.getElem_cons_zero, List.getElem_cons_succ]
          refine wpAnyH_take (i := 15) (v := ?_) rfl (by kernel_rfl) (by kernel_rfl) (by kernel_rfl) (fun _ _ _ h => h) (Or.inl ⟨by kernel_rfl, ?_⟩) (by assumption) ?_
          rotate_left
          · intro w hSw
            (try dsimp only at hSw)
            go_simp
            (try with_reducible rfl)
          try simp only [Act.put, List.setIfInBounds_toArray, List.set_cons_zero, List.set_cons_succ, List.getElem_toArray, List.getElem_cons_zero, List.getElem_cons_succ]
          refine wpAnyH_take (i := 16) (v := ?_) rfl (by kernel_rfl) (by kernel_rfl) (by kernel_rfl) (fun _ _ _ h => h) (Or.inl ⟨by kernel_rfl, ?_⟩) (by assumption) ?_
          rotate_left
          · intro w hSw
            (try dsimp only at hSw)
            go_simp
            (try with_reducible rfl)
          try simp only [Act.put, List.setIfInBounds_toArray, List.set_cons_zero, List.set_cons_succ, List.getElem_toArray, List.getElem_cons_zero, List.getElem_cons_succ]
          refine wpAnyH_take (i := 17) (v := ?_) rfl (by kernel_rfl) (by kernel_rfl) (by kernel_rfl) (fun _ _ _ h => h) (Or.inl ⟨by kernel_rfl, ?_⟩) (by assumption) ?_
          rotate_left
          · intro w hSw
            (try dsimp only at hSw)
            go_simp
            (try with_reducible rfl)
          try simp only [Act.put, List.setIfInBounds_toArray, List.set_cons_zero, List.set_cons_succ, List.getElem_toArray, List.getElem_cons_zero, List.getElem_cons_succ]
          refine wpAnyH_take (i := 18) (v := ?_) rfl (by kernel_rfl) (by kernel_rfl) (by kernel_rfl) (fun _ _ _ h => h) (Or.inl ⟨by kernel_rfl, ?_⟩) (by assumption) ?_
          rotate_left
          · intro w hSw
            (try dsimp only at hSw)
            go_simp
            (try with_reducible rfl)
          try simp only [Act.put, List.setIfInBounds_toArray, List.set_cons_zero, List.set_cons_succ, List.getElem_toArray, List.getElem_cons_zero, List.getElem_cons_succ]
          refine wpAnyH_take (i := 19) (v := ?_) rfl (by kernel_rfl) (by kernel_rfl) (by kernel_rfl) (fun _ _ _ h => h) (Or.inl ⟨by kernel_rfl, ?_⟩) (by assumption) ?_
          rotate_left
          · intro w hSw
            (try dsimp only at hSw)
            go_simp
            (try with_reducible rfl)
          try simp only [Act.put, List.setIfInBounds_toArray, List.set_cons_zero, List.set_cons_succ, List.getElem_toArray, List.getElem_cons_zero, List.getElem_cons_succ]
          have y0 : Below w2.heap.size w2 w2.drew := (Below.refl _ w2).drew
          refine wpAnyH_ready (rs := [20, 25, 26]) (by kernel_rfl) (by simp) ?_
          refine AllReadyH.cons rfl (fun K hK => ?_) (AllReadyH.cons rfl (fun K hK => ?_) (AllReadyH.cons rfl (fun K hK => ?_) AllReadyH.nil))
          · skip
            go_simp
            with_reducible refine (HGV.out _ y0).mono ?_
            rintro _ W1 ⟨s1, A1, n1, c1, D1, m1, d1, s2, A2, n2, c2, D2, m2, d2, ke, rfl, F1, b1⟩
            have y1 : Below w2.heap.size w2 W1 := bb y0 b1
            (try go_wp2_with fail)
            refine hK.out _ _ (HS.out _ y1) (fun hHeld => ?_)
            clear hK K
            try simp only [Act.put, List.setIfInBounds_toArray, List.set_cons_zero, List.set_cons_succ, List.getElem_toArray, List.getElem_cons_zero, List.getElem_cons_succ]
            refine wpAnyH_take (i := 21) (v := ?_) rfl (by kernel_rfl) (by kernel_rfl) (by kernel_rfl) (fun _ _ _ h => h) (Or.inl ⟨by kernel_rfl, ?_⟩) (by assumption) ?_
            rotate_left
            · intro w hSw
              (try dsimp only at hSw)
              go_simp
              (try with_reducible rfl)
            try simp only [Act.put, List.setIfInBounds_toArray, List.set_cons_zero, List.set_cons_succ, List.getElem_toArray, List.getElem_cons_zero, List.getElem_cons_succ]
            refine wpAnyH_take (i := 22) (v := ?_) rfl (by kernel_rfl) (by kernel_rfl) (by kernel_rfl) (fun _ _ _ h => h) (Or.inl ⟨by kernel_rfl, ?_⟩) (by assumption) ?_
            rotate_left
            · intro w hSw
              (try dsimp only at hSw)
              go_simp
              (try with_reducible rfl)
            try simp only [Act.put, List.setIfInBounds_toArray, List.set_cons_zero, List.set_cons_succ, List.getElem_toArray, List.getElem_cons_zero, List.getElem_cons_succ]
            refine wpAnyH_take (i := 23) (v := ?_) rfl (by kernel_rfl) (by kernel_rfl) (by kernel_rfl) (fun _ _ _ h => h) (Or.inl ⟨by kernel_rfl, ?_⟩) (by assumption) ?_
            rotate_left
            · intro w hSw
              (try dsimp only at hSw)
              go_simp
              (try with_reducible rfl)
            try simp only [Act.put, List.setIfInBounds_toArray, List.set_cons_zero, List.set_cons_succ, List.getElem_toArray, List.getElem_cons_zero, List.getElem_cons_succ]
            refine wpAnyH_take (i := 24) (v := ?_) rfl (by kernel_rfl) (by kernel_rfl) (by kernel_rfl) (fun _ _ _ h => h) (Or.inl ⟨by kernel_rfl, ?_⟩) (by assumption) ?_
            rotate_left
            · intro w hSw
              (try dsimp only at hSw)
              go_simp
              (try with_reducible rfl)
            try simp only [Act.put, List.setIfInBounds_toArray, List.set_cons_zero, List.set_cons_succ, List.getElem_toArray, List.getElem_cons_zero, List.getElem_cons_succ]
            refine wpAnyH_ready (rs := [25, 26]) (by kernel_rfl) (by simp) ?_
            refine AllReadyH.cons rfl (fun K hK => ?_) (AllReadyH.cons rfl (fun K hK => ?_) AllReadyH.nil)
            · skip
              go_simp
              obtain ⟨W2, hW, P12, b2⟩ := box0 45 W1 Z3
              unfold Z3 at hW
              rw [hW]
              clear hW
              have y2 : Below w2.heap.size w2 W2 := bb y1 b2
              have G12 : w2.heap.size ≤ W1.heap.size := y1.size
              have F2 := F1.below b2
              (try go_wp2_with fail)
              refine hK.out _ _ (HS.out _ y2) (fun hHeld => ?_)
              clear hK K
              try simp only [Act.put, List.setIfInBounds_toArray, List.set_cons_zero, List.set_cons_succ, List.getElem_toArray, List.getElem_cons_zero, List.getElem_cons_succ]
              refine wpAnyH_ready (rs := [26]) (by kernel_rfl) (by simp) ?_
              refine AllReadyH.cons rfl (fun K hK => ?_) AllReadyH.nil
              go_simp
              obtain ⟨W3, hW, P23, b3⟩ := box0 45 W2 Z3
              unfold Z3 at hW
              rw [hW]
              clear hW
              have y3 : Below w2.heap.size w2 W3 := bb y2 b3
              have G23 : w2.heap.size ≤ W2.heap.size := y2.size
              have NE := Nat.ne_of_lt (Box.lt P12)
              have P13 := Box.below' P12 b3
              have G13 := G12
              have F3 := F2.below b3
              (try go_wp2_with fail)
              refine hK.out _ _ (HS.out _ y3) (fun hHeld => ?_)
              clear hK K
              try simp only [Act.put, List.setIfInBounds_toArray, List.set_cons_zero, List.set_cons_succ, List.getElem_toArray, List.getElem_cons_zero, List.getElem_cons_succ]
              refine wpAnyH_ready (rs := [27]) (by kernel_rfl) (by simp) ?_
              refine AllReadyH.cons rfl (fun K hK => ?_) AllReadyH.nil
              obtain ⟨⟨r0, r1, r2⟩, f0, f1, f2⟩ := Box.three (show Box 45 W3 (W1.heap.size) #[.bool false, .slice none 0 0, .slice none 0 0] from P13)
              go_simp
              obtain ⟨W4, hW⟩ : ∃ Z, put3 W3 (W1.heap.size) (.bool s1) (.slice A1 n1 c1) (.slice D1 m1 d1) = Z := ⟨_, rfl⟩
              have y4 : Below w2.heap.size w2 W4 := by rw [← hW]; exact below_put3 y3 G13 (Nat.le_refl _) _ _ _
              have P14 : NV.box W4 (W1.heap.size) ⟨s1, A1, n1, c1, D1, m1, d1⟩ := by rw [← hW]; exact box_self P13 _ _ _
              have G14 := G13
              have P24 := Box.put3 P23 (g' := W1.heap.size) (by first | exact NE | exact NE.symm) (.bool s1) (.slice A1 n1 c1) (.slice D1 m1 d1)
              rw [hW] at P24
              have G24 := G23
              have F4 := F3.put3 (g := W1.heap.size) (show IsBox 45 W3 (W1.heap.size) from ⟨false, none, 0, 0, none, 0, 0, P13⟩) (.bool s1) (.slice A1 n1 c1) (.slice D1 m1 d1)
              rw [hW] at F4
              unfold put3 at hW
              (try rw [hW])
              clear hW r0 r1 r2 f0 f1 f2
              (try go_wp2_with fail)
              refine hK.out _ _ (HS.out _ y4) (fun hHeld => ?_)
              clear hK K
              try simp only [Act.put, List.setIfInBounds_toArray, List.set_cons_zero, List.set_cons_succ, List.getElem_toArray, List.getElem_cons_zero, List.getElem_cons_succ]
              refine wpAnyH_ready (rs := [28]) (by kernel_rfl) (by simp) ?_
              refine AllReadyH.cons rfl (fun K hK => ?_) AllReadyH.nil
              obtain ⟨⟨r0, r1, r2⟩, f0, f1, f2⟩ := Box.three (show Box 45 W4 (W2.heap.size) #[.bool false, .slice none 0 0, .slice none 0 0] from P24)
              go_simp
              obtain ⟨W5, hW⟩ : ∃ Z, put3 W4 (W2.heap.size) (.bool s2) (.slice A2 n2 c2) (.slice D2 m2 d2) = Z := ⟨_, rfl⟩
              have y5 : Below w2.heap.size w2 W5 := by rw [← hW]; exact below_put3 y4 G24 (Nat.le_refl _) _ _ _
              have P25 : NV.box W5 (W2.heap.size) ⟨s2, A2, n2, c2, D2, m2, d2⟩ := by rw [← hW]; exact box_self P24 _ _ _
              have G25 := G24
              have P15 := Box.put3 P14 (g' := W2.heap.size) (by first | exact NE | exact NE.symm) (.bool s2) (.slice A2 n2 c2) (.slice D2 m2 d2)
              rw [hW] at P15
              have G15 := G14
              have F5 := F4.put3 (g := W2.heap.size) (show IsBox 45 W4 (W2.heap.size) from ⟨false, none, 0, 0, none, 0, 0, P24⟩) (.bool s2) (.slice A2 n2 c2) (.slice D2 m2 d2)
              rw [hW] at F5
              unfold put3 at hW
              (try rw [hW])
              clear hW r0 r1 r2 f0 f1 f2
              (try go_wp2_with fail)
              refine hK.out _ _ (HS.out _ y5) (fun hHeld => ?_)
              clear hK K
              try simp only [Act.put, List.setIfInBounds_toArray, List.set_cons_zero, List.set_cons_succ, List.getElem_toArray, List.getElem_cons_zero, List.getElem_cons_succ]
              refine wpAnyH_take (i := 29) (v := ?_) rfl (by kernel_rfl) (by kernel_rfl) (by kernel_rfl) (fun _ _ _ h => h) (Or.inl ⟨by kernel_rfl, ?_⟩) (by assumption) ?_
              rotate_left
              · intro w hSw
                (try dsimp only at hSw)
                go_simp
                (try with_reducible rfl)
              try simp only [Act.put, List.setIfInBounds_toArray, List.set_cons_zero, List.set_cons_succ, List.getElem_toArray, List.getElem_cons_zero, List.getElem_cons_succ]
              refine wpAnyH_done (by kernel_rfl) ?_ _
              go_wp2_with fail
              go_meet
              exact ⟨_, _, ⟨s1, A1, n1, c1, D1, m1, d1⟩, ⟨s2, A2, n2, c2, D2, m2, d2⟩, _, rfl, rfl, rfl, G15, G25, P15, P25, F5, y5⟩
            · skip
              go_simp
              obtain ⟨W2, hW, P22, b2⟩ := box0 45 W1 Z3
              unfold Z3 at hW
              rw [hW]
              clear hW
              have y2 : Below w2.heap.size w2 W2 := bb y1 b2
              have G22 : w2.heap.size ≤ W1.heap.size := y1.size
              have F2 := F1.below b2
              (try go_wp2_with fail)
              refine hK.out _ _ (HS.out _ y2) (fun hHeld => ?_)
              clear hK K
              try simp only [Act.put, List.setIfInBounds_toArray, List.set_cons_zero, List.set_cons_succ, List.getElem_toArray, List.getElem_cons_zero, List.getElem_cons_succ]
              refine wpAnyH_ready (rs := [25]) (by kernel_rfl) (by simp) ?_
              refine AllReadyH.cons rfl (fun K hK => ?_) AllReadyH.nil
              go_simp
              obtain ⟨W3, hW, P13, b3⟩ := box0 45 W2 Z3
              unfold Z3 at hW
              rw [hW]
              clear hW
              have y3 : Below w2.heap.size w2 W3 := bb y2 b3
              have G13 : w2.heap.size ≤ W2.heap.size := y2.size
              have NE := Nat.ne_of_lt (Box.lt P22)
              have P23 := Box.below' P22 b3
              have G23 := G22
              have F3 := F2.below b3
              (try go_wp2_with fail)
              refine hK.out _ _ (HS.out _ y3) (fun hHeld => ?_)
              clear hK K
              try simp only [Act.put, List.setIfInBounds_toArray, List.set_cons_zero, List.set_cons_succ, List.getElem_toArray, List.getElem_cons_zero, List.getElem_cons_succ]
              refine wpAnyH_ready (rs := [27]) (by kernel_rfl) (by simp) ?_
              refine AllReadyH.cons rfl (fun K hK => ?_) AllReadyH.nil
              obtain ⟨⟨r0, r1, r2⟩, f0, f1, f2⟩ := Box.three (show Box 45 W3 (W2.heap.size) #[.bool false, .slice none 0 0, .slice none 0 0] from P13)
              go_simp
              obtain ⟨W4, hW⟩ : ∃ Z, put3 W3 (W2.heap.size) (.bool s1) (.slice A1 n1 c1) (.slice D1 m1 d1) = Z := ⟨_, rfl⟩
              have y4 : Below w2.heap.size w2 W4 := by rw [← hW]; exact below_put3 y3 G13 (Nat.le_refl _) _ _ _
              have P14 : NV.box W4 (W2.heap.size) ⟨s1, A1, n1, c1, D1, m1, d1⟩ := by rw [← hW]; exact box_self P13 _ _ _
              have G14 := G13
              have P24 := Box.put3 P23 (g' := W2.heap.size) (by first | exact NE | exact NE.symm) (.bool s1) (.slice A1 n1 c1) (.slice D1 m1 d1)
              rw [hW] at P24
              have G24 := G23
              have F4 := F3.put3 (g := W2.heap.size) (show IsBox 45 W3 (W2.heap.size) from ⟨false, none, 0, 0, none, 0, 0, P13⟩) (.bool s1) (.slice A1 n1 c1) (.slice D1 m1 d1)
              rw [hW] at F4
              unfold put3 at hW
              (try rw [hW])
              clear hW r0 r1 r2 f0 f1 f2
              (try go_wp2_with fail)
              refine hK.out _ _ (HS.out _ y4) (fun hHeld => ?_)
              clear hK K
              try simp only [Act.put, List.setIfInBounds_toArray, List.set_cons_zero, List.set_cons_succ, List.getElem_toArray, List.getElem_cons_zero, List.getElem_cons_succ]
              refine wpAnyH_ready (rs := [28]) (by kernel_rfl) (by simp) ?_
              refine AllReadyH.cons rfl (fun K hK => ?_) AllReadyH.nil
              obtain ⟨⟨r0, r1, r2⟩, f0, f1, f2⟩ := Box.three (show Box 45 W4 (W1.heap.size) #[.bool false, .slice none 0 0, .slice none 0 0] from P24)
              go_simp
              obtain ⟨W5, hW⟩ : ∃ Z, put3 W4 (W1.heap.size) (.bool s2) (.slice A2 n2 c2) (.slice D2 m2 d2) = Z := ⟨_, rfl⟩
              have y5 : Below w2.heap.size w2 W5 := by rw [← hW]; exact below_put3 y4 G24 (Nat.le_refl _) _ _ _
              have P25 : NV.box W5 (W1.heap.size) ⟨s2, A2, n2, c2, D2, m2, d2⟩ := by rw [← hW]; exact box_self P24 _ _ _
              have G25 := G24
              have P15 := Box.put3 P14 (g' := W1.heap.size) (by first | exact NE | exact NE.symm) (.bool s2) (.slice A2 n2 c2) (.slice D2 m2 d2)
              rw [hW] at P15
              have G15 := G14
              have F5 := F4.put3 (g := W1.heap.size) (show IsBox 45 W4 (W1.heap.size) from ⟨false, none, 0, 0, none, 0, 0, P24⟩) (.bool s2) (.slice A2 n2 c2) (.slice D2 m2 d2)
              rw [hW] at F5
              unfold put3 at hW
              (try rw [hW])
              clear hW r0 r1 r2 f0 f1 f2
              (try go_wp2_with fail)
              refine hK.out _ _ (HS.out _ y5) (fun hHeld => ?_)
              clear hK K
              try simp only [Act.put, List.setIfInBounds_toArray, List.set_cons_zero, List.set_cons_succ, List.getElem_toArray, List.getElem_cons_zero, List.getElem_cons_succ]
              refine wpAnyH_take (i := 29) (v := ?_) rfl (by kernel_rfl) (by kernel_rfl) (by kernel_rfl) (fun _ _ _ h => h) (Or.inl ⟨by kernel_rfl, ?_⟩) (by assumption) ?_
              rotate_left
              · intro w hSw
                (try dsimp only at hSw)
                go_simp
                (try with_reducible rfl)
              try simp only [Act.put, List.setIfInBounds_toArray, List.set_cons_zero, List.set_cons_succ, List.getElem_toArray, List.getElem_cons_zero, List.getElem_cons_succ]
              refine wpAnyH_done (by kernel_rfl) ?_ _
              go_wp2_with fail
              go_meet
              exact ⟨_, _, ⟨s1, A1, n1, c1, D1, m1, d1⟩, ⟨s2, A2, n2, c2, D2, m2, d2⟩, _, rfl, rfl, rfl, G15, G25, P15, P25, F5, y5⟩
          · skip
            go_simp
            obtain ⟨W1, hW, P11, b1⟩ := box0 45 w2.drew Z3
            unfold Z3 at hW
            replace hW : (w2.alloc (.cells #[.bool false, .slice none 0 0, .slice none 0 0] 45)).drew = W1 := hW
            replace P11 : Box 45 W1 w2.heap.size Z3 := P11
            rw [hW]
            clear hW
            have y1 : Below w2.heap.size w2 W1 := bb y0 b1
            have G11 : w2.heap.size ≤ w2.heap.size := y0.size
            (try go_wp2_with fail)
            refine hK.out _ _ (HS.out _ y1) (fun hHeld => ?_)
            clear hK K
            try simp only [Act.put, List.setIfInBounds_toArray, List.set_cons_zero, List.set_cons_succ, List.getElem_toArray, List.getElem_cons_zero, List.getElem_cons_succ]
            refine wpAnyH_ready (rs := [20, 26]) (by kernel_rfl) (by simp) ?_
            refine AllReadyH.cons rfl (fun K hK => ?_) (AllReadyH.cons rfl (fun K hK => ?_) AllReadyH.nil)
            · skip
              go_simp
              with_reducible refine (HGV.out _ y1).mono ?_
              rintro _ W2 ⟨s1, A1, n1, c1, D1, m1, d1, s2, A2, n2, c2, D2, m2, d2, ke, rfl, F2, b2⟩
              have y2 : Below w2.heap.size w2 W2 := bb y1 b2
              have P12 := Box.below' P11 b2
              have G12 := G11
              (try go_wp2_with fail)
              refine hK.out _ _ (HS.out _ y2) (fun hHeld => ?_)
              clear hK K
              try simp only [Act.put, List.setIfInBounds_toArray, List.set_cons_zero, List.set_cons_succ, List.getElem_toArray, List.getElem_cons_zero, List.getElem_cons_succ]
              refine wpAnyH_take (i := 21) (v := ?_) rfl (by kernel_rfl) (by kernel_rfl) (by kernel_rfl) (fun _ _ _ h => h) (Or.inl ⟨by kernel_rfl, ?_⟩) (by assumption) ?_
              rotate_left
              · intro w hSw
                (try dsimp only at hSw)
                go_simp
                (try with_reducible rfl)
              try simp only [Act.put, List.setIfInBounds_toArray, List.set_cons_zero, List.set_cons_succ, List.getElem_toArray, List.getElem_cons_zero, List.getElem_cons_succ]
              refine wpAnyH_take (i := 22) (v := ?_) rfl (by kernel_rfl) (by kernel_rfl) (by kernel_rfl) (fun _ _ _ h => h) (Or.inl ⟨by kernel_rfl, ?_⟩) (by assumption) ?_
              rotate_left
              · intro w hSw
                (try dsimp only at hSw)
                go_simp
                (try with_reducible rfl)
              try simp only [Act.put, List.setIfInBounds_toArray, List.set_cons_zero, List.set_cons_succ, List.getElem_toArray, List.getElem_cons_zero, List.getElem_cons_succ]
              refine wpAnyH_take (i := 23) (v := ?_) rfl (by kernel_rfl) (by kernel_rfl) (by kernel_rfl) (fun _ _ _ h => h) (Or.inl ⟨by kernel_rfl, ?_⟩) (by assumption) ?_
              rotate_left
              · intro w hSw
                (try dsimp only at hSw)
                go_simp
                (try with_reducible rfl)
              try simp only [Act.put, List.setIfInBounds_toArray, List.set_cons_zero, List.set_cons_succ, List.getElem_toArray, List.getElem_cons_zero, List.getElem_cons_succ]
              refine wpAnyH_take (i := 24) (v := ?_) rfl (by kernel_rfl) (by kernel_rfl) (by kernel_rfl) (fun _ _ _ h => h) (Or.inl ⟨by kernel_rfl, ?_⟩) (by assumption) ?_
              rotate_left
              · intro w hSw
                (try dsimp only at hSw)
                go_simp
                (try with_reducible rfl)
              try simp only [Act.put, List.setIfInBounds_toArray, List.set_cons_zero, List.set_cons_succ, List.getElem_toArray, List.getElem_cons_zero, List.getElem_cons_succ]
              refine wpAnyH_ready (rs := [26]) (by kernel_rfl) (by simp) ?_
              refine AllReadyH.cons rfl (fun K hK => ?_) AllReadyH.nil
              go_simp
              obtain ⟨W3, hW, P23, b3⟩ := box0 45 W2 Z3
              unfold Z3 at hW
              rw [hW]
              clear hW
              have y3 : Below w2.heap.size w2 W3 := bb y2 b3
              have G23 : w2.heap.size ≤ W2.heap.size := y2.size
              have NE := Nat.ne_of_lt (Box.lt P12)
              have P13 := Box.below' P12 b3
              have G13 := G12
              have F3 := F2.below b3
              (try go_wp2_with fail)
              refine hK.out _ _ (HS.out _ y3) (fun hHeld => ?_)
              clear hK K
              try simp only [Act.put, List.setIfInBounds_toArray, List.set_cons_zero, List.set_cons_succ, List.getElem_toArray, List.getElem_cons_zero, List.getElem_cons_succ]
              refine wpAnyH_ready (rs := [27]) (by kernel_rfl) (by simp) ?_
              refine AllReadyH.cons rfl (fun K hK => ?_) AllReadyH.nil
              obtain ⟨⟨r0, r1, r2⟩, f0, f1, f2⟩ := Box.three (show Box 45 W3 (w2.heap.size) #[.bool false, .slice none 0 0, .slice none 0 0] from P13)
              go_simp
              obtain ⟨W4, hW⟩ : ∃ Z, put3 W3 (w2.heap.size) (.bool s1) (.slice A1 n1 c1) (.slice D1 m1 d1) = Z := ⟨_, rfl⟩
              have y4 : Below w2.heap.size w2 W4 := by rw [← hW]; exact below_put3 y3 G13 (Nat.le_refl _) _ _ _
              have P14 : NV.box W4 (w2.heap.size) ⟨s1, A1, n1, c1, D1, m1, d1⟩ := by rw [← hW]; exact box_self P13 _ _ _
              have G14 := G13
              have P24 := Box.put3 P23 (g' := w2.heap.size) (by first | exact NE | exact NE.symm) (.bool s1) (.slice A1 n1 c1) (.slice D1 m1 d1)
              rw [hW] at P24
              have G24 := G23
              have F4 := F3.put3 (g := w2.heap.size) (show IsBox 45 W3 (w2.heap.size) from ⟨false, none, 0, 0, none, 0, 0, P13⟩) (.bool s1) (.slice A1 n1 c1) (.slice D1 m1 d1)
              rw [hW] at F4
              unfold put3 at hW
              (try rw [hW])
              clear hW r0 r1 r2 f0 f1 f2
              (try go_wp2_with fail)
              refine hK.out _ _ (HS.out _ y4) (fun hHeld => ?_)
              clear hK K
              try simp only [Act.put, List.setIfInBounds_toArray, List.set_cons_zero, List.set_cons_succ, List.getElem_toArray, List.getElem_cons_zero, List.getElem_cons_succ]
              refine wpAnyH_ready (rs := [28]) (by kernel_rfl) (by simp) ?_
              refine AllReadyH.cons rfl (fun K hK => ?_) AllReadyH.nil
              obtain ⟨⟨r0, r1, r2⟩, f0, f1, f2⟩ := Box.three (show Box 45 W4 (W2.heap.size) #[.bool false, .slice none 0 0, .slice none 0 0] from P24)
              go_simp
              obtain ⟨W5, hW⟩ : ∃ Z, put3 W4 (W2.heap.size) (.bool s2) (.slice A2 n2 c2) (.slice D2 m2 d2) = Z := ⟨_, rfl⟩
              have y5 : Below w2.heap.size w2 W5 := by rw [← hW]; exact below_put3 y4 G24 (Nat.le_refl _) _ _ _
              have P25 : NV.box W5 (W2.heap.size) ⟨s2, A2, n2, c2, D2, m2, d2⟩ := by rw [← hW]; exact box_self P24 _ _ _
              have G25 := G24
              have P15 := Box.put3 P14 (g' := W2.heap.size) (by first | exact NE | exact NE.symm) (.bool s2) (.slice A2 n2 c2) (.slice D2 m2 d2)
              rw [hW] at P15
              have G15 := G14
              have F5 := F4.put3 (g := W2.heap.size) (show IsBox 45 W4 (W2.heap.size) from ⟨false, none, 0, 0, none, 0, 0, P24⟩) (.bool s2) (.slice A2 n2 c2) (.slice D2 m2 d2)
              rw [hW] at F5
              unfold put3 at hW
              (try rw [hW])
              clear hW r0 r1 r2 f0 f1 f2
              (try go_wp2_with fail)
              refine hK.out _ _ (HS.out _ y5) (fun hHeld => ?_)
              clear hK K
              try simp only [Act.put, List.setIfInBounds_toArray, List.set_cons_zero, List.set_cons_succ, List.getElem_toArray, List.getElem_cons_zero, List.getElem_cons_succ]
              refine wpAnyH_take (i := 29) (v := ?_) rfl (by kernel_rfl) (by kernel_rfl) (by kernel_rfl) (fun _ _ _ h => h) (Or.inl ⟨by kernel_rfl, ?_⟩) (by assumption) ?_
              rotate_left
              · intro w hSw
                (try dsimp only at hSw)
                go_simp
                (try with_reducible rfl)
              try simp only [Act.put, List.setIfInBounds_toArray, List.set_cons_zero, List.set_cons_succ, List.getElem_toArray, List.getElem_cons_zero, List.getElem_cons_succ]
              refine wpAnyH_done (by kernel_rfl) ?_ _
              go_wp2_with fail
              go_meet
              exact ⟨_, _, ⟨s1, A1, n1, c1, D1, m1, d1⟩, ⟨s2, A2, n2, c2, D2, m2, d2⟩, _, rfl, rfl, rfl, G15, G25, P15, P25, F5, y5⟩
            · skip
              go_simp
              obtain ⟨W2, hW, P22, b2⟩ := box0 45 W1 Z3
              unfold Z3 at hW
              rw [hW]
              clear hW
              have y2 : Below w2.heap.size w2 W2 := bb y1 b2
              have G22 : w2.heap.size ≤ W1.heap.size := y1.size
              have NE := Nat.ne_of_lt (Box.lt P11)
              have P12 := Box.below' P11 b2
              have G12 := G11
              (try go_wp2_with fail)
              refine hK.out _ _ (HS.out _ y2) (fun hHeld => ?_)
              clear hK K
              try simp only [Act.put, List.setIfInBounds_toArray, List.set_cons_zero, List.set_cons_succ, List.getElem_toArray, List.getElem_cons_zero, List.getElem_cons_succ]
              refine wpAnyH_ready (rs := [20]) (by kernel_rfl) (by simp) ?_
              refine AllReadyH.cons rfl (fun K hK => ?_) AllReadyH.nil
              go_simp
              with_reducible refine (HGV.out _ y2).mono ?_
              rintro _ W3 ⟨s1, A1, n1, c1, D1, m1, d1, s2, A2, n2, c2, D2, m2, d2, ke, rfl, F3, b3⟩
              have y3 : Below w2.heap.size w2 W3 := bb y2 b3
              have P13 := Box.below' P12 b3
              have G13 := G12
              have P23 := Box.below' P22 b3
              have G23 := G22
              (try go_wp2_with fail)
              refine hK.out _ _ (HS.out _ y3) (fun hHeld => ?_)
              clear hK K
              try simp only [Act.put, List.setIfInBounds_toArray, List.set_cons_zero, List.set_cons_succ, List.getElem_toArray, List.getElem_cons_zero, List.getElem_cons_succ]
              refine wpAnyH_take (i := 21) (v := ?_) rfl (by kernel_rfl) (by kernel_rfl) (by kernel_rfl) (fun _ _ _ h => h) (Or.inl ⟨by kernel_rfl, ?_⟩) (by assumption) ?_
              rotate_left
              · intro w hSw
                (try dsimp only at hSw)
                go_simp
                (try with_reducible rfl)
              try simp only [Act.put, List.setIfInBounds_toArray, List.set_cons_zero, List.set_cons_succ, List.getElem_toArray, List.getElem_cons_zero, List.getElem_cons_succ]
              refine wpAnyH_take (i := 22) (v := ?_) rfl (by kernel_rfl) (by kernel_rfl) (by kernel_rfl) (fun _ _ _ h => h) (Or.inl ⟨by kernel_rfl, ?_⟩) (by assumption) ?_
              rotate_left
              · intro w hSw
                (try dsimp only at hSw)
                go_simp
                (try with_reducible rfl)
              try simp only [Act.put, List.setIfInBounds_toArray, List.set_cons_zero, List.set_cons_succ, List.getElem_toArray, List.getElem_cons_zero, List.getElem_cons_succ]
              refine wpAnyH_take (i := 23) (v := ?_) rfl (by kernel_rfl) (by kernel_rfl) (by kernel_rfl) (fun _ _ _ h => h) (Or.inl ⟨by kernel_rfl, ?_⟩) (by assumption) ?_
              rotate_left
              · intro w hSw
                (try dsimp only at hSw)
                go_simp
                (try with_reducible rfl)
              try simp only [Act.put, List.setIfInBounds_toArray, List.set_cons_zero, List.set_cons_succ, List.getElem_toArray, List.getElem_cons_zero, List.getElem_cons_succ]
              refine wpAnyH_take (i := 24) (v := ?_) rfl (by kernel_rfl) (by kernel_rfl) (by kernel_rfl) (fun _ _ _ h => h) (Or.inl ⟨by kernel_rfl, ?_⟩) (by assumption) ?_
              rotate_left
              · intro w hSw
                (try dsimp only at hSw)
                go_simp
                (try with_reducible rfl)
              try simp only [Act.put, List.setIfInBounds_toArray, List.set_cons_zero, List.set_cons_succ, List.getElem_toArray, List.getElem_cons_zero, List.getElem_cons_succ]
              refine wpAnyH_ready (rs := [27]) (by kernel_rfl) (by simp) ?_
              refine AllReadyH.cons rfl (fun K hK => ?_) AllReadyH.nil
              obtain ⟨⟨r0, r1, r2⟩, f0, f1, f2⟩ := Box.three (show Box 45 W3 (w2.heap.size) #[.bool false, .slice none 0 0, .slice none 0 0] from P13)
              go_simp
              obtain ⟨W4, hW⟩ : ∃ Z, put3 W3 (w2.heap.size) (.bool s1) (.slice A1 n1 c1) (.slice D1 m1 d1) = Z := ⟨_, rfl⟩
              have y4 : Below w2.heap.size w2 W4 := by rw [← hW]; exact below_put3 y3 G13 (Nat.le_refl _) _ _ _
              have P14 : NV.box W4 (w2.heap.size) ⟨s1, A1, n1, c1, D1, m1, d1⟩ := by rw [← hW]; exact box_self P13 _ _ _
              have G14 := G13
              have P24 := Box.put3 P23 (g' := w2.heap.size) (by first | exact NE | exact NE.symm) (.bool s1) (.slice A1 n1 c1) (.slice D1 m1 d1)
              rw [hW] at P24
              have G24 := G23
              have F4 := F3.put3 (g := w2.heap.size) (show IsBox 45 W3 (w2.heap.size) from ⟨false, none, 0, 0, none, 0, 0, P13⟩) (.bool s1) (.slice A1 n1 c1) (.slice D1 m1 d1)
              rw [hW] at F4
              unfold put3 at hW
              (try rw [hW])
              clear hW r0 r1 r2 f0 f1 f2
              (try go_wp2_with fail)
              refine hK.out _ _ (HS.out _ y4) (fun hHeld => ?_)
              clear hK K
              try simp only [Act.put, List.setIfInBounds_toArray, List.set_cons_zero, List.set_cons_succ, List.getElem_toArray, List.getElem_cons_zero, List.getElem_cons_succ]
              refine wpAnyH_ready (rs := [28]) (by kernel_rfl) (by simp) ?_
              refine AllReadyH.cons rfl (fun K hK => ?_) AllReadyH.nil
              obtain ⟨⟨r0, r1, r2⟩, f0, f1, f2⟩ := Box.three (show Box 45 W4 (W1.heap.size) #[.bool false, .slice none 0 0, .slice none 0 0] from P24)
              go_simp
              obtain ⟨W5, hW⟩ : ∃ Z, put3 W4 (W1.heap.size) (.bool s2) (.slice A2 n2 c2) (.slice D2 m2 d2) = Z := ⟨_, rfl⟩
              have y5 : Below w2.heap.size w2 W5 := by rw [← hW]; exact below_put3 y4 G24 (Nat.le_refl _) _ _ _
              have P25 : NV.box W5 (W1.heap.size) ⟨s2, A2, n2, c2, D2, m2, d2⟩ := by rw [← hW]; exact box_self P24 _ _ _
              have G25 := G24
              have P15 := Box.put3 P14 (g' := W1.heap.size) (by first | exact NE | exact NE.symm) (.bool s2) (.slice A2 n2 c2) (.slice D2 m2 d2)
              rw [hW] at P15
              have G15 := G14
              have F5 := F4.put3 (g := W1.heap.size) (show IsBox 45 W4 (W1.heap.size) from ⟨false, none, 0, 0, none, 0, 0, P24⟩) (.bool s2) (.slice A2 n2 c2) (.slice D2 m2 d2)
              rw [hW] at F5
              unfold put3 at hW
              (try rw [hW])
              clear hW r0 r1 r2 f0 f1 f2
              (try go_wp2_with fail)
              refine hK.out _ _ (HS.out _ y5) (fun hHeld => ?_)
              clear hK K
              try simp only [Act.put, List.setIfInBounds_toArray, List.set_cons_zero, List.set_cons_succ, List.getElem_toArray, List.getElem_cons_zero, List.getElem_cons_succ]
              refine wpAnyH_take (i := 29) (v := ?_) rfl (by kernel_rfl) (by kernel_rfl) (by kernel_rfl) (fun _ _ _ h => h) (Or.inl ⟨by kernel_rfl, ?_⟩) (by assumption) ?_
              rotate_left
              · intro w hSw
                (try dsimp only at hSw)
                go_simp
                (try with_reducible rfl)
              try simp only [Act.put, List.setIfInBounds_toArray, List.set_cons_zero, List.set_cons_succ, List.getElem_toArray, List.getElem_cons_zero, List.getElem_cons_succ]
              refine wpAnyH_done (by kernel_rfl) ?_ _
              go_wp2_with fail
              go_meet
              exact ⟨_, _, ⟨s1, A1, n1, c1, D1, m1, d1⟩, ⟨s2, A2, n2, c2, D2, m2, d2⟩, _, rfl, rfl, rfl, G15, G25, P15, P25, F5, y5⟩
          · skip
            go_simp
            obtain ⟨W1, hW, P21, b1⟩ := box0 45 w2.drew Z3
            unfold Z3 at hW
            replace hW : (w2.alloc (.cells #[.bool false, .slice none 0 0, .slice none 0 0] 45)).drew = W1 := hW
            replace P21 : Box 45 W1 w2.heap.size Z3 := P21
            rw [hW]
            clear hW
            have y1 : Below w2.heap.size w2 W1 := bb y0 b1
            have G21 : w2.heap.size ≤ w2.heap.size := y0.size
            (try go_wp2_with fail)
            refine hK.out _ _ (HS.out _ y1) (fun hHeld => ?_)
            clear hK K
            try simp only [Act.put, List.setIfInBounds_toArray, List.set_cons_zero, List.set_cons_succ, List.getElem_toArray, List.getElem_cons_zero, List.getElem_cons_succ]
            refine wpAnyH_ready (rs := [20, 25]) (by kernel_rfl) (by simp) ?_
            refine AllReadyH.cons rfl (fun K hK => ?_) (AllReadyH.cons rfl (fun K hK => ?_) AllReadyH.nil)
            · skip
              go_simp
              with_reducible refine (HGV.out _ y1).mono ?_
              rintro _ W2 ⟨s1, A1, n1, c1, D1, m1, d1, s2, A2, n2, c2, D2, m2, d2, ke, rfl, F2, b2⟩
              have y2 : Below w2.heap.size w2 W2 := bb y1 b2
              have P22 := Box.below' P21 b2
              have G22 := G21
              (try go_wp2_with fail)
              refine hK.out _ _ (HS.out _ y2) (fun hHeld => ?_)
              clear hK K
              try simp only [Act.put, List.setIfInBounds_toArray, List.set_cons_zero, List.set_cons_succ, List.getElem_toArray, List.getElem_cons_zero, List.getElem_cons_succ]
              refine wpAnyH_take (i := 21) (v := ?_) rfl (by kernel_rfl) (by kernel_rfl) (by kernel_rfl) (fun _ _ _ h => h) (Or.inl ⟨by kernel_rfl, ?_⟩) (by assumption) ?_
              rotate_left
              · intro w hSw
                (try dsimp only at hSw)
                go_simp
                (try with_reducible rfl)
              try simp only [Act.put, List.setIfInBounds_toArray, List.set_cons_zero, List.set_cons_succ, List.getElem_toArray, List.getElem_cons_zero, List.getElem_cons_succ]
              refine wpAnyH_take (i := 22) (v := ?_) rfl (by kernel_rfl) (by kernel_rfl) (by kernel_rfl) (fun _ _ _ h => h) (Or.inl ⟨by kernel_rfl, ?_⟩) (by assumption) ?_
              rotate_left
              · intro w hSw
                (try dsimp only at hSw)
                go_simp
                (try with_reducible rfl)
              try simp only [Act.put, List.setIfInBounds_toArray, List.set_cons_zero, List.set_cons_succ, List.getElem_toArray, List.getElem_cons_zero, List.getElem_cons_succ]
              refine wpAnyH_take (i := 23) (v := ?_) rfl (by kernel_rfl) (by kernel_rfl) (by kernel_rfl) (fun _ _ _ h => h) (Or.inl ⟨by kernel_rfl, ?_⟩) (by assumption) ?_
              rotate_left
              · intro w hSw
                (try dsimp only at hSw)
                go_simp
                (try with_reducible rfl)
              try simp only [Act.put, List.setIfInBounds_toArray, List.set_cons_zero, List.set_cons_succ, List.getElem_toArray, List.getElem_cons_zero, List.getElem_cons_succ]
              refine wpAnyH_take (i := 24) (v := ?_) rfl (by kernel_rfl) (by kernel_rfl) (by kernel_rfl) (fun _ _ _ h => h) (Or.inl ⟨by kernel_rfl, ?_⟩) (by assumption) ?_
              rotate_left
              · intro w hSw
                (try dsimp only at hSw)
                go_simp
                (try with_reducible rfl)
              try simp only [Act.put, List.setIfInBounds_toArray, List.set_cons_zero, List.set_cons_succ, List.getElem_toArray, List.getElem_cons_zero, List.getElem_cons_succ]
              refine wpAnyH_ready (rs := [25]) (by kernel_rfl) (by simp) ?_
              refine AllReadyH.cons rfl (fun K hK => ?_) AllReadyH.nil
              go_simp
              obtain ⟨W3, hW, P13, b3⟩ := box0 45 W2 Z3
              unfold Z3 at hW
              rw [hW]
              clear hW
              have y3 : Below w2.heap.size w2 W3 := bb y2 b3
              have G13 : w2.heap.size ≤ W2.heap.size := y2.size
              have NE := Nat.ne_of_lt (Box.lt P22)
              have P23 := Box.below' P22 b3
              have G23 := G22
              have F3 := F2.below b3
              (try go_wp2_with fail)
              refine hK.out _ _ (HS.out _ y3) (fun hHeld => ?_)
              clear hK K
              try simp only [Act.put, List.setIfInBounds_toArray, List.set_cons_zero, List.set_cons_succ, List.getElem_toArray, List.getElem_cons_zero, List.getElem_cons_succ]
              refine wpAnyH_ready (rs := [27]) (by kernel_rfl) (by simp) ?_
              refine AllReadyH.cons rfl (fun K hK => ?_) AllReadyH.nil
              obtain ⟨⟨r0, r1, r2⟩, f0, f1, f2⟩ := Box.three (show Box 45 W3 (W2.heap.size) #[.bool false, .slice none 0 0, .slice none 0 0] from P13)
              go_simp
              obtain ⟨W4, hW⟩ : ∃ Z, put3 W3 (W2.heap.size) (.bool s1) (.slice A1 n1 c1) (.slice D1 m1 d1) = Z := ⟨_, rfl⟩
              have y4 : Below w2.heap.size w2 W4 := by rw [← hW]; exact below_put3 y3 G13 (Nat.le_refl _) _ _ _
              have P14 : NV.box W4 (W2.heap.size) ⟨s1, A1, n1, c1, D1, m1, d1⟩ := by rw [← hW]; exact box_self P13 _ _ _
              have G14 := G13
              have P24 := Box.put3 P23 (g' := W2.heap.size) (by first | exact NE | exact NE.symm) (.bool s1) (.slice A1 n1 c1) (.slice D1 m1 d1)
              rw [hW] at P24
              have G24 := G23
              have F4 := F3.put3 (g := W2.heap.size) (show IsBox 45 W3 (W2.heap.size) from ⟨false, none, 0, 0, none, 0, 0, P13⟩) (.bool s1) (.slice A1 n1 c1) (.slice D1 m1 d1)
              rw [hW] at F4
              unfold put3 at hW
              (try rw [hW])
              clear hW r0 r1 r2 f0 f1 f2
              (try go_wp2_with fail)
              refine hK.out _ _ (HS.out _ y4) (fun hHeld => ?_)
              clear hK K
              try simp only [Act.put, List.setIfInBounds_toArray, List.set_cons_zero, List.set_cons_succ, List.getElem_toArray, List.getElem_cons_zero, List.getElem_cons_succ]
              refine wpAnyH_ready (rs := [28]) (by kernel_rfl) (by simp) ?_
              refine AllReadyH.cons rfl (fun K hK => ?_) AllReadyH.nil
              obtain ⟨⟨r0, r1, r2⟩, f0, f1, f2⟩ := Box.three (show Box 45 W4 (w2.heap.size) #[.bool false, .slice none 0 0, .slice none 0 0] from P24)
              go_simp
              obtain ⟨W5, hW⟩ : ∃ Z, put3 W4 (w2.heap.size) (.bool s2) (.slice A2 n2 c2) (.slice D2 m2 d2) = Z := ⟨_, rfl⟩
              have y5 : Below w2.heap.size w2 W5 := by rw [← hW]; exact below_put3 y4 G24 (Nat.le_refl _) _ _ _
              have P25 : NV.box W5 (w2.heap.size) ⟨s2, A2, n2, c2, D2, m2, d2⟩ := by rw [← hW]; exact box_self P24 _ _ _
              have G25 := G24
              have P15 := Box.put3 P14 (g' := w2.heap.size) (by first | exact NE | exact NE.symm) (.bool s2) (.slice A2 n2 c2) (.slice D2 m2 d2)
              rw [hW] at P15
              have G15 := G14
              have F5 := F4.put3 (g := w2.heap.size) (show IsBox 45 W4 (w2.heap.size) from ⟨false, none, 0, 0, none, 0, 0, P24⟩) (.bool s2) (.slice A2 n2 c2) (.slice D2 m2 d2)
              rw [hW] at F5
              unfold put3 at hW
              (try rw [hW])
              clear hW r0 r1 r2 f0 f1 f2
              (try go_wp2_with fail)
              refine hK.out _ _ (HS.out _ y5) (fun hHeld => ?_)
              clear hK K
              try simp only [Act.put, List.setIfInBounds_toArray, List.set_cons_zero, List.set_cons_succ, List.getElem_toArray, List.getElem_cons_zero, List.getElem_cons_succ]
              refine wpAnyH_take (i := 29) (v := ?_) rfl (by kernel_rfl) (by kernel_rfl) (by kernel_rfl) (fun _ _ _ h => h) (Or.inl ⟨by kernel_rfl, ?_⟩) (by assumption) ?_
              rotate_left
              · intro w hSw
                (try dsimp only at hSw)
                go_simp
                (try with_reducible rfl)
              try simp only [Act.put, List.setIfInBounds_toArray, List.set_cons_zero, List.set_cons_succ, List.getElem_toArray, List.getElem_cons_zero, List.getElem_cons_succ]
              refine wpAnyH_done (by kernel_rfl) ?_ _
              go_wp2_with fail
              go_meet
              exact ⟨_, _, ⟨s1, A1, n1, c1, D1, m1, d1⟩, ⟨s2, A2, n2, c2, D2, m2, d2⟩, _, rfl, rfl, rfl, G15, G25, P15, P25, F5, y5⟩
            · skip
              go_simp
              obtain ⟨W2, hW, P12, b2⟩ := box0 45 W1 Z3
              unfold Z3 at hW
              rw [hW]
              clear hW
              have y2 : Below w2.heap.size w2 W2 := bb y1 b2
              have G12 : w2.heap.size ≤ W1.heap.size := y1.size
              have NE := Nat.ne_of_lt (Box.lt P21)
              have P22 := Box.below' P21 b2
              have G22 := G21
              (try go_wp2_with fail)
              refine hK.out _ _ (HS.out _ y2) (fun hHeld => ?_)
              clear hK K
              try simp only [Act.put, List.setIfInBounds_toArray, List.set_cons_zero, List.set_cons_succ, List.getElem_toArray, List.getElem_cons_zero, List.getElem_cons_succ]
              refine wpAnyH_ready (rs := [20]) (by kernel_rfl) (by simp) ?_
              refine AllReadyH.cons rfl (fun K hK => ?_) AllReadyH.nil
              go_simp
              with_reducible refine (HGV.out _ y2).mono ?_
              rintro _ W3 ⟨s1, A1, n1, c1, D1, m1, d1, s2, A2, n2, c2, D2, m2, d2, ke, rfl, F3, b3⟩
              have y3 : Below w2.heap.size w2 W3 := bb y2 b3
              have P13 := Box.below' P12 b3
              have G13 := G12
              have P23 := Box.below' P22 b3
              have G23 := G22
              (try go_wp2_with fail)
              refine hK.out _ _ (HS.out _ y3) (fun hHeld => ?_)
              clear hK K
              try simp only [Act.put, List.setIfInBounds_toArray, List.set_cons_zero, List.set_cons_succ, List.getElem_toArray, List.getElem_cons_zero, List.getElem_cons_succ]
              refine wpAnyH_take (i := 21) (v := ?_) rfl (by kernel_rfl) (by kernel_rfl) (by kernel_rfl) (fun _ _ _ h => h) (Or.inl ⟨by kernel_rfl, ?_⟩) (by assumption) ?_
              rotate_left
              · intro w hSw
                (try dsimp only at hSw)
                go_simp
                (try with_reducible rfl)
              try simp only [Act.put, List.setIfInBounds_toArray, List.set_cons_zero, List.set_cons_succ, List.getElem_toArray, List.getElem_cons_zero, List.getElem_cons_succ]
              refine wpAnyH_take (i := 22) (v := ?_) rfl (by kernel_rfl) (by kernel_rfl) (by kernel_rfl) (fun _ _ _ h => h) (Or.inl ⟨by kernel_rfl, ?_⟩) (by assumption) ?_
              rotate_left
              · intro w hSw
                (try dsimp only at hSw)
                go_simp
                (try with_reducible rfl)
              try simp only [Act.put, List.setIfInBounds_toArray, List.set_cons_zero, List.set_cons_succ, List.getElem_toArray, List.getElem_cons_zero, List.getElem_cons_succ]
              refine wpAnyH_take (i := 23) (v := ?_) rfl (by kernel_rfl) (by kernel_rfl) (by kernel_rfl) (fun _ _ _ h => h) (Or.inl ⟨by kernel_rfl, ?_⟩) (by assumption) ?_
              rotate_left
              · intro w hSw
                (try dsimp only at hSw)
                go_simp
                (try with_reducible rfl)
              try simp only [Act.put, List.setIfInBounds_toArray, List.set_cons_zero, List.set_cons_succ, List.getElem_toArray, List.getElem_cons_zero, List.getElem_cons_succ]
              refine wpAnyH_take (i := 24) (v := ?_) rfl (by kernel_rfl) (by kernel_rfl) (by kernel_rfl) (fun _ _ _ h => h) (Or.inl ⟨by kernel_rfl, ?_⟩) (by assumption) ?_
              rotate_left
              · intro w hSw
                (try dsimp only at hSw)
                go_simp
                (try with_reducible rfl)
              try simp only [Act.put, List.setIfInBounds_toArray, List.set_cons_zero, List.set_cons_succ, List.getElem_toArray, List.getElem_cons_zero, List.getElem_cons_succ]
              refine wpAnyH_ready (rs := [27]) (by kernel_rfl) (by simp) ?_
              refine AllReadyH.cons rfl (fun K hK => ?_) AllReadyH.nil
              obtain ⟨⟨r0, r1, r2⟩, f0, f1, f2⟩ := Box.three (show Box 45 W3 (W1.heap.size) #[.bool false, .slice none 0 0, .slice none 0 0] from P13)
              go_simp
              obtain ⟨W4, hW⟩ : ∃ Z, put3 W3 (W1.heap.size) (.bool s1) (.slice A1 n1 c1) (.slice D1 m1 d1) = Z := ⟨_, rfl⟩
              have y4 : Below w2.heap.size w2 W4 := by rw [← hW]; exact below_put3 y3 G13 (Nat.le_refl _) _ _ _
              have P14 : NV.box W4 (W1.heap.size) ⟨s1, A1, n1, c1, D1, m1, d1⟩ := by rw [← hW]; exact box_self P13 _ _ _
              have G14 := G13
              have P24 := Box.put3 P23 (g' := W1.heap.size) (by first | exact NE | exact NE.symm) (.bool s1) (.slice A1 n1 c1) (.slice D1 m1 d1)
              rw [hW] at P24
              have G24 := G23
              have F4 := F3.put3 (g := W1.heap.size) (show IsBox 45 W3 (W1.heap.size) from ⟨false, none, 0, 0, none, 0, 0, P13⟩) (.bool s1) (.slice A1 n1 c1) (.slice D1 m1 d1)
              rw [hW] at F4
              unfold put3 at hW
              (try rw [hW])
              clear hW r0 r1 r2 f0 f1 f2
              (try go_wp2_with fail)
              refine hK.out _ _ (HS.out _ y4) (fun hHeld => ?_)
              clear hK K
              try simp only [Act.put, List.setIfInBounds_toArray, List.set_cons_zero, List.set_cons_succ, List.getElem_toArray, List.getElem_cons_zero, List.getElem_cons_succ]
              refine wpAnyH_ready (rs := [28]) (by kernel_rfl) (by simp) ?_
              refine AllReadyH.cons rfl (fun K hK => ?_) AllReadyH.nil
              obtain ⟨⟨r0, r1, r2⟩, f0, f1, f2⟩ := Box.three (show Box 45 W4 (w2.heap.size) #[.bool false, .slice none 0 0, .slice none 0 0] from P24)
              go_simp
              obtain ⟨W5, hW⟩ : ∃ Z, put3 W4 (w2.heap.size) (.bool s2) (.slice A2 n2 c2) (.slice D2 m2 d2) = Z := ⟨_, rfl⟩
              have y5 : Below w2.heap.size w2 W5 := by rw [← hW]; exact below_put3 y4 G24 (Nat.le_refl _) _ _ _
              have P25 : NV.box W5 (w2.heap.size) ⟨s2, A2, n2, c2, D2, m2, d2⟩ := by rw [← hW]; exact box_self P24 _ _ _
              have G25 := G24
              have P15 := Box.put3 P14 (g' := w2.heap.size) (by first | exact NE | exact NE.symm) (.bool s2) (.slice A2 n2 c2) (.slice D2 m2 d2)
              rw [hW] at P15
              have G15 := G14
              have F5 := F4.put3 (g := w2.heap.size) (show IsBox 45 W4 (w2.heap.size) from ⟨false, none, 0, 0, none, 0, 0, P24⟩) (.bool s2) (.slice A2 n2 c2) (.slice D2 m2 d2)
              rw [hW] at F5
              unfold put3 at hW
              (try rw [hW])
              clear hW r0 r1 r2 f0 f1 f2
              (try go_wp2_with fail)
              refine hK.out _ _ (HS.out _ y5) (fun hHeld => ?_)
              clear hK K
              try simp only [Act.put, List.setIfInBounds_toArray, List.set_cons_zero, List.set_cons_succ, List.getElem_toArray, List.getElem_cons_zero, List.getElem_cons_succ]
              refine wpAnyH_take (i := 29) (v := ?_) rfl (by kernel_rfl) (by kernel_rfl) (by kernel_rfl) (fun _ _ _ h => h) (Or.inl ⟨by kernel_rfl, ?_⟩) (by assumption) ?_
              rotate_left
              · intro w hSw
                (try dsimp only at hSw)
                go_simp
                (try with_reducible rfl)
              try simp only [Act.put, List.setIfInBounds_toArray, List.set_cons_zero, List.set_cons_succ, List.getElem_toArray, List.getElem_cons_zero, List.getElem_cons_succ]
              refine wpAnyH_done (by kernel_rfl) ?_ _
              go_wp2_with fail
              go_meet
              exact ⟨_, _, ⟨s1, A1, n1, c1, D1, m1, d1⟩, ⟨s2, A2, n2, c2, D2, m2, d2⟩, _, rfl, rfl, rfl, G15, G25, P15, P25, F5, y5⟩
        case rest =>
        obtain ⟨g1, g2, ⟨s_a, A_a, n_a, c_a, D_a, m_a, d_a⟩, ⟨s_b, A_b, n_b, c_b, D_b, m_b, d_b⟩, ke, rfl, rfl, rfl, G1, G2, P1, P2, F, y⟩ := hcut
        obtain ⟨wc, hwc, y⟩ : ∃ wc, wc = _ ∧ Below w2.heap.size w2 wc := ⟨_, rfl, y⟩
        subst hwc
        clear a6 a7 a8 a9 a10 a11 a12 a13 a14 a15 a16 a17 k0_g2 k1_g2 k2_g2
        have HR4 := Lib.hid (HR2.out.below y)
        have HBX4 := Lib.hid (HBx.out.below' (bb HB2.out y))
        have HP1 := Lib.hid P1
        have HP2 := Lib.hid P2
        have HY4 := Lib.hid y
        clear k0 k1 k2 k3 k4 k5
        by_cases ht : tden ⟨op, (ia : Int), (ib : Int), (q.s, q.z, q.z')⟩ (v.getD i 0) v = 0
        · obtain rfl : ke = 4 := F.1 ht
          have hRR := HVE.out h1 _ (giveV_no (by rw [HAR.out]; omega) ht)
          subst hRR
          clear F ht P1 P2 y
          go_wp2_with fail
          go_ret3
          exact ⟨rfl, HR4.out.b⟩
        obtain ⟨hk0, qa, qb⟩ := F.2 ht
        subst hk0
        have hVK := HVK.out h1
        obtain ⟨X1, hX1⟩ : ∃ X1, G * dA ⟨op, (ia : Int), (ib : Int), (q.s, q.z, q.z')⟩ (v.getD i 0) v = X1 := ⟨_, rfl⟩
        obtain ⟨X2, hX2⟩ : ∃ X2, G * dB ⟨op, (ia : Int), (ib : Int), (q.s, q.z, q.z')⟩ (v.getD i 0) v = X2 := ⟨_, rfl⟩
        have zX1 : Sz X1 257 := by rw [← hX1]; exact (zG.mul (dA_sz HQY.out HZV.out)).mono (by omega)
        have zX2 : Sz X2 257 := by rw [← hX2]; exact (zG.mul (dB_sz HQY.out HZV.out)).mono (by omega)
        have hV1 : arity op = 1 → GR = giveTo v (xs.map RI.pi) i (addAt has ia X1, ins) := fun h9 => hVK _ (giveV_one h9 ht hX1)
        have hV2 : arity op = 2 → GR = giveTo v (xs.map RI.pi) i (addAt (addAt has ia X1) ib X2, ins) := fun h9 => hVK _ (giveV_two h9 ht hX1 hX2)
        simp only [hX1] at qa
        simp only [hX2] at qb
        rw [HAR.out] at hV1 hV2
        have hA12 := HA12.out
        rw [HAR.out] at hA12
        have qb' : ar = 2 → NV.q wc ⟨s_b, A_b, n_b, c_b, D_b, m_b, d_b⟩ X2 := fun h9 => qb (by show arity op = 2; rw [HAR.out]; exact h9)
        have HV1 := Lib.hid hV1
        have HV2 := Lib.hid hV2
        have HQA := Lib.hid qa
        have HQB := Lib.hid qb'
        have HF1 := Lib.hid (HF.out.1.add (i := ia) (by omega) zX1 (by omega))
        have HF2 := Lib.hid (HF1.out.add (i := ib) (by omega) zX2 (by omega))
        have hg1 : ga < wr.heap.size := HX.out.h.lt.1
        have hg2 : wr.heap.size < w2.heap.size := by have := HSV.out; have := HB2.out.size; omega
        have hn1 : g1 ≠ ga := by omega
        have hn2 : g2 ≠ ga := by omega
        have hn0 : wr.heap.size ≠ ga := by omega
        clear hV1 hV2 hVK qa qb qb' hX1 hX2 ht F P1 P2 G1 G2 y HVE HVK HA12 HHA
        obtain ⟨s_h, A_h, n_h, c_h2, D_h, m_h, d_h, k0_h, k1_h, k2_h, q_h, _⟩ := HR4.out.h.at_ ia2
        have zH := getD_sz HF.out.1.sz (by omega) ia
        have AD := ref_qaddT (N := 40000) (q_h.below (Below.refl _ wc).drew) (Q.below HQA.out (Below.refl _ wc).drew) (zH.mono (by omega)) (zX1.mono (by omega)) (by omega) (HF.out.1.tz ia zX1 (by omega))
        have zs : Sz ((has).getD ia 0 + X1) 1000000 := (zH.add zX1).mono (by omega)
        have hS : ∀ w', Below wc.heap.size wc w' → w'.cell? ⟨wr.heap.size, 1, none⟩ = some (.int .i64 (ia : Int)) ∧ w'.cell? ⟨g1, 0, none⟩ = some (.bool s_a) ∧ w'.cell? ⟨g1, 1, none⟩ = some (.slice A_a n_a c_a) ∧ w'.cell? ⟨g1, 2, none⟩ = some (.slice D_a m_a d_a) := fun w' hb9 => ⟨(Box.below' HBX4.out hb9).six.1.2.1, (Box.below' HP1.out hb9).three.1.1, (Box.below' HP1.out hb9).three.1.2.1, (Box.below' HP1.out hb9).three.1.2.2⟩
        have hP : ∀ (w' : World) (z0 z1 z2 : Value), Below wc.heap.size wc w' → (fun w' : World => w'.cell? ⟨wr.heap.size, 1, none⟩ = some (.int .i64 (ia : Int)) ∧ w'.cell? ⟨g1, 0, none⟩ = some (.bool s_a) ∧ w'.cell? ⟨g1, 1, none⟩ = some (.slice A_a n_a c_a) ∧ w'.cell? ⟨g1, 2, none⟩ = some (.slice D_a m_a d_a)) (put3o w' ga (ia * 3) z0 z1 z2) := fun w' z0 z1 z2 hb9 => by
          have BX := Box.put3o (o := ia * 3) (Box.below' HBX4.out hb9) hn0 z0 z1 z2
          have PX := Box.put3o (o := ia * 3) (Box.below' HP1.out hb9) hn1 z0 z1 z2
          exact ⟨BX.six.1.2.1, PX.three.1.1, PX.three.1.2.1, PX.three.1.2.2⟩
        have hsx : addAt (has) ia X1 = (has).set ia ((has).getD ia 0 + X1) := rfl
        generalize (has).getD ia 0 + X1 = SMa at *
        have HAD := Lib.hid AD
        have HSa := Lib.hid hS
        have HPP := Lib.hid hP
        have HSX := Lib.hid hsx
        have HZS := Lib.hid zs
        have h00 : (0 : Int) ≤ (ia : Int) := by omega
        clear AD hS hP hsx zs zH q_h
        go_wp2_with fail
        refine wp_region_held_drew (S := fun w' => w'.cell? ⟨wr.heap.size, 1, none⟩ = some (.int .i64 (ia : Int)) ∧ w'.cell? ⟨g1, 0, none⟩ = some (.bool s_a) ∧ w'.cell? ⟨g1, 1, none⟩ = some (.slice A_a n_a c_a) ∧ w'.cell? ⟨g1, 2, none⟩ = some (.slice D_a m_a d_a)) (by kernel_rfl) (HSa.out _ (Below.refl _ wc).drew) (fun hHeld => ?_)
        refine wpAnyH_take (i := 0) (v := ?_) rfl (by kernel_rfl) (by kernel_rfl) (by kernel_rfl) (fun _ _ _ h => h) (Or.inl ⟨by kernel_rfl, ?_⟩) (by assumption) ?_
        rotate_left
        · intro w hSw
          (try dsimp only at hSw)
          go_simp
          (try with_reducible rfl)
        try simp only [Act.put, List.setIfInBounds_toArray, List.set_cons_zero, List.set_cons_succ, List.getElem_toArray, List.getElem_cons_zero, List.getElem_cons_succ]
        refine wpAnyH_take (i := 1) (v := ?_) rfl (by kernel_rfl) (by kernel_rfl) (by kernel_rfl) (fun _ _ _ h => h) (Or.inl ⟨by kernel_rfl, ?_⟩) (by assumption) ?_
        rotate_left
        · intro w hSw
          (try dsimp only at hSw)
          go_simp
          (try with_reducible rfl)
        try simp only [Act.put, List.setIfInBounds_toArray, List.set_cons_zero, List.set_cons_succ, List.getElem_toArray, List.getElem_cons_zero, List.getElem_cons_succ]
        refine wpAnyH_take (i := 2) (v := ?_) rfl (by kernel_rfl) (by kernel_rfl) (by kernel_rfl) (fun _ _ _ h => h) (Or.inl ⟨by kernel_rfl, ?_⟩) (by assumption) ?_
        rotate_left
        · intro w hSw
          (try dsimp only at hSw)
          go_simp
          (try with_reducible rfl)
        try simp only [Act.put, List.setIfInBounds_toArray, List.set_cons_zero, List.set_cons_succ, List.getElem_toArray, List.getElem_cons_zero, List.getElem_cons_succ]
        refine wpAnyH_take (i := 3) (v := ?_) rfl (by kernel_rfl) (by kernel_rfl) (by kernel_rfl) (fun _ _ _ h => h) (Or.inl ⟨by kernel_rfl, ?_⟩) (by assumption) ?_
        rotate_left
        · intro w hSw
          (try dsimp only at hSw)
          go_simp
          (try with_reducible rfl)
        try simp only [Act.put, List.setIfInBounds_toArray, List.set_cons_zero, List.set_cons_succ, List.getElem_toArray, List.getElem_cons_zero, List.getElem_cons_succ]
        refine wpAnyH_take (i := 4) (v := ?_) rfl (by kernel_rfl) (by kernel_rfl) (by kernel_rfl) (fun _ _ _ h => h) (Or.inl ⟨by kernel_rfl, ?_⟩) (by assumption) ?_
        rotate_left
        · intro w hSw
          (try dsimp only at hSw)
          go_simp
          (try with_reducible rfl)
        try simp only [Act.put, List.setIfInBounds_toArray, List.set_cons_zero, List.set_cons_succ, List.getElem_toArray, List.getElem_cons_zero, List.getElem_cons_succ]
        refine wpAnyH_take (i := 5) (v := ?_) rfl (by kernel_rfl) (by kernel_rfl) (by kernel_rfl) (fun _ _ _ h => h) (Or.inl ⟨by kernel_rfl, ?_⟩) (by assumption) ?_
        rotate_left
        · intro w hSw
          (try dsimp only at hSw)
          go_simp
          (try with_reducible rfl)
        try simp only [Act.put, List.setIfInBounds_toArray, List.set_cons_zero, List.set_cons_succ, List.getElem_toArray, List.getElem_cons_zero, List.getElem_cons_succ]
        refine wpAnyH_take (i := 6) (v := ?_) rfl (by kernel_rfl) (by kernel_rfl) (by kernel_rfl) (fun _ _ _ h => h) (Or.inl ⟨by kernel_rfl, ?_⟩) (by assumption) ?_
        rotate_left
        · intro w hSw
          (try dsimp only at hSw)
          go_simp
          (try with_reducible rfl)
        try simp only [Act.put, List.setIfInBounds_toArray, List.set_cons_zero, List.set_cons_succ, List.getElem_toArray, List.getElem_cons_zero, List.getElem_cons_succ]
        refine wpAnyH_take (i := 8) (v := ?_) rfl (by kernel_rfl) (by kernel_rfl) (by kernel_rfl) (fun _ _ _ h => h) (Or.inl ⟨by kernel_rfl, ?_⟩) (by assumption) ?_
        rotate_left
        · intro w hSw
          (try dsimp only at hSw)
          go_simp
          (try with_reducible rfl)
        try simp only [Act.put, List.setIfInBounds_toArray, List.set_cons_zero, List.set_cons_succ, List.getElem_toArray, List.getElem_cons_zero, List.getElem_cons_succ]
        refine wpAnyH_ready (rs := [7]) (by kernel_rfl) (by simp) ?_
        refine AllReadyH.cons rfl (fun K hK => ?_) AllReadyH.nil
        go_simp
        (try go_wp2_with fail)
        refine hK.out _ _ (HSa.out _ (Below.refl _ wc).drew) (fun hHeld => ?_)
        clear hK K
        try simp only [Act.put, List.setIfInBounds_toArray, List.set_cons_zero, List.set_cons_succ, List.getElem_toArray, List.getElem_cons_zero, List.getElem_cons_succ]
        refine wpAnyH_ready (rs := [9]) (by kernel_rfl) (by simp) ?_
        refine AllReadyH.cons rfl (fun K hK => ?_) AllReadyH.nil
        go_simp
        with_reducible refine HAD.out.mono ?_
        rintro _ w9 ⟨s9, A9, n9, c9, D9, m9, d9, rfl, q9, b9⟩
        have x9 : Below wc.heap.size wc w9 := Below.undrew b9
        have R9 := HR4.out.below x9
        obtain ⟨_, _, _, _, _, _, _, _, _, _, _, f0, f1, f2⟩ := R9.h.at_ ia2
        have R10 := R9.puth ia2 q9 HZS.out (by omega)
        have HR10 := Lib.hid R10
        have HR9 := Lib.hid R9
        clear R9 R10
        (try go_wp2_with fail)
        refine hK.out _ _ (HSa.out _ x9) (fun hHeld => ?_)
        clear hK K
        try simp only [Act.put, List.setIfInBounds_toArray, List.set_cons_zero, List.set_cons_succ, List.getElem_toArray, List.getElem_cons_zero, List.getElem_cons_succ]
        refine wpAnyH_take (i := 10) (v := ?_) rfl (by kernel_rfl) (by kernel_rfl) (by kernel_rfl) (fun _ _ _ h => h) (Or.inl ⟨by kernel_rfl, ?_⟩) (by assumption) ?_
        rotate_left
        · intro w hSw
          (try dsimp only at hSw)
          go_simp
          (try with_reducible rfl)
        try simp only [Act.put, List.setIfInBounds_toArray, List.set_cons_zero, List.set_cons_succ, List.getElem_toArray, List.getElem_cons_zero, List.getElem_cons_succ]
        refine wpAnyH_ready (rs := [11]) (by kernel_rfl) (by simp) ?_
        refine AllReadyH.cons rfl (fun K hK => ?_) AllReadyH.nil
        go_simp
        (try go_wp2_with fail)
        refine hK.out _ _ (HPP.out _ _ _ _ x9) (fun hHeld => ?_)
        clear hK K
        try simp only [Act.put, List.setIfInBounds_toArray, List.set_cons_zero, List.set_cons_succ, List.getElem_toArray, List.getElem_cons_zero, List.getElem_cons_succ]
        refine wpAnyH_done (by kernel_rfl) ?_ _
        have HBX9 := Lib.hid (Box.put3o (o := ia * 3) (Box.below' HBX4.out x9) hn0 (.bool s9) (.slice A9 n9 c9) (.slice D9 m9 d9))
        have HP9 := Lib.hid (Box.put3o (o := ia * 3) (Box.below' HP2.out x9) hn2 (.bool s9) (.slice A9 n9 c9) (.slice D9 m9 d9))
        have HQB9 : Hid (ar = 2 → NV.q (put3o w9 ga (ia * 3) (.bool s9) (.slice A9 n9 c9) (.slice D9 m9 d9)) ⟨s_b, A_b, n_b, c_b, D_b, m_b, d_b⟩ X2) := Lib.hid fun h9 => Q.keepN (Q.below (HQB.out h9) x9) HR9.out.h.noW (keep_put3o _ _ _ _ _ _)
        obtain ⟨W9, hW9⟩ : ∃ W, put3o w9 ga (ia * 3) (.bool s9) (.slice A9 n9 c9) (.slice D9 m9 d9) = W := ⟨_, rfl⟩
        simp only [hW9] at HR10 HBX9 HP9 HQB9
        rw [← HSX.out] at HR10
        unfold put3o at hW9
        clear HR9 HAD HPP HSX HZS f0 f1 f2 k0_h k1_h k2_h
        have HR9 := HR10
        clear HR10
        go_upto_region 30 with (fail)
        (try rw [hW9])
        clear hW9
        have hKK := HBX9.out.six.1
        obtain ⟨kk0, kk1, kk2, _⟩ := hKK
        rcases hA12 with h9 | h9
        · subst h9
          have HV9 := Lib.hid (HV1.out rfl)
          go_wp2_with fail
          with_reducible refine (AR _).out.mono ?_
          rintro _ _ ⟨rfl, rfl⟩
          go_wp2_with fail
          go_roundw
          case rel => exact ⟨i, (i : Int) - 1, addAt has ia X1, ins, by omega, by omega, by omega, by go_num, HR9, HV9, Lib.hid ⟨HF1.out.mono (by omega), HF.out.2.mono (by omega)⟩⟩
          case measure => (simp [intOf] <;> omega)
        subst h9
        have HV9 := Lib.hid (HV2.out rfl)
        have HQ9 := Lib.hid (HQB9.out rfl)
        go_wp2_with fail
        with_reducible refine (AR _).out.mono ?_
        rintro _ _ ⟨rfl, rfl⟩
        go_wp2_with fail
        obtain ⟨s_h, A_h, n_h, c_h2, D_h, m_h, d_h, k0_h, k1_h, k2_h, q_h, _⟩ := HR9.out.h.at_ ib2
        have zH := getD_sz HF1.out.sz (by omega) ib
        have AD := ref_qaddT (N := 40000) (q_h.below (Below.refl _ W9).drew) (Q.below HQ9.out (Below.refl _ W9).drew) (zH.mono (by omega)) (zX2.mono (by omega)) (by omega) (HF1.out.tz ib zX2 (by omega))
        have zs : Sz ((addAt has ia X1).getD ib 0 + X2) 1000000 := (zH.add zX2).mono (by omega)
        have hS : ∀ w', Below W9.heap.size W9 w' → w'.cell? ⟨wr.heap.size, 2, none⟩ = some (.int .i64 (ib : Int)) ∧ w'.cell? ⟨g2, 0, none⟩ = some (.bool s_b) ∧ w'.cell? ⟨g2, 1, none⟩ = some (.slice A_b n_b c_b) ∧ w'.cell? ⟨g2, 2, none⟩ = some (.slice D_b m_b d_b) := fun w' hb9 => ⟨(Box.below' HBX9.out hb9).six.1.2.2.1, (Box.below' HP9.out hb9).three.1.1, (Box.below' HP9.out hb9).three.1.2.1, (Box.below' HP9.out hb9).three.1.2.2⟩
        have hP : ∀ (w' : World) (z0 z1 z2 : Value), Below W9.heap.size W9 w' → (fun w' : World => w'.cell? ⟨wr.heap.size, 2, none⟩ = some (.int .i64 (ib : Int)) ∧ w'.cell? ⟨g2, 0, none⟩ = some (.bool s_b) ∧ w'.cell? ⟨g2, 1, none⟩ = some (.slice A_b n_b c_b) ∧ w'.cell? ⟨g2, 2, none⟩ = some (.slice D_b m_b d_b)) (put3o w' ga (ib * 3) z0 z1 z2) := fun w' z0 z1 z2 hb9 => by
          have BX := Box.put3o (o := ib * 3) (Box.below' HBX9.out hb9) hn0 z0 z1 z2
          have PX := Box.put3o (o := ib * 3) (Box.below' HP9.out hb9) hn2 z0 z1 z2
          exact ⟨BX.six.1.2.2.1, PX.three.1.1, PX.three.1.2.1, PX.three.1.2.2⟩
        have hsx : addAt (addAt has ia X1) ib X2 = (addAt has ia X1).set ib ((addAt has ia X1).getD ib 0 + X2) := rfl
        generalize (addAt has ia X1).getD ib 0 + X2 = SMb at *
        have HAD := Lib.hid AD
        have HSb := Lib.hid hS
        have HPP := Lib.hid hP
        have HSX := Lib.hid hsx
        have HZS := Lib.hid zs
        have h00 : (0 : Int) ≤ (ib : Int) := by omega
        clear AD hS hP hsx zs zH q_h
        refine wp_region_held_drew (S := fun w' => w'.cell? ⟨wr.heap.size, 2, none⟩ = some (.int .i64 (ib : Int)) ∧ w'.cell? ⟨g2, 0, none⟩ = some (.bool s_b) ∧ w'.cell? ⟨g2, 1, none⟩ = some (.slice A_b n_b c_b) ∧ w'.cell? ⟨g2, 2, none⟩ = some (.slice D_b m_b d_b)) (by kernel_rfl) (HSb.out _ (Below.refl _ W9).drew) (fun hHeld => ?_)
        refine wpAnyH_take (i := 0) (v := ?_) rfl (by kernel_rfl) (by kernel_rfl) (by kernel_rfl) (fun _ _ _ h => h) (Or.inl ⟨by kernel_rfl, ?_⟩) (by assumption) ?_
        rotate_left
        · intro w hSw
          (try dsimp only at hSw)
          go_simp
          (try with_reducible rfl)
        try simp only [Act.put, List.setIfInBounds_toArray, List.set_cons_zero, List.set_cons_succ, List.getElem_toArray, List.getElem_cons_zero, List.getElem_cons_succ]
        refine wpAnyH_take (i := 1) (v := ?_) rfl (by kernel_rfl) (by kernel_rfl) (by kernel_rfl) (fun _ _ _ h => h) (Or.inl ⟨by kernel_rfl, ?_⟩) (by assumption) ?_
        rotate_left
        · intro w hSw
          (try dsimp only at hSw)
          go_simp
          (try with_reducible rfl)
        try simp only [Act.put, List.setIfInBounds_toArray, List.set_cons_zero, List.set_cons_succ, List.getElem_toArray, List.getElem_cons_zero, List.getElem_cons_succ]
        refine wpAnyH_take (i := 2) (v := ?_) rfl (by kernel_rfl) (by kernel_rfl) (by kernel_rfl) (fun _ _ _ h => h) (Or.inl ⟨by kernel_rfl, ?_⟩) (by assumption) ?_
        rotate_left
        · intro w hSw
          (try dsimp only at hSw)
          go_simp
          (try with_reducible rfl)
        try simp only [Act.put, List.setIfInBounds_toArray, List.set_cons_zero, List.set_cons_succ, List.getElem_toArray, List.getElem_cons_zero, List.getElem_cons_succ]
        refine wpAnyH_take (i := 3) (v := ?_) rfl (by kernel_rfl) (by kernel_rfl) (by kernel_rfl) (fun _ _ _ h => h) (Or.inl ⟨by kernel_rfl, ?_⟩) (by assumption) ?_
        rotate_left
        · intro w hSw
          (try dsimp only at hSw)
          go_simp
          (try with_reducible rfl)
        try simp only [Act.put, List.setIfInBounds_toArray, List.set_cons_zero, List.set_cons_succ, List.getElem_toArray, List.getElem_cons_zero, List.getElem_cons_succ]
        refine wpAnyH_take (i := 4) (v := ?_) rfl (by kernel_rfl) (by kernel_rfl) (by kernel_rfl) (fun _ _ _ h => h) (Or.inl ⟨by kernel_rfl, ?_⟩) (by assumption) ?_
        rotate_left
        · intro w hSw
          (try dsimp only at hSw)
          go_simp
          (try with_reducible rfl)
        try simp only [Act.put, List.setIfInBounds_toArray, List.set_cons_zero, List.set_cons_succ, List.getElem_toArray, List.getElem_cons_zero, List.getElem_cons_succ]
        refine wpAnyH_take (i := 5) (v := ?_) rfl (by kernel_rfl) (by kernel_rfl) (by kernel_rfl) (fun _ _ _ h => h) (Or.inl ⟨by kernel_rfl, ?_⟩) (by assumption) ?_
        rotate_left
        · intro w hSw
          (try dsimp only at hSw)
          go_simp
          (try with_reducible rfl)
        try simp only [Act.put, List.setIfInBounds_toArray, List.set_cons_zero, List.set_cons_succ, List.getElem_toArray, List.getElem_cons_zero, List.getElem_cons_succ]
        refine wpAnyH_take (i := 6) (v := ?_) rfl (by kernel_rfl) (by kernel_rfl) (by kernel_rfl) (fun _ _ _ h => h) (Or.inl ⟨by kernel_rfl, ?_⟩) (by assumption) ?_
        rotate_left
        · intro w hSw
          (try dsimp only at hSw)
          go_simp
          (try with_reducible rfl)
        try simp only [Act.put, List.setIfInBounds_toArray, List.set_cons_zero, List.set_cons_succ, List.getElem_toArray, List.getElem_cons_zero, List.getElem_cons_succ]
        refine wpAnyH_take (i := 8) (v := ?_) rfl (by kernel_rfl) (by kernel_rfl) (by kernel_rfl) (fun _ _ _ h => h) (Or.inl ⟨by kernel_rfl, ?_⟩) (by assumption) ?_
        rotate_left
        · intro w hSw
          (try dsimp only at hSw)
          go_simp
          (try with_reducible rfl)
        try simp only [Act.put, List.setIfInBounds_toArray, List.set_cons_zero, List.set_cons_succ, List.getElem_toArray, List.getElem_cons_zero, List.getElem_cons_succ]
        refine wpAnyH_ready (rs := [7]) (by kernel_rfl) (by simp) ?_
        refine AllReadyH.cons rfl (fun K hK => ?_) AllReadyH.nil
        go_simp
        (try go_wp2_with fail)
        refine hK.out _ _ (HSb.out _ (Below.refl _ W9).drew) (fun hHeld => ?_)
        clear hK K
        try simp only [Act.put, List.setIfInBounds_toArray, List.set_cons_zero, List.set_cons_succ, List.getElem_toArray, List.getElem_cons_zero, List.getElem_cons_succ]
        refine wpAnyH_ready (rs := [9]) (by kernel_rfl) (by simp) ?_
        refine AllReadyH.cons rfl (fun K hK => ?_) AllReadyH.nil
        go_simp
        with_reducible refine HAD.out.mono ?_
        rintro _ w11 ⟨s9, A9, n9, c9, D9, m9, d9, rfl, q9, b9⟩
        have x9 : Below W9.heap.size W9 w11 := Below.undrew b9
        have R9 := HR9.out.below x9
        obtain ⟨_, _, _, _, _, _, _, _, _, _, _, f0, f1, f2⟩ := R9.h.at_ ib2
        have R10 := R9.puth ib2 q9 HZS.out (by omega)
        have HR10 := Lib.hid R10
        have HR9 := Lib.hid R9
        clear R9 R10
        (try go_wp2_with fail)
        refine hK.out _ _ (HSb.out _ x9) (fun hHeld => ?_)
        clear hK K
        try simp only [Act.put, List.setIfInBounds_toArray, List.set_cons_zero, List.set_cons_succ, List.getElem_toArray, List.getElem_cons_zero, List.getElem_cons_succ]
        refine wpAnyH_take (i := 10) (v := ?_) rfl (by kernel_rfl) (by kernel_rfl) (by kernel_rfl) (fun _ _ _ h => h) (Or.inl ⟨by kernel_rfl, ?_⟩) (by assumption) ?_
        rotate_left
        · intro w hSw
          (try dsimp only at hSw)
          go_simp
          (try with_reducible rfl)
        try simp only [Act.put, List.setIfInBounds_toArray, List.set_cons_zero, List.set_cons_succ, List.getElem_toArray, List.getElem_cons_zero, List.getElem_cons_succ]
        refine wpAnyH_ready (rs := [11]) (by kernel_rfl) (by simp) ?_
        refine AllReadyH.cons rfl (fun K hK => ?_) AllReadyH.nil
        go_simp
        (try go_wp2_with fail)
        refine hK.out _ _ (HPP.out _ _ _ _ x9) (fun hHeld => ?_)
        clear hK K
        try simp only [Act.put, List.setIfInBounds_toArray, List.set_cons_zero, List.set_cons_succ, List.getElem_toArray, List.getElem_cons_zero, List.getElem_cons_succ]
        refine wpAnyH_done (by kernel_rfl) ?_ _
        obtain ⟨W12, hW12⟩ : ∃ W, put3o w11 ga (ib * 3) (.bool s9) (.slice A9 n9 c9) (.slice D9 m9 d9) = W := ⟨_, rfl⟩
        simp only [hW12] at HR10
        rw [← HSX.out] at HR10
        unfold put3o at hW12
        go_wp2_with fail
        (try rw [hW12])
        go_roundw
        case rel => exact ⟨i, (i : Int) - 1, addAt (addAt has ia X1) ib X2, ins, by omega, by omega, by omega, by go_num, HR10, HV9, Lib.hid ⟨HF2.out.mono (by omega), HF.out.2.mono (by omega)⟩⟩
        case measure => (simp [intOf] <;> omega)

end Go.Proofs.YtfhihapgjiaobaaGreat
