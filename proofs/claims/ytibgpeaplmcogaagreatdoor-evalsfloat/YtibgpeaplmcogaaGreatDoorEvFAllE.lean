/-
  Plain mathematics of doubles: numbers p / d in units of the least double; the nearest natural, ties to even; the word of the nearest double; what a word says. No Go in sight. Conditions: those that each theorem names.
-/
import Derived.Test.YtibgpeaplmcogaaGreatDoorPowMathAllE
import Derived.Test.YtibgpeaplmcogaaGreatDoorNatMathOneE
namespace Go.Proofs.YtibgpeaplmcogaaGreatDoor
set_option maxRecDepth 100000
open Go.RowKit
set_option linter.unusedVariables false
set_option linter.unusedSimpArgs false

theorem Box.put3_own {t : TypeId} {w : World} {g : Nat} {v0 v1 v2 : Value} (h : Box t w g #[v0, v1, v2]) (x0 x1 x2 : Value) : Box t (Go.Proofs.YtibgpeaplmcogaaGreatDoor.put3 w g x0 x1 x2) g #[x0, x1, x2] := by
  have key : ∀ (w : World) (vs : Array Value) (i : Nat) (x : Value), Box t w g vs → Box t (w.setCell ⟨g, i, none⟩ x) g (vs.set! i x) := by
    intro w vs i x hb
    unfold Box at hb ⊢
    unfold World.setCell
    simp [Array.getElem?_modify, hb]
  have h1 := key _ _ 2 x2 (key _ _ 1 x1 (key _ _ 0 x0 h))
  exact h1

set_option maxRecDepth 100000 in
set_option maxHeartbeats 4000000 in
theorem ref_exact {w : World} {A B C : Option Addr} {n c m d k f : Nat} {xs : List RI} {is fs : List RQ} (h : SlP w A n c xs) (hs : Shrt 64 xs) (hi : SlR w B m d is) (his : ∀ x ∈ is, x.n ≤ 64 ∧ x.n' ≤ 64) (hf : SlR w C k f fs) (hfs : ∀ x ∈ fs, x.n ≤ 64 ∧ x.n' ≤ 64) (hn : n ≤ 300) (hm : m ≤ 1000) (hk : k ≤ 1000) :
    Calls Tryz.prog 36 #[.slice A n c, .slice B m d, .slice C k f] w (RetEx (exAll (xs.map RI.pi) (allR is) (allR fs) (qvs is) (qvs fs)) w) := by
  have hlen : (xs.map RI.pi).length = n := by rw [List.length_map]; exact h.1.1
  have P1 := ref_right15 h hs (by omega) (by omega)
  have P2 := fun (w1 : World) (hb : Below w.heap.size w w1) => ref_rats (hi.below hb) his (by omega) (by omega)
  have P3 := fun (w1 : World) (hb : Below w.heap.size w w1) => ref_rats (hf.below hb) hfs (by omega) (by omega)
  have hsi := fun hh => slq_of hi his hh
  have hsf := fun hh => slq_of hf hfs hh
  have hp := progB_iff (xs.map RI.pi)
  have hexy := fun hh => @exAll_yes (xs.map RI.pi) (qvs is) (qvs fs) hh
  have hexn := fun hh => @exAll_no (xs.map RI.pi) (allR is) (allR fs) (qvs is) (qvs fs) hh
  have HP1 := Lib.hid P1
  have HP2 := Lib.hid P2
  have HP3 := Lib.hid P3
  clear P1 P2 P3
  generalize qvs is = Is at *
  generalize qvs fs = Fs at *
  generalize progB (xs.map RI.pi) = p at *
  generalize allR is = p2 at *
  generalize allR fs = p3 at *
  cases p
  case false =>
    rw [hexn (by simp)]
    clear hexn hexy hsi hsf hp
    go_enter Tryz.func36, Tryz.ntmps36
    go_wp2_with fail
    with_reducible refine HP1.out.mono ?_
    rintro _ w1 ⟨rfl, b1⟩
    go_wp2_with fail
    go_ret3
    exact ⟨rfl, b1⟩
  case true =>
  cases p2
  case false =>
    rw [hexn (by simp)]
    clear hexn hexy hsi hsf hp
    go_enter Tryz.func36, Tryz.ntmps36
    go_wp2_with fail
    with_reducible refine HP1.out.mono ?_
    rintro _ w1 ⟨rfl, b1⟩
    go_wp2_with fail
    with_reducible refine (HP2.out _ b1).mono ?_
    rintro _ w2 ⟨rfl, b2⟩
    go_wp2_with fail
    go_ret3
    exact ⟨rfl, bb b1 b2⟩
  case true =>
  cases p3
  case false =>
    rw [hexn (by simp)]
    clear hexn hexy hsi hsf hp
    go_enter Tryz.func36, Tryz.ntmps36
    go_wp2_with fail
    with_reducible refine HP1.out.mono ?_
    rintro _ w1 ⟨rfl, b1⟩
    go_wp2_with fail
    with_reducible refine (HP2.out _ b1).mono ?_
    rintro _ w2 ⟨rfl, b2⟩
    go_wp2_with fail
    with_reducible refine (HP3.out _ (bb b1 b2)).mono ?_
    rintro _ w3 ⟨rfl, b3⟩
    go_wp2_with fail
    go_ret3
    exact ⟨rfl, bb b1 (bb b2 b3)⟩
  case true =>
  rw [hexy rfl, hlen]
  have HL := Lib.hid hlen
  clear hlen
  obtain ⟨qi, zi⟩ := hsi rfl
  obtain ⟨qf, zf⟩ := hsf rfl
  have hprog := hp.1 rfl
  clear hexn hexy hsi hsf hp hi hf his hfs
  obtain ⟨R, hR⟩ : ∃ R, R = evTo (exSt Is Fs (xs.map RI.pi)) (xs.map RI.pi) n := ⟨_, rfl⟩
  rw [← hR]
  have HR := Lib.hid hR
  clear hR
  obtain ⟨i0, hi0, hz0, hz1, hz2⟩ := info_parts infoQ
  go_enter Tryz.func36, Tryz.ntmps36
  go_wp2_with fail
  with_reducible refine HP1.out.mono ?_
  rintro _ w1 ⟨rfl, b1⟩
  go_wp2_with fail
  with_reducible refine (HP2.out _ b1).mono ?_
  rintro _ w2 ⟨rfl, b2⟩
  go_wp2_with fail
  with_reducible refine (HP3.out _ (bb b1 b2)).mono ?_
  rintro _ w3 ⟨rfl, b3⟩
  have y3 := bb b1 (bb b2 b3)
  clear b1 b2 b3 HP1 HP2 HP3
  go_wp2_with fail
  have HQI := Lib.hid qi
  have HQF := Lib.hid qf
  have HPR := Lib.hid hprog
  have HSH := Lib.hid hs
  have hQl := qf.len
  have HQL := Lib.hid hQl
  have hIl := qi.len
  have HIL := Lib.hid hIl
  clear qi qf hprog hs hQl hIl
  go_loopw [9, 10, 30] (fun vv uv iv wr => ∃ (j u : Nat) (v : List Rat), j ≤ n ∧ u ≤ j ∧ iv = .int .i64 j ∧ uv = .int .i64 u ∧ Hid (u = countTo isF (xs.map RI.pi) j) ∧ Hid (OwnQ w.heap.size wr vv v) ∧ Hid (evTo (exSt Is Fs (xs.map RI.pi)) (xs.map RI.pi) j = .ok v) ∧ Hid (AllSz 64 v) ∧ Below w.heap.size w wr) (fun _ _ iv _ => n - mes iv)
  case atStart => exact ⟨0, 0, [], by omega, by omega, rfl, rfl, Lib.hid rfl, Lib.hid ⟨[], OwnC.nil, rfl, fun j x hx => by simp at hx⟩, Lib.hid rfl, Lib.hid (fun X hX => by simp at hX), y3⟩
  case round =>
    clear y3
    obtain ⟨j, u, v, hj, huj, rfl, rfl, HU, HV, HE, HZ, hb⟩ := hrel
    have hvl : v.length = j := evTo_len HE.out
    obtain ⟨A', c', ev⟩ := HV.out.form
    rw [hvl] at ev
    subst ev
    have HVL := Lib.hid hvl
    clear hvl
    by_cases hj2 : j < n
    · obtain ⟨b0, off, x, rfl, hlt, hxk, hok, c0, c1, c2, c3, c4, c5⟩ := (h.below hb).at_ hj2
      have hp := pi_at hxk
      have hfit : fits vq nq x.pi j := by rw [← hp]; exact HPR.out.1 j (by rw [HL.out]; exact hj2)
      obtain ⟨hx1, hx2⟩ := HSH.out x (mem_at hxk)
      have zf' : AllSz 64 (Fs.drop (countTo isF (xs.map RI.pi) j)) := fun X hX => zf X (List.mem_of_mem_drop hX)
      obtain ⟨r, hr⟩ : ∃ r, raw Is (Fs.drop (countTo isF (xs.map RI.pi) j)) x.pi v = r := ⟨_, rfl⟩
      have hst : exSt Is Fs (xs.map RI.pi) j ((xs.map RI.pi).getD j PI.nil) v = big r := by rw [hp]; unfold exSt; rw [hr]
      have hqv : x.op = 2 → ∃ X, qval (x.q.s, x.q.z, x.q.z') = X ∧ Q wr x.q.s x.q.A x.q.n x.q.c x.q.A' x.q.n' x.q.c' X ∧ Sz X 64 := fun h2 => by
        have h3 : fits vq nq ⟨x.op, x.a, x.b, (x.q.s, x.q.z, x.q.z')⟩ j := hfit
        rw [h2] at h3
        obtain ⟨Y, g1, g2, g3⟩ := right_Q hok.2.2.2.1 hok.2.2.2.2.1 hx1 hx2 (fit_const h3)
        exact ⟨Y, g3.symm, g1, g2⟩
      have hsz : ∀ X, r = .ok X → Sz X 130 := fun X hX => raw_sz (by rw [hr, hX]) hfit HVL.out.symm HZ.out zi zf' (fun h2 => by
        obtain ⟨Y, g1, g2, g3⟩ := hqv h2
        show Sz (qval (x.q.s, x.q.z, x.q.z')) 64
        rw [g1]; exact g3)
      have hgf : isF ((xs.map RI.pi).getD j PI.nil) = isForm x.op := by rw [hp]; rfl
      have hup : ∀ b, isForm x.op = b → u + (if b = true then 1 else 0) = countTo isF (xs.map RI.pi) (j + 1) := fun b hbb => by
        rw [hbb] at hgf
        cases b
        · rw [count_no hgf, ← HU.out]; rfl
        · rw [count_yes hgf, ← HU.out]; rfl
      have hend : ∀ e, big r = .error e → R = .error (j, e) := fun e he => by rw [HR.out]; exact evTo_err (evTo_stop HE.out (hst.trans he)) n (by omega)
      have hnext : ∀ X, big r = .ok X → evTo (exSt Is Fs (xs.map RI.pi)) (xs.map RI.pi) (j + 1) = .ok (v ++ [X]) := fun X hX => evTo_step HE.out (hst.trans hX)
      have hdr : (Fs.drop (countTo isF (xs.map RI.pi) j)).length = k - u := by rw [List.length_drop, ← HU.out, HQL.out]
      have hd0 : (Fs.drop (countTo isF (xs.map RI.pi) j)).getD 0 0 = Fs.getD u 0 := by
        rw [List.getD_eq_getElem?_getD, List.getElem?_drop, ← HU.out, Nat.add_zero, ← List.getD_eq_getElem?_getD]
      have FO := fun (w1 : World) => Lib.hid (ref_form x.op w1)
      have hb0lt : b0 < wr.heap.size := hlt
      clear hp hgf hst zf' hxk
      obtain ⟨op, a, b, q⟩ := x
      simp only at c0 c1 c2 c3 c4 c5 hqv hup FO hx1 hx2 ⊢
      have hr : raw Is (Fs.drop (countTo isF (xs.map RI.pi) j)) ⟨op, a, b, (q.s, q.z, q.z')⟩ v = r := hr
      have hfit2 : fits vq nq ⟨op, a, b, (q.s, q.z, q.z')⟩ j := hfit
      by_cases h1 : op = 1
      · subst h1
        have HUP : Hid (u = countTo isF (xs.map RI.pi) (j + 1)) := Lib.hid (hup false (by decide))
        obtain ⟨g1, g2⟩ := fit_in hfit2
        obtain ⟨i, rfl⟩ : ∃ i : Nat, a = (i : Int) := ⟨a.toNat, by omega⟩
        by_cases hi1 : i < m
        · rw [raw_in (by simpa using (show i < Is.length by have := HIL.out; omega))] at hr
          rw [show ((i : Int)).toNat = i by omega] at hr
          subst hr
          obtain ⟨bi, oi, s1, A1, n1, c1', A2, n2, c2', rfl, hbi, k0, k1, k2, qa⟩ := (HQI.out.below hb).at_ hi1
          have hX := hsz _ rfl
          generalize Is.getD i 0 = X at *
          have hbi2 : bi < wr.heap.size + 1 := by omega
          have hbi3 : bi < wr.heap.size + 1 + 1 := by omega
          obtain ⟨V, hW, Bx, Bv, x0⟩ := boxes63 27 25 wr #[.int .i64 1, .int .i64 (i : Int), .int .i64 b, .bool q.s, .slice q.A q.n q.c, .slice q.A' q.n' q.c'] #[.bool s1, .slice A1 n1 c1', .slice A2 n2 c2']
          have qv := qa.below x0
          have HW := Lib.hid hW
          clear hW Bx qa hsz hqv hup hfit hfit2 FO hok hdr hd0 g1 g2
          have PB := ref_pbits qv hX (by omega)
          have HBv := Lib.hid Bv
          have HQV := Lib.hid qv
          have yV : Below w.heap.size w V := bb hb x0
          by_cases hbig : 4096 < bitsQ X
          · have hRR := hend 5 (big_no hbig)
            subst hRR
            unfold bitsQ at hbig
            generalize max (blen X.num.natAbs : Int) (blen X.den) = t at *
            have HPB := Lib.hid PB
            clear PB Bv qv hend hnext
            go_wp2_with fail
            rw [HW.out]
            with_reducible refine HPB.out.mono ?_
            rintro _ w2 ⟨rfl, b2⟩
            go_wp2_with fail
            go_ret3
            exact ⟨rfl, bb yV b2⟩
          · have hev2 := hnext X (big_yes hbig)
            have hz2' := HZ.out.snoc (sz_of_bits hbig)
            have HEV2 := Lib.hid hev2
            have HZ2 := Lib.hid hz2'
            unfold bitsQ at hbig
            generalize max (blen X.num.natAbs : Int) (blen X.den) = t at *
            have HPB := Lib.hid PB
            have HX := Lib.hid hX
            clear PB Bv qv hend hnext hev2 hz2' hX
            go_wp2_with fail
            rw [HW.out]
            with_reducible refine HPB.out.mono ?_
            rintro _ w2 ⟨rfl, b2⟩
            obtain ⟨p0, p1, p2⟩ := (HBv.out.below' b2).three.1
            have q2 := HQV.out.below b2
            obtain ⟨vs, o1, o2, o3⟩ := HV.out.below (bb x0 b2)
            have y2 : Below w.heap.size w w2 := bb yV b2
            have hvs : vs.length = j := by rw [o2]; exact HVL.out
            have hok2 : (⟨s1, A1, n1, c1', (words X.num.natAbs), A2, n2, c2', (words X.den)⟩ : RQ).ok w2 := ⟨q2.2.1, q2.2.2, show n1 ≤ maxLen by have := q2.2.1.small HX.out.1; unfold maxLen; omega, show n2 ≤ maxLen by have := q2.2.2.small HX.out.2; unfold maxLen; omega⟩
            have HO1 := Lib.hid o1
            have HO2 := Lib.hid o2
            have HO3 := Lib.hid o3
            have HVS := Lib.hid hvs
            have HQ2 := Lib.hid q2
            have HOK := Lib.hid hok2
            clear o1 o2 o3 hvs q2 hok2
            go_wp2_with (at_builtin; refine wpList_append_C _ rfl _ _ 47 rfl w.heap.size 25 i0 _ 56 Tryz.underlying47 hi0 hz0 hz1 hz2 rfl (by decide) zeroQ _ vs rfl (HO1.out.below (below_alloc _ _)) ⟨w2.heap.size, 0, none⟩ 1 (⟨s1, A1, n1, c1', (words X.num.natAbs), A2, n2, c2', (words X.den)⟩ : RQ) rfl rfl ?c1 (rq_one _) (rq_noW _) ?c3 ?c4 ?c5 ?_)
            case c1 => exact news_new w2 _ _
            case c3 => have := HVS.out; unfold maxLen; omega
            case c4 => have := HVS.out; omega
            case c5 => have := y2.size; simp; omega
            intro v' w4 hown hgrow
            have hbn := (y2.alloc y2.size _).grown hgrow (by have := y2.size; simp; omega) (HO1.out.base)
            have HOQ := Lib.hid (OwnQ.append HO1.out HO2.out HO3.out HOK.out HQ2.out hown hgrow)
            clear hown hgrow
            go_wp2_with fail
            go_roundw
            case rel => exact ⟨j + 1, u, v ++ [X], by omega, by omega, by go_num, rfl, HUP, HOQ, HEV2, HZ2, hbn⟩
            case measure => simp [mes, intOf]; omega
        · rw [raw_in_no (by simpa using (show ¬ i < Is.length by have := HIL.out; omega))] at hr
          subst hr
          have hRR := hend 11 rfl
          subst hRR
          clear hsz hqv hup hfit hfit2 FO hok hend hnext hdr hd0 g1 g2
          go_wp2_with fail
          go_ret3
          have y1 := hb.alloc hb.size (.cells #[.int .i64 1, .int .i64 (i : Int), .int .i64 b, .bool q.s, .slice q.A q.n q.c, .slice q.A' q.n' q.c'] 27)
          exact ⟨rfl, y1.alloc y1.size _⟩
      · have e1 : (op == 1) = false := by simpa using h1
        by_cases h2 : op = 2
        · subst h2
          have HUP : Hid (u = countTo isF (xs.map RI.pi) (j + 1)) := Lib.hid (hup false (by decide))
          rw [raw_const] at hr
          obtain ⟨X, g1, g2, g3⟩ := hqv rfl
          rw [g1] at hr
          subst hr
          have hX := g3.mono (show 64 ≤ 130 by omega)
          obtain ⟨s1, A1, n1, c1', z1, A2, n2, c2', z2⟩ := q
          simp only at c3 c4 c5 g2
          obtain ⟨V, hW, Bx, Bv, x0⟩ := boxes63 27 25 wr #[.int .i64 2, .int .i64 a, .int .i64 b, .bool s1, .slice A1 n1 c1', .slice A2 n2 c2'] #[.bool s1, .slice A1 n1 c1', .slice A2 n2 c2']
          have qv := g2.below x0
          have HW := Lib.hid hW
          clear hW Bx g1 g2 g3 hsz hqv hup hfit hfit2 FO hok
          have PB := ref_pbits qv hX (by omega)
          have HBv := Lib.hid Bv
          have HQV := Lib.hid qv
          have yV : Below w.heap.size w V := bb hb x0
          by_cases hbig : 4096 < bitsQ X
          · have hRR := hend 5 (big_no hbig)
            subst hRR
            unfold bitsQ at hbig
            generalize max (blen X.num.natAbs : Int) (blen X.den) = t at *
            have HPB := Lib.hid PB
            clear PB Bv qv hend hnext
            go_wp2_with fail
            rw [HW.out]
            with_reducible refine HPB.out.mono ?_
            rintro _ w2 ⟨rfl, b2⟩
            go_wp2_with fail
            go_ret3
            exact ⟨rfl, bb yV b2⟩
          · have hev2 := hnext X (big_yes hbig)
            have hz2' := HZ.out.snoc (sz_of_bits hbig)
            have HEV2 := Lib.hid hev2
            have HZ2 := Lib.hid hz2'
            unfold bitsQ at hbig
            generalize max (blen X.num.natAbs : Int) (blen X.den) = t at *
            have HPB := Lib.hid PB
            have HX := Lib.hid hX
            clear PB Bv qv hend hnext hev2 hz2' hX
            go_wp2_with fail
            rw [HW.out]
            with_reducible refine HPB.out.mono ?_
            rintro _ w2 ⟨rfl, b2⟩
            obtain ⟨p0, p1, p2⟩ := (HBv.out.below' b2).three.1
            have q2 := HQV.out.below b2
            obtain ⟨vs, o1, o2, o3⟩ := HV.out.below (bb x0 b2)
            have y2 : Below w.heap.size w w2 := bb yV b2
            have hvs : vs.length = j := by rw [o2]; exact HVL.out
            have hok2 : (⟨s1, A1, n1, c1', (words X.num.natAbs), A2, n2, c2', (words X.den)⟩ : RQ).ok w2 := ⟨q2.2.1, q2.2.2, show n1 ≤ maxLen by have := q2.2.1.small HX.out.1; unfold maxLen; omega, show n2 ≤ maxLen by have := q2.2.2.small HX.out.2; unfold maxLen; omega⟩
            have HO1 := Lib.hid o1
            have HO2 := Lib.hid o2
            have HO3 := Lib.hid o3
            have HVS := Lib.hid hvs
            have HQ2 := Lib.hid q2
            have HOK := Lib.hid hok2
            clear o1 o2 o3 hvs q2 hok2
            go_wp2_with (at_builtin; refine wpList_append_C _ rfl _ _ 47 rfl w.heap.size 25 i0 _ 56 Tryz.underlying47 hi0 hz0 hz1 hz2 rfl (by decide) zeroQ _ vs rfl (HO1.out.below (below_alloc _ _)) ⟨w2.heap.size, 0, none⟩ 1 (⟨s1, A1, n1, c1', (words X.num.natAbs), A2, n2, c2', (words X.den)⟩ : RQ) rfl rfl ?c1 (rq_one _) (rq_noW _) ?c3 ?c4 ?c5 ?_)
            case c1 => exact news_new w2 _ _
            case c3 => have := HVS.out; unfold maxLen; omega
            case c4 => have := HVS.out; omega
            case c5 => have := y2.size; simp; omega
            intro v' w4 hown hgrow
            have hbn := (y2.alloc y2.size _).grown hgrow (by have := y2.size; simp; omega) (HO1.out.base)
            have HOQ := Lib.hid (OwnQ.append HO1.out HO2.out HO3.out HOK.out HQ2.out hown hgrow)
            clear hown hgrow
            go_wp2_with fail
            go_roundw
            case rel => exact ⟨j + 1, u, v ++ [X], by omega, by omega, by go_num, rfl, HUP, HOQ, HEV2, HZ2, hbn⟩
            case measure => simp [mes, intOf]; omega
        · have e2 : (op == 2) = false := by simpa using h2
          obtain ⟨fm, hfm⟩ : ∃ fm, isForm op = fm := ⟨_, rfl⟩
          rw [hfm] at FO
          cases fm
          case true =>
            have HUP : Hid (u + 1 = countTo isF (xs.map RI.pi) (j + 1)) := Lib.hid (hup true hfm)
            by_cases hu1 : u < k
            · rw [raw_form hfm (by rw [hdr]; omega), hd0] at hr
              subst hr
              obtain ⟨bi, oi, s1, A1, n1, c1', A2, n2, c2', rfl, hbi, k0, k1, k2, qa⟩ := (HQF.out.below hb).at_ hu1
              have hX := hsz _ rfl
              generalize Fs.getD u 0 = X at *
              have hbi2 : bi < wr.heap.size + 1 := by omega
              have hbi3 : bi < wr.heap.size + 1 + 1 := by omega
              obtain ⟨V, hW, Bx, Bv, x0⟩ := boxes63 27 25 wr #[.int .i64 op, .int .i64 a, .int .i64 b, .bool q.s, .slice q.A q.n q.c, .slice q.A' q.n' q.c'] #[.bool s1, .slice A1 n1 c1', .slice A2 n2 c2']
              have qv := qa.below x0
              have HW := Lib.hid hW
              clear hW Bx qa hsz hqv hup hfit hfit2 hok hdr hd0 hfm
              have PB := ref_pbits qv hX (by omega)
              have HBv := Lib.hid Bv
              have HQV := Lib.hid qv
              have yV : Below w.heap.size w V := bb hb x0
              by_cases hbig : 4096 < bitsQ X
              · have hRR := hend 5 (big_no hbig)
                subst hRR
                unfold bitsQ at hbig
                generalize max (blen X.num.natAbs : Int) (blen X.den) = t at *
                have HPB := Lib.hid PB
                clear PB Bv qv hend hnext
                go_wp2_with fail
                with_reducible refine (FO _).out.mono ?_
                rintro _ w0 ⟨rfl, rfl⟩
                go_wp2_with fail
                rw [HW.out]
                with_reducible refine HPB.out.mono ?_
                rintro _ w2 ⟨rfl, b2⟩
                go_wp2_with fail
                go_ret3
                exact ⟨rfl, bb yV b2⟩
              · have hev2 := hnext X (big_yes hbig)
                have hz2' := HZ.out.snoc (sz_of_bits hbig)
                have HEV2 := Lib.hid hev2
                have HZ2 := Lib.hid hz2'
                unfold bitsQ at hbig
                generalize max (blen X.num.natAbs : Int) (blen X.den) = t at *
                have HPB := Lib.hid PB
                have HX := Lib.hid hX
                clear PB Bv qv hend hnext hev2 hz2' hX
                go_wp2_with fail
                with_reducible refine (FO _).out.mono ?_
                rintro _ w0 ⟨rfl, rfl⟩
                go_wp2_with fail
                rw [HW.out]
                with_reducible refine HPB.out.mono ?_
                rintro _ w2 ⟨rfl, b2⟩
                obtain ⟨p0, p1, p2⟩ := (HBv.out.below' b2).three.1
                have q2 := HQV.out.below b2
                obtain ⟨vs, o1, o2, o3⟩ := HV.out.below (bb x0 b2)
                have y2 : Below w.heap.size w w2 := bb yV b2
                have hvs : vs.length = j := by rw [o2]; exact HVL.out
                have hok2 : (⟨s1, A1, n1, c1', (words X.num.natAbs), A2, n2, c2', (words X.den)⟩ : RQ).ok w2 := ⟨q2.2.1, q2.2.2, show n1 ≤ maxLen by have := q2.2.1.small HX.out.1; unfold maxLen; omega, show n2 ≤ maxLen by have := q2.2.2.small HX.out.2; unfold maxLen; omega⟩
                have HO1 := Lib.hid o1
                have HO2 := Lib.hid o2
                have HO3 := Lib.hid o3
                have HVS := Lib.hid hvs
                have HQ2 := Lib.hid q2
                have HOK := Lib.hid hok2
                clear o1 o2 o3 hvs q2 hok2
                go_wp2_with (at_builtin; refine wpList_append_C _ rfl _ _ 47 rfl w.heap.size 25 i0 _ 56 Tryz.underlying47 hi0 hz0 hz1 hz2 rfl (by decide) zeroQ _ vs rfl (HO1.out.below (below_alloc _ _)) ⟨w2.heap.size, 0, none⟩ 1 (⟨s1, A1, n1, c1', (words X.num.natAbs), A2, n2, c2', (words X.den)⟩ : RQ) rfl rfl ?c1 (rq_one _) (rq_noW _) ?c3 ?c4 ?c5 ?_)
                case c1 => exact news_new w2 _ _
                case c3 => have := HVS.out; unfold maxLen; omega
                case c4 => have := HVS.out; omega
                case c5 => have := y2.size; simp; omega
                intro v' w4 hown hgrow
                have hbn := (y2.alloc y2.size _).grown hgrow (by have := y2.size; simp; omega) (HO1.out.base)
                have HOQ := Lib.hid (OwnQ.append HO1.out HO2.out HO3.out HOK.out HQ2.out hown hgrow)
                clear hown hgrow
                go_wp2_with fail
                go_roundw
                case rel => exact ⟨j + 1, u + 1, v ++ [X], by omega, by omega, by go_num, by go_num, HUP, HOQ, HEV2, HZ2, hbn⟩
                case measure => simp [mes, intOf]; omega
            · rw [raw_form_no hfm (by rw [hdr]; omega)] at hr
              subst hr
              have hRR := hend 6 rfl
              subst hRR
              clear hsz hqv hup hfit hfit2 hok hend hnext hdr hd0 hfm
              go_wp2_with fail
              with_reducible refine (FO _).out.mono ?_
              rintro _ w0 ⟨rfl, rfl⟩
              go_wp2_with fail
              go_ret3
              have y1 := hb.alloc hb.size (.cells #[.int .i64 op, .int .i64 a, .int .i64 b, .bool q.s, .slice q.A q.n q.c, .slice q.A' q.n' q.c'] 27)
              exact ⟨rfl, y1.alloc y1.size _⟩
          case false =>
            have HUP : Hid (u = countTo isF (xs.map RI.pi) (j + 1)) := Lib.hid (hup false hfm)
            obtain ⟨V0, hW0, Bx, B0, x00⟩ := boxes63 27 25 wr #[.int .i64 op, .int .i64 a, .int .i64 b, .bool q.s, .slice q.A q.n q.c, .slice q.A' q.n' q.c'] #[.bool false, .slice none 0 0, .slice none 0 0]
            have ST := ref_step (ins := Is) (fs := Fs.drop (countTo isF (xs.map RI.pi) j)) (HV.out.slq.below x00) HZ.out (by omega) hfit h1 h2 hfm
            have hr9 : raw Is (Fs.drop (countTo isF (xs.map RI.pi) j)) (RI.pi ⟨op, a, b, q⟩) v = r := hr
            rw [hr9] at ST
            have hre : ∀ e, r = .error e → e = 4 ∨ e = 6 ∨ e = 11 := fun e he => raw_err (hr.trans he)
            have HST := Lib.hid ST
            have HW0 := Lib.hid hW0
            have HB0 := Lib.hid B0
            clear ST hW0 B0 Bx hr9 hr hqv hup hfit hfit2 hok hdr hd0 hfm
            cases r with
            | error e =>
              have hRR := hend e rfl
              subst hRR
              rcases hre e rfl with rfl | rfl | rfl
              all_goals
                clear hre hsz hend hnext
                go_wp2_with fail
                with_reducible refine (FO _).out.mono ?_
                rintro _ w0 ⟨rfl, rfl⟩
                go_wp2_with fail
                rw [HW0.out]
                with_reducible refine HST.out.mono ?_
                rintro _ w1 ⟨rfl, b1⟩
                have B9 := HB0.out.below' b1
                obtain ⟨⟨r0, r1, r2⟩, f0, f1, f2⟩ := B9.three
                go_wp2_with fail
                go_ret3
                exact ⟨rfl, below_put3 (bb hb (bb x00 b1)) (by have := hb.size; omega) (Nat.le_refl _) _ _ _⟩
            | ok X =>
              have hX := hsz X rfl
              clear hre hsz
              go_wp2_with fail
              with_reducible refine (FO _).out.mono ?_
              rintro _ w0 ⟨rfl, rfl⟩
              go_wp2_with fail
              rw [HW0.out]
              with_reducible refine HST.out.mono ?_
              rintro _ w1 ⟨s1, A1, n1, c1', A2, n2, c2', rfl, q1, b1⟩
              have B9 := HB0.out.below' b1
              obtain ⟨⟨r0, r1, r2⟩, f0, f1, f2⟩ := B9.three
              obtain ⟨V, hW, Bv, qv, x0⟩ : ∃ V, put3 w1 (wr.heap.size + 1) (.bool s1) (.slice A1 n1 c1') (.slice A2 n2 c2') = V ∧ Box 25 V (wr.heap.size + 1) #[.bool s1, .slice A1 n1 c1', .slice A2 n2 c2'] ∧ Q V s1 A1 n1 c1' A2 n2 c2' X ∧ Below wr.heap.size wr V :=
                ⟨_, rfl, B9.put3_own _ _ _, q1.put3 ⟨_, _, _, _, _, _, _, B9⟩, below_put3 (bb x00 b1) (by omega) (Nat.le_refl _) _ _ _⟩
              unfold put3 at hW
              have HW := Lib.hid hW
              clear hW B9 q1 b1 HST HW0 FO
              have PB := ref_pbits qv hX (by omega)
              have HBv := Lib.hid Bv
              have HQV := Lib.hid qv
              have yV : Below w.heap.size w V := bb hb x0
              by_cases hbig : 4096 < bitsQ X
              · have hRR := hend 5 (big_no hbig)
                subst hRR
                unfold bitsQ at hbig
                generalize max (blen X.num.natAbs : Int) (blen X.den) = t at *
                have HPB := Lib.hid PB
                clear PB Bv qv hend hnext
                go_wp2_with fail
                rw [HW.out]
                with_reducible refine HPB.out.mono ?_
                rintro _ w2 ⟨rfl, b2⟩
                go_wp2_with fail
                go_ret3
                exact ⟨rfl, bb yV b2⟩
              · have hev2 := hnext X (big_yes hbig)
                have hz2' := HZ.out.snoc (sz_of_bits hbig)
                have HEV2 := Lib.hid hev2
                have HZ2 := Lib.hid hz2'
                unfold bitsQ at hbig
                generalize max (blen X.num.natAbs : Int) (blen X.den) = t at *
                have HPB := Lib.hid PB
                have HX := Lib.hid hX
                clear PB Bv qv hend hnext hev2 hz2' hX
                go_wp2_with fail
                rw [HW.out]
                with_reducible refine HPB.out.mono ?_
                rintro _ w2 ⟨rfl, b2⟩
                obtain ⟨p0, p1, p2⟩ := (HBv.out.below' b2).three.1
                have q2 := HQV.out.below b2
                obtain ⟨vs, o1, o2, o3⟩ := HV.out.below (bb x0 b2)
                have y2 : Below w.heap.size w w2 := bb yV b2
                have hvs : vs.length = j := by rw [o2]; exact HVL.out
                have hok2 : (⟨s1, A1, n1, c1', (words X.num.natAbs), A2, n2, c2', (words X.den)⟩ : RQ).ok w2 := ⟨q2.2.1, q2.2.2, show n1 ≤ maxLen by have := q2.2.1.small HX.out.1; unfold maxLen; omega, show n2 ≤ maxLen by have := q2.2.2.small HX.out.2; unfold maxLen; omega⟩
                have HO1 := Lib.hid o1
                have HO2 := Lib.hid o2
                have HO3 := Lib.hid o3
                have HVS := Lib.hid hvs
                have HQ2 := Lib.hid q2
                have HOK := Lib.hid hok2
                clear o1 o2 o3 hvs q2 hok2
                go_wp2_with (at_builtin; refine wpList_append_C _ rfl _ _ 47 rfl w.heap.size 25 i0 _ 56 Tryz.underlying47 hi0 hz0 hz1 hz2 rfl (by decide) zeroQ _ vs rfl (HO1.out.below (below_alloc _ _)) ⟨w2.heap.size, 0, none⟩ 1 (⟨s1, A1, n1, c1', (words X.num.natAbs), A2, n2, c2', (words X.den)⟩ : RQ) rfl rfl ?c1 (rq_one _) (rq_noW _) ?c3 ?c4 ?c5 ?_)
                case c1 => exact news_new w2 _ _
                case c3 => have := HVS.out; unfold maxLen; omega
                case c4 => have := HVS.out; omega
                case c5 => have := y2.size; simp; omega
                intro v' w4 hown hgrow
                have hbn := (y2.alloc y2.size _).grown hgrow (by have := y2.size; simp; omega) (HO1.out.base)
                have HOQ := Lib.hid (OwnQ.append HO1.out HO2.out HO3.out HOK.out HQ2.out hown hgrow)
                clear hown hgrow
                go_wp2_with fail
                go_roundw
                case rel => exact ⟨j + 1, u, v ++ [X], by omega, by omega, by go_num, rfl, HUP, HOQ, HEV2, HZ2, hbn⟩
                case measure => simp [mes, intOf]; omega
    · obtain rfl : j = n := by omega
      have hRR : R = .ok v := by rw [HR.out, HE.out]
      subst hRR
      go_wp2_with fail
      go_ret3
      exact ⟨⟨_, _, _, rfl, HV.out.slq⟩, hb⟩

end Go.Proofs.YtibgpeaplmcogaaGreatDoor

namespace Go.Proofs.YtibgpeaplmcogaaGreatDoor
set_option maxRecDepth 100000
set_option linter.unusedVariables false
set_option linter.unusedSimpArgs false

/-- p / d, rounded to the nearest natural, ties to the even one -/
def rdiv (p d : Nat) : Nat := if d < 2 * (p % d) ∨ (2 * (p % d) = d ∧ p / d % 2 = 1) then p / d + 1 else p / d
/-- how many bits the nearest double leaves out below -/
def ulp (p d : Nat) : Nat := blen (p / d) - 53
@[irreducible] def INF : Nat := 9218868437227405312
/-- 2^52 -/
@[irreducible] def B52 : Nat := 4503599627370496
/-- the word, without a sign, of the double nearest to p / d -/
def mag (p d : Nat) : Nat := min (ulp p d * B52 + rdiv p (d * 2 ^ ulp p d)) INF
/-- what a word without a sign says -/
def fv (b : Nat) : Nat := if b / B52 = 0 then b else (b % B52 + B52) * 2 ^ (b / B52 - 1)

theorem B52_pow : B52 = 2 ^ 52 := by unfold B52; rfl
theorem B52_eq : B52 = 4503599627370496 := by unfold B52; rfl
theorem INF_eq : INF = 2047 * B52 := by unfold INF B52; rfl
theorem INF_lit : INF = 9218868437227405312 := by unfold INF; rfl
theorem B52_pos : 0 < B52 := by unfold B52; omega

theorem rdiv_scale (p d : Nat) {c : Nat} (hc : 0 < c) : rdiv (p * c) (d * c) = rdiv p d := by
  unfold rdiv
  rw [Nat.mul_div_mul_right _ _ hc, Nat.mul_mod_mul_right]
  have h1 : d * c < 2 * (p % d * c) ↔ d < 2 * (p % d) := by
    rw [← Nat.mul_assoc]; exact ⟨fun h => Nat.lt_of_mul_lt_mul_right h, fun h => Nat.mul_lt_mul_of_pos_right h hc⟩
  have h2 : 2 * (p % d * c) = d * c ↔ 2 * (p % d) = d := by
    rw [← Nat.mul_assoc]; exact ⟨fun h => Nat.eq_of_mul_eq_mul_right hc h, fun h => by rw [h]⟩
  simp only [h1, h2]
/-- what rounding does: at most half a unit off; where it is just half a unit off, the result is even -/
theorem rdiv_spec (p : Nat) {d : Nat} (hd : 0 < d) : 2 * p ≤ (2 * rdiv p d + 1) * d ∧ 2 * rdiv p d * d ≤ 2 * p + d ∧ (2 * p = (2 * rdiv p d + 1) * d → rdiv p d % 2 = 0) ∧ (2 * rdiv p d * d = 2 * p + d → rdiv p d % 2 = 0) := by
  have h1 : p / d * d + p % d = p := Nat.div_add_mod' p d
  have h2 := Nat.mod_lt p hd
  unfold rdiv
  generalize p / d = q at *
  generalize p % d = r at *
  have e0 : (2 * q + 1) * d = 2 * (q * d) + d := by grind
  have e1 : 2 * q * d = 2 * (q * d) := by grind
  have e2 : (2 * (q + 1) + 1) * d = 2 * (q * d) + 3 * d := by grind
  have e3 : 2 * (q + 1) * d = 2 * (q * d) + 2 * d := by grind
  generalize q * d = x at *
  by_cases h : d < 2 * r ∨ (2 * r = d ∧ q % 2 = 1)
  · rw [if_pos h, e2, e3]
    omega
  · rw [if_neg h, e0, e1]
    omega
theorem rdiv_mono1 {p q d : Nat} (hd : 0 < d) (h : p ≤ q) : rdiv p d ≤ rdiv q d := by
  obtain ⟨_, a2, _, a4⟩ := rdiv_spec p hd
  obtain ⟨b1, _, b3, _⟩ := rdiv_spec q hd
  generalize rdiv p d = x at *
  generalize rdiv q d = y at *
  rcases Nat.lt_or_ge y x with hl | hl
  · exfalso
    have h1 : (2 * y + 1) * d + d ≤ 2 * x * d := by
      have : (2 * y + 2) * d ≤ 2 * x * d := Nat.mul_le_mul_right _ (by omega)
      have e : (2 * y + 2) * d = (2 * y + 1) * d + d := by grind
      omega
    have h2 : 2 * x * d = 2 * p + d := by omega
    have h3 : 2 * q = (2 * y + 1) * d := by omega
    have h4 : (2 * y + 2) * d = 2 * x * d := by
      have e : (2 * y + 2) * d = (2 * y + 1) * d + d := by grind
      omega
    have h5 : 2 * y + 2 = 2 * x := Nat.eq_of_mul_eq_mul_right hd h4
    have := a4 h2
    have := b3 h3
    omega
  · exact hl
theorem rdiv_mono {p d p' d' : Nat} (hd : 0 < d) (hd' : 0 < d') (h : p * d' ≤ p' * d) : rdiv p d ≤ rdiv p' d' := by
  rw [← rdiv_scale p d hd', ← rdiv_scale p' d' hd, Nat.mul_comm d' d]
  exact rdiv_mono1 (Nat.mul_pos hd hd') h
theorem rdiv_exact (k : Nat) {d : Nat} (hd : 0 < d) : rdiv (k * d) d = k := by
  unfold rdiv
  rw [Nat.mul_div_cancel _ hd, Nat.mul_mod_left, if_neg (by omega)]
theorem rdiv_one (k : Nat) : rdiv k 1 = k := by have := rdiv_exact k (d := 1) (by omega); rwa [Nat.mul_one] at this
theorem rdiv_small {p d : Nat} (h : 2 * p < d) : rdiv p d = 0 := by
  unfold rdiv
  rw [Nat.div_eq_of_lt (by omega), Nat.mod_eq_of_lt (by omega), if_neg (by omega)]

/-- only the ratio counts -/
theorem ulp_scale (p d : Nat) {c : Nat} (hc : 0 < c) : ulp (p * c) (d * c) = ulp p d := by unfold ulp; rw [Nat.mul_div_mul_right _ _ hc]
theorem mag_scale (p d : Nat) {c : Nat} (hc : 0 < c) : mag (p * c) (d * c) = mag p d := by
  unfold mag
  rw [ulp_scale p d hc, Nat.mul_right_comm d c, rdiv_scale _ _ hc]
theorem mag_eq {p d p' d' : Nat} (hd : 0 < d) (hd' : 0 < d') (h : p * d' = p' * d) : mag p d = mag p' d' := by
  rw [← mag_scale p d hd', ← mag_scale p' d' hd, h, Nat.mul_comm d' d]

theorem blen_mono {a b : Nat} (h : a ≤ b) : blen a ≤ blen b := blen_le (Nat.lt_of_le_of_lt h (blen_lt b))
theorem div_mono2 {p d p' d' : Nat} (hd : 0 < d) (hd' : 0 < d') (h : p * d' ≤ p' * d) : p / d ≤ p' / d' := by
  rw [Nat.le_div_iff_mul_le hd']
  have h1 : p / d * d ≤ p := Nat.div_mul_le_self p d
  have h2 : p / d * d * d' ≤ p * d' := Nat.mul_le_mul_right _ h1
  have h3 : p / d * d' * d ≤ p' * d := by rw [Nat.mul_right_comm]; omega
  exact Nat.le_of_mul_le_mul_right h3 hd
theorem ulp_mono {p d p' d' : Nat} (hd : 0 < d) (hd' : 0 < d') (h : p * d' ≤ p' * d) : ulp p d ≤ ulp p' d' := by
  have := blen_mono (div_mono2 hd hd' h)
  unfold ulp; omega
/-- how great the rounded number of units is -/
theorem units_le (p : Nat) {d : Nat} (hd : 0 < d) : rdiv p (d * 2 ^ ulp p d) ≤ 2 * B52 := by
  have hu : 0 < 2 ^ ulp p d := Nat.two_pow_pos _
  have h1 : p / (d * 2 ^ ulp p d) < 2 * B52 := by
    rw [← Nat.div_div_eq_div_mul, Nat.div_lt_iff_lt_mul hu]
    refine Nat.lt_of_lt_of_le (blen_lt (p / d)) ?_
    rw [B52_pow, ← Nat.pow_succ', ← Nat.pow_add]
    exact Nat.pow_le_pow_right (by omega) (by unfold ulp; omega)
  unfold rdiv
  split <;> omega
theorem units_ge (p : Nat) {d : Nat} (hd : 0 < d) (h0 : 0 < ulp p d) : B52 ≤ rdiv p (d * 2 ^ ulp p d) := by
  have hu : 0 < 2 ^ ulp p d := Nat.two_pow_pos _
  have h1 : B52 ≤ p / (d * 2 ^ ulp p d) := by
    rw [← Nat.div_div_eq_div_mul, Nat.le_div_iff_mul_le hu]
    have hp : 0 < p / d := by
      rcases Nat.eq_zero_or_pos (p / d) with h | h
      · unfold ulp at h0; rw [h, blen_zero] at h0; omega
      · exact h
    refine Nat.le_trans ?_ (blen_self hp)
    rw [B52_pow, ← Nat.pow_add]
    exact Nat.pow_le_pow_right (by omega) (by unfold ulp at *; omega)
  unfold rdiv
  split <;> omega
theorem mag_mono_lt {p d p' d' : Nat} (hd : 0 < d) (hd' : 0 < d') (hl : ulp p d < ulp p' d') : ulp p d * B52 + rdiv p (d * 2 ^ ulp p d) ≤ ulp p' d' * B52 + rdiv p' (d' * 2 ^ ulp p' d') := by
  have a := units_le p hd
  have b := units_ge p' hd' (by omega)
  have c : (ulp p d + 1) * B52 ≤ ulp p' d' * B52 := Nat.mul_le_mul_right _ hl
  rw [Nat.add_mul, Nat.one_mul] at c
  omega
theorem rdiv_mono_u {p d p' d' u : Nat} (hd : 0 < d) (hd' : 0 < d') (h : p * d' ≤ p' * d) : rdiv p (d * 2 ^ u) ≤ rdiv p' (d' * 2 ^ u) := by
  have hu : 0 < 2 ^ u := Nat.two_pow_pos _
  exact rdiv_mono (p := p) (d := d * 2 ^ u) (p' := p') (d' := d' * 2 ^ u) (Nat.mul_pos hd hu) (Nat.mul_pos hd' hu) (by
    rw [← Nat.mul_assoc, ← Nat.mul_assoc]; exact Nat.mul_le_mul_right _ h)
theorem mag_mono {p d p' d' : Nat} (hd : 0 < d) (hd' : 0 < d') (h : p * d' ≤ p' * d) : mag p d ≤ mag p' d' := by
  have h1 := ulp_mono hd hd' h
  have hh : ulp p d * B52 + rdiv p (d * 2 ^ ulp p d) ≤ ulp p' d' * B52 + rdiv p' (d' * 2 ^ ulp p' d') := by
    rcases Nat.lt_or_eq_of_le h1 with hl | hl
    · exact mag_mono_lt hd hd' hl
    · rw [hl]
      exact Nat.add_le_add_left (rdiv_mono_u hd hd' h) _
  unfold mag
  exact Nat.le_min.2 ⟨Nat.le_trans (Nat.min_le_left _ _) hh, Nat.min_le_right _ _⟩
theorem mag_le (p d : Nat) : mag p d ≤ INF := by unfold mag; omega
theorem mag_zero (d : Nat) : mag 0 d = 0 := by
  unfold mag ulp
  rw [Nat.zero_div, blen_zero]
  unfold rdiv
  simp

/-- a normalized significand -/
theorem ulp_norm {x s : Nat} (h1 : x < 2 * B52) (h2 : B52 ≤ x ∨ s = 0) : ulp (x * 2 ^ s) 1 = s := by
  unfold ulp
  rw [Nat.div_one]
  rcases h2 with h2 | rfl
  · rw [blen_mul_pow (by have := B52_pos; omega), blen_unique (n := x) (k := 52) (by rw [B52_pow] at h1; omega) (by rw [B52_pow] at h2; omega)]
    omega
  · rw [Nat.pow_zero, Nat.mul_one]
    have := blen_le (n := x) (k := 53) (by rw [B52_pow] at h1; omega)
    omega
theorem mag_norm {x s : Nat} (h1 : x < 2 * B52) (h2 : B52 ≤ x ∨ s = 0) : mag (x * 2 ^ s) 1 = min (s * B52 + x) INF := by
  unfold mag
  rw [ulp_norm h1 h2, Nat.one_mul, rdiv_exact _ (Nat.two_pow_pos s)]
/-- is p / d a double, just so? -/
def Ex (p d : Nat) : Prop := p % d = 0 ∧ p / d % 2 ^ ulp p d = 0 ∧ blen (p / d) ≤ 2098
instance (p d : Nat) : Decidable (Ex p d) := by unfold Ex; infer_instance
theorem ex_scale (p d : Nat) {c : Nat} (hc : 0 < c) : Ex (p * c) (d * c) ↔ Ex p d := by
  unfold Ex
  rw [ulp_scale p d hc, Nat.mul_div_mul_right _ _ hc, Nat.mul_mod_mul_right]
  have : p % d * c = 0 ↔ p % d = 0 := by
    rw [Nat.mul_eq_zero]; exact ⟨fun h => by omega, fun h => .inl h⟩
  rw [this]
theorem ex_norm {x s : Nat} (h1 : x < 2 * B52) (h2 : B52 ≤ x ∨ s = 0) : Ex (x * 2 ^ s) 1 ↔ s ≤ 2045 := by
  unfold Ex
  rw [ulp_norm h1 h2, Nat.mod_one, Nat.div_one, Nat.mul_mod_left]
  rcases h2 with h2 | rfl
  · rw [blen_mul_pow (by have := B52_pos; omega), blen_unique (n := x) (k := 52) (by rw [B52_pow] at h1; omega) (by rw [B52_pow] at h2; omega)]
    omega
  · rw [Nat.pow_zero, Nat.mul_one]
    have := blen_le (n := x) (k := 53) (by rw [B52_pow] at h1; omega)
    omega
/-- the word of what a word says -/
theorem fv_norm (b : Nat) : ∃ x s, fv b = x * 2 ^ s ∧ x < 2 * B52 ∧ (B52 ≤ x ∨ s = 0) ∧ s * B52 + x = b ∧ (b < INF → s ≤ 2045) := by
  have hm := Nat.mod_lt b B52_pos
  have hd := Nat.div_add_mod b B52
  unfold fv
  by_cases h : b / B52 = 0
  · rw [if_pos h]
    rw [h, Nat.mul_zero, Nat.zero_add] at hd
    exact ⟨b, 0, by simp, by omega, .inr rfl, by omega, fun _ => by omega⟩
  · rw [if_neg h]
    refine ⟨b % B52 + B52, b / B52 - 1, rfl, by omega, .inl (by omega), ?_, fun hb => ?_⟩
    · obtain ⟨k, hk⟩ : ∃ k, b / B52 = k + 1 := ⟨b / B52 - 1, (Nat.succ_pred_eq_of_ne_zero h).symm⟩
      rw [hk, Nat.mul_add, Nat.mul_one, Nat.mul_comm] at hd
      rw [hk, Nat.add_sub_cancel]
      omega
    · have : b / B52 < 2047 := by rw [Nat.div_lt_iff_lt_mul B52_pos]; rw [INF_eq] at hb; exact hb
      omega
theorem mag_fv {b : Nat} (h : b < INF) : mag (fv b) 1 = b := by
  obtain ⟨x, s, e, h1, h2, h3, _⟩ := fv_norm b
  rw [e, mag_norm h1 h2]; omega
theorem fv_lt {b c : Nat} (hb : b < INF) (hc : c < INF) (h : b < c) : fv b < fv c := by
  rcases Nat.lt_or_ge (fv b) (fv c) with hl | hl
  · exact hl
  · have := mag_mono (p := fv c) (d := 1) (p' := fv b) (d' := 1) (by omega) (by omega) (by omega)
    rw [mag_fv hb, mag_fv hc] at this
    omega
/-- a number's units, as a normalized significand -/
theorem units_norm (p : Nat) {d : Nat} (hd : 0 < d) : ∃ x s, rdiv p (d * 2 ^ ulp p d) * 2 ^ ulp p d = x * 2 ^ s ∧ x < 2 * B52 ∧ (B52 ≤ x ∨ s = 0) ∧ s * B52 + x = ulp p d * B52 + rdiv p (d * 2 ^ ulp p d) := by
  have h1 := units_le p hd
  have h2 := units_ge p hd
  generalize hx : rdiv p (d * 2 ^ ulp p d) = x at *
  generalize ulp p d = s at *
  rcases Nat.lt_or_ge x (2 * B52) with hl | hl
  · exact ⟨x, s, rfl, hl, by rcases Nat.eq_zero_or_pos s with h | h; exact .inr h; exact .inl (h2 h), rfl⟩
  · obtain rfl : x = 2 * B52 := by omega
    refine ⟨B52, s + 1, by rw [Nat.pow_succ]; grind, by have := B52_pos; omega, .inl (Nat.le_refl _), by grind⟩
/-- the double that rounding tells, made of its units: the same word; too great where there is none -/
theorem mag_units (p : Nat) {d : Nat} (hd : 0 < d) :
    (Ex (rdiv p (d * 2 ^ ulp p d) * 2 ^ ulp p d) 1 → mag (rdiv p (d * 2 ^ ulp p d) * 2 ^ ulp p d) 1 = mag p d) ∧ (¬ Ex (rdiv p (d * 2 ^ ulp p d) * 2 ^ ulp p d) 1 → mag p d = INF) := by
  obtain ⟨x, s, e, h1, h2, h3⟩ := units_norm p hd
  rw [e, mag_norm h1 h2, ex_norm h1 h2, h3]
  refine ⟨fun _ => rfl, fun h => ?_⟩
  unfold mag
  rw [← h3, INF_eq]
  have hs : 2046 ≤ s := by omega
  have : 2046 * B52 ≤ s * B52 := Nat.mul_le_mul_right _ hs
  rcases h2 with h2 | h2
  · omega
  · omega
/-- .. what it says -/
theorem fv_mag (p : Nat) {d : Nat} (hd : 0 < d) (h : mag p d < INF) : fv (mag p d) = rdiv p (d * 2 ^ ulp p d) * 2 ^ ulp p d := by
  obtain ⟨x, s, e, h1, h2, h3⟩ := units_norm p hd
  have hm : mag p d = s * B52 + x := by
    unfold mag at h ⊢
    rw [h3]; omega
  obtain ⟨y, t, e', k1, k2, k3, _⟩ := fv_norm (mag p d)
  rw [e, e']
  have hst : s = t ∧ x = y := by
    rw [hm] at k3
    have hs : s = t := by
      rcases Nat.lt_trichotomy s t with hl | hl | hl
      · exfalso
        have : (s + 1) * B52 ≤ t * B52 := Nat.mul_le_mul_right _ hl
        rw [Nat.add_mul, Nat.one_mul] at this
        rcases k2 with k2 | k2 <;> omega
      · exact hl
      · exfalso
        have : (t + 1) * B52 ≤ s * B52 := Nat.mul_le_mul_right _ hl
        rw [Nat.add_mul, Nat.one_mul] at this
        rcases h2 with h2 | h2 <;> omega
    subst hs
    exact ⟨rfl, by omega⟩
  rw [hst.1, hst.2]
theorem mag_parity (p : Nat) {d : Nat} (hd : 0 < d) (h : mag p d < INF) : mag p d % 2 = rdiv p (d * 2 ^ ulp p d) % 2 := by
  have : mag p d = ulp p d * B52 + rdiv p (d * 2 ^ ulp p d) := by unfold mag at h ⊢; omega
  rw [this, B52_eq]
  omega

/-- how far apart -/
def dist (a b : Nat) : Nat := a - b + (b - a)
/-- no multiple of the unit is nearer -/
theorem rdiv_near (p k : Nat) {d : Nat} (hd : 0 < d) : dist p (rdiv p d * d) ≤ dist p (k * d) ∧ (dist p (rdiv p d * d) = dist p (k * d) → k = rdiv p d ∨ rdiv p d % 2 = 0) := by
  obtain ⟨a1, a2, a3, a4⟩ := rdiv_spec p hd
  generalize rdiv p d = x at *
  have e1 : (2 * x + 1) * d = 2 * (x * d) + d := by grind
  have e2 : 2 * x * d = 2 * (x * d) := by grind
  rw [e1] at a1 a3
  rw [e2] at a2 a4
  unfold dist
  rcases Nat.lt_trichotomy k x with hl | hl | hl
  · have : (k + 1) * d ≤ x * d := Nat.mul_le_mul_right _ hl
    rw [Nat.add_mul, Nat.one_mul] at this
    generalize x * d = X at *
    generalize k * d = Y at *
    refine ⟨by omega, fun h => .inr (a4 (by omega))⟩
  · subst hl
    exact ⟨Nat.le_refl _, fun _ => .inl rfl⟩
  · have : (x + 1) * d ≤ k * d := Nat.mul_le_mul_right _ hl
    rw [Nat.add_mul, Nat.one_mul] at this
    generalize x * d = X at *
    generalize k * d = Y at *
    refine ⟨by omega, fun h => .inr (a3 (by omega))⟩
/-- NO DOUBLE IS NEARER: of two that are as near it is the even one -/
theorem nearest (p b : Nat) {d : Nat} (hd : 0 < d) (h : mag p d < INF) (hb : b < INF) :
    dist p (fv (mag p d) * d) ≤ dist p (fv b * d) ∧ (dist p (fv (mag p d) * d) = dist p (fv b * d) → fv b = fv (mag p d) ∨ mag p d % 2 = 0) := by
  rw [mag_parity p hd h, fv_mag p hd h]
  have hu : 0 < 2 ^ ulp p d := Nat.two_pow_pos _
  have hU : 0 < d * 2 ^ ulp p d := Nat.mul_pos hd hu
  rw [show rdiv p (d * 2 ^ ulp p d) * 2 ^ ulp p d * d = rdiv p (d * 2 ^ ulp p d) * (d * 2 ^ ulp p d) by grind]
  obtain ⟨y, t, e, k1, k2, k3, _⟩ := fv_norm b
  rcases Nat.lt_or_ge t (ulp p d) with hl | hl
  · -- b lies below the binade of p
    have h0 : 0 < p / d := by
      rcases Nat.eq_zero_or_pos (p / d) with hz | hz
      · unfold ulp at hl; rw [hz, blen_zero] at hl; omega
      · exact hz
    have hlow : B52 * 2 ^ ulp p d * d ≤ p := by
      have h1 := blen_self h0
      have h2 : B52 * 2 ^ ulp p d = 2 ^ (blen (p / d) - 1) := by
        rw [B52_pow, ← Nat.pow_add]; congr 1; unfold ulp at *; omega
      rw [h2]
      exact Nat.le_trans (Nat.mul_le_mul_right _ h1) (Nat.div_mul_le_self p d)
    have hy : fv b < B52 * 2 ^ ulp p d := by
      rw [e]
      have h1 : y * 2 ^ t < 2 * B52 * 2 ^ t := Nat.mul_lt_mul_of_pos_right k1 (Nat.two_pow_pos t)
      have h2 : 2 * B52 * 2 ^ t = B52 * 2 ^ (t + 1) := by rw [Nat.pow_succ]; grind
      have h3 : B52 * 2 ^ (t + 1) ≤ B52 * 2 ^ ulp p d := Nat.mul_le_mul_left _ (Nat.pow_le_pow_right (by omega) hl)
      omega
    have hy2 : fv b * d < B52 * 2 ^ ulp p d * d := Nat.mul_lt_mul_of_pos_right hy hd
    obtain ⟨n1, _⟩ := rdiv_near p B52 hU
    rw [show B52 * (d * 2 ^ ulp p d) = B52 * 2 ^ ulp p d * d by grind] at n1
    have hlt : dist p (B52 * 2 ^ ulp p d * d) < dist p (fv b * d) := by
      generalize fv b * d = x at *
      generalize B52 * 2 ^ ulp p d * d = z at *
      unfold dist; omega
    exact ⟨by omega, fun h => by omega⟩
  · have hk : fv b = (y * 2 ^ (t - ulp p d)) * 2 ^ ulp p d := by
      rw [e, Nat.mul_assoc, ← Nat.pow_add]; congr 2; omega
    rw [hk, show y * 2 ^ (t - ulp p d) * 2 ^ ulp p d * d = y * 2 ^ (t - ulp p d) * (d * 2 ^ ulp p d) by grind]
    obtain ⟨n1, n2⟩ := rdiv_near p (y * 2 ^ (t - ulp p d)) hU
    refine ⟨n1, fun h => ?_⟩
    rcases n2 h with h | h
    · left; rw [h]
    · exact .inr h
end Go.Proofs.YtibgpeaplmcogaaGreatDoor
