/-
  What the document's Exact (gradineref16.Exact) returns. Conditions: the slices read as at most 300 instructions, whose numbers have at most 64 words, and as at most 1000 numbers of at most 64 words.
-/
import Derived.Test.YtfhihapgjiaobaaGreatDigitMathAllE
namespace Go.Proofs.YtfhihapgjiaobaaGreat
set_option maxRecDepth 100000
open Go.RowKit
set_option linter.unusedVariables false
set_option linter.unusedSimpArgs false

theorem Box.put3_own {t : TypeId} {w : World} {g : Nat} {v0 v1 v2 : Value} (h : Box t w g #[v0, v1, v2]) (x0 x1 x2 : Value) : Box t (Go.Proofs.YtfhihapgjiaobaaGreat.put3 w g x0 x1 x2) g #[x0, x1, x2] := by
  have key : ∀ (w : World) (vs : Array Value) (i : Nat) (x : Value), Box t w g vs → Box t (w.setCell ⟨g, i, none⟩ x) g (vs.set! i x) := by
    intro w vs i x hb
    unfold Box at hb ⊢
    unfold World.setCell
    simp [Array.getElem?_modify, hb]
  have h1 := key _ _ 2 x2 (key _ _ 1 x1 (key _ _ 0 x0 h))
  exact h1

set_option maxRecDepth 100000 in
set_option maxHeartbeats 4000000 in
theorem ref_exact {w : World} {A B C : Option Addr} {n c m d k f : Nat} {xs : List RI} {is fs : List RQ} (h : SlP w A n c xs) (hs : Shrt 64 xs) (hi : SlR w B m d is) (his : ∀ x ∈ is, x.n ≤ 64 ∧ x.n' ≤ 64) (hf : SlR w C k f fs) (hfs : ∀ x ∈ fs, x.n ≤ 64 ∧ x.n' ≤ 64) (hn : n ≤ 300) (hm : m ≤ 1000) (hk : k ≤ 1000) :
    Calls Tryz.prog 15 #[.slice A n c, .slice B m d, .slice C k f] w (RetEx (exAll (xs.map RI.pi) (allR is) (allR fs) (qvs is) (qvs fs)) w) := by
  have hlen : (xs.map RI.pi).length = n := by rw [List.length_map]; exact h.1.1
  have P1 := ref_right15 h hs (by omega) (by omega)
  have P2 := fun (w1 : World) (hb : Below w.heap.size w w1) => ref_rats (hi.below hb) his (by omega) (by omega)
  have P3 := fun (w1 : World) (hb : Below w.heap.size w w1) => ref_rats (hf.below hb) hfs (by omega) (by omega)
  have hsi := fun hh => slq_of hi his hh
  have hsf := fun hh => slq_of hf hfs hh
  have hp := progB_iff (xs.map RI.pi)
  have hexy := fun hh => @exAll_yes (xs.map RI.pi) (qvs is) (qvs fs) hh
  have hexn := fun hh => @exAll_no (xs.map RI.pi) (allR is) (allR fs) (qvs is) (qvs fs) hh
  have HP1 := Lib.hid P1
  have HP2 := Lib.hid P2
  have HP3 := Lib.hid P3
  clear P1 P2 P3
  generalize qvs is = Is at *
  generalize qvs fs = Fs at *
  generalize progB (xs.map RI.pi) = p at *
  generalize allR is = p2 at *
  generalize allR fs = p3 at *
  cases p
  case false =>
    rw [hexn (by simp)]
    clear hexn hexy hsi hsf hp
    go_enter Tryz.func15, Tryz.ntmps15
    go_wp2_with fail
    with_reducible refine HP1.out.mono ?_
    rintro _ w1 ⟨rfl, b1⟩
    go_wp2_with fail
    go_ret3
    exact ⟨rfl, b1⟩
  case true =>
  cases p2
  case false =>
    rw [hexn (by simp)]
    clear hexn hexy hsi hsf hp
    go_enter Tryz.func15, Tryz.ntmps15
    go_wp2_with fail
    with_reducible refine HP1.out.mono ?_
    rintro _ w1 ⟨rfl, b1⟩
    go_wp2_with fail
    with_reducible refine (HP2.out _ b1).mono ?_
    rintro _ w2 ⟨rfl, b2⟩
    go_wp2_with fail
    go_ret3
    exact ⟨rfl, bb b1 b2⟩
  case true =>
  cases p3
  case false =>
    rw [hexn (by simp)]
    clear hexn hexy hsi hsf hp
    go_enter Tryz.func15, Tryz.ntmps15
    go_wp2_with fail
    with_reducible refine HP1.out.mono ?_
    rintro _ w1 ⟨rfl, b1⟩
    go_wp2_with fail
    with_reducible refine (HP2.out _ b1).mono ?_
    rintro _ w2 ⟨rfl, b2⟩
    go_wp2_with fail
    with_reducible refine (HP3.out _ (bb b1 b2)).mono ?_
    rintro _ w3 ⟨rfl, b3⟩
    go_wp2_with fail
    go_ret3
    exact ⟨rfl, bb b1 (bb b2 b3)⟩
  case true =>
  rw [hexy rfl, hlen]
  have HL := Lib.hid hlen
  clear hlen
  obtain ⟨qi, zi⟩ := hsi rfl
  obtain ⟨qf, zf⟩ := hsf rfl
  have hprog := hp.1 rfl
  clear hexn hexy hsi hsf hp hi hf his hfs
  obtain ⟨R, hR⟩ : ∃ R, R = evTo (exSt Is Fs (xs.map RI.pi)) (xs.map RI.pi) n := ⟨_, rfl⟩
  rw [← hR]
  have HR := Lib.hid hR
  clear hR
  obtain ⟨i0, hi0, hz0, hz1, hz2⟩ := info_parts infoQ
  go_enter Tryz.func15, Tryz.ntmps15
  go_wp2_with fail
  with_reducible refine HP1.out.mono ?_
  rintro _ w1 ⟨rfl, b1⟩
  go_wp2_with fail
  with_reducible refine (HP2.out _ b1).mono ?_
  rintro _ w2 ⟨rfl, b2⟩
  go_wp2_with fail
  with_reducible refine (HP3.out _ (bb b1 b2)).mono ?_
  rintro _ w3 ⟨rfl, b3⟩
  have y3 := bb b1 (bb b2 b3)
  clear b1 b2 b3 HP1 HP2 HP3
  go_wp2_with fail
  have HQI := Lib.hid qi
  have HQF := Lib.hid qf
  have HPR := Lib.hid hprog
  have HSH := Lib.hid hs
  have hQl := qf.len
  have HQL := Lib.hid hQl
  have hIl := qi.len
  have HIL := Lib.hid hIl
  clear qi qf hprog hs hQl hIl
  go_loopw [9, 10, 30] (fun vv uv iv wr => ∃ (j u : Nat) (v : List Rat), j ≤ n ∧ u ≤ j ∧ iv = .int .i64 j ∧ uv = .int .i64 u ∧ Hid (u = countTo isF (xs.map RI.pi) j) ∧ Hid (OwnQ w.heap.size wr vv v) ∧ Hid (evTo (exSt Is Fs (xs.map RI.pi)) (xs.map RI.pi) j = .ok v) ∧ Hid (AllSz 64 v) ∧ Below w.heap.size w wr) (fun _ _ iv _ => n - mes iv)
  case atStart => exact ⟨0, 0, [], by omega, by omega, rfl, rfl, Lib.hid rfl, Lib.hid ⟨[], OwnC.nil, rfl, fun j x hx => by simp at hx⟩, Lib.hid rfl, Lib.hid (fun X hX => by simp at hX), y3⟩
  case round =>
    clear y3
    obtain ⟨j, u, v, hj, huj, rfl, rfl, HU, HV, HE, HZ, hb⟩ := hrel
    have hvl : v.length = j := evTo_len HE.out
    obtain ⟨A', c', ev⟩ := HV.out.form
    rw [hvl] at ev
    subst ev
    have HVL := Lib.hid hvl
    clear hvl
    by_cases hj2 : j < n
    · obtain ⟨b0, off, x, rfl, hlt, hxk, hok, c0, c1, c2, c3, c4, c5⟩ := (h.below hb).at_ hj2
      have hp := pi_at hxk
      have hfit : fits vq nq x.pi j := by rw [← hp]; exact HPR.out.1 j (by rw [HL.out]; exact hj2)
      obtain ⟨hx1, hx2⟩ := HSH.out x (mem_at hxk)
      have zf' : AllSz 64 (Fs.drop (countTo isF (xs.map RI.pi) j)) := fun X hX => zf X (List.mem_of_mem_drop hX)
      obtain ⟨r, hr⟩ : ∃ r, raw Is (Fs.drop (countTo isF (xs.map RI.pi) j)) x.pi v = r := ⟨_, rfl⟩
      have hst : exSt Is Fs (xs.map RI.pi) j ((xs.map RI.pi).getD j PI.nil) v = big r := by rw [hp]; unfold exSt; rw [hr]
      have hqv : x.op = 2 → ∃ X, qval (x.q.s, x.q.z, x.q.z') = X ∧ Q wr x.q.s x.q.A x.q.n x.q.c x.q.A' x.q.n' x.q.c' X ∧ Sz X 64 := fun h2 => by
        have h3 : fits vq nq ⟨x.op, x.a, x.b, (x.q.s, x.q.z, x.q.z')⟩ j := hfit
        rw [h2] at h3
        obtain ⟨Y, g1, g2, g3⟩ := right_Q hok.2.2.2.1 hok.2.2.2.2.1 hx1 hx2 (fit_const h3)
        exact ⟨Y, g3.symm, g1, g2⟩
      have hsz : ∀ X, r = .ok X → Sz X 130 := fun X hX => raw_sz (by rw [hr, hX]) hfit HVL.out.symm HZ.out zi zf' (fun h2 => by
        obtain ⟨Y, g1, g2, g3⟩ := hqv h2
        show Sz (qval (x.q.s, x.q.z, x.q.z')) 64
        rw [g1]; exact g3)
      have hgf : isF ((xs.map RI.pi).getD j PI.nil) = isForm x.op := by rw [hp]; rfl
      have hup : ∀ b, isForm x.op = b → u + (if b = true then 1 else 0) = countTo isF (xs.map RI.pi) (j + 1) := fun b hbb => by
        rw [hbb] at hgf
        cases b
        · rw [count_no hgf, ← HU.out]; rfl
        · rw [count_yes hgf, ← HU.out]; rfl
      have hend : ∀ e, big r = .error e → R = .error (j, e) := fun e he => by rw [HR.out]; exact evTo_err (evTo_stop HE.out (hst.trans he)) n (by omega)
      have hnext : ∀ X, big r = .ok X → evTo (exSt Is Fs (xs.map RI.pi)) (xs.map RI.pi) (j + 1) = .ok (v ++ [X]) := fun X hX => evTo_step HE.out (hst.trans hX)
      have hdr : (Fs.drop (countTo isF (xs.map RI.pi) j)).length = k - u := by rw [List.length_drop, ← HU.out, HQL.out]
      have hd0 : (Fs.drop (countTo isF (xs.map RI.pi) j)).getD 0 0 = Fs.getD u 0 := by
        rw [List.getD_eq_getElem?_getD, List.getElem?_drop, ← HU.out, Nat.add_zero, ← List.getD_eq_getElem?_getD]
      have FO := fun (w1 : World) => Lib.hid (ref_form x.op w1)
      have hb0lt : b0 < wr.heap.size := hlt
      clear hp hgf hst zf' hxk
      obtain ⟨op, a, b, q⟩ := x
      simp only at c0 c1 c2 c3 c4 c5 hqv hup FO hx1 hx2 ⊢
      have hr : raw Is (Fs.drop (countTo isF (xs.map RI.pi) j)) ⟨op, a, b, (q.s, q.z, q.z')⟩ v = r := hr
      have hfit2 : fits vq nq ⟨op, a, b, (q.s, q.z, q.z')⟩ j := hfit
      by_cases h1 : op = 1
      · subst h1
        have HUP : Hid (u = countTo isF (xs.map RI.pi) (j + 1)) := Lib.hid (hup false (by decide))
        obtain ⟨g1, g2⟩ := fit_in hfit2
        obtain ⟨i, rfl⟩ : ∃ i : Nat, a = (i : Int) := ⟨a.toNat, by omega⟩
        by_cases hi1 : i < m
        · rw [raw_in (by simpa using (show i < Is.length by have := HIL.out; omega))] at hr
          rw [show ((i : Int)).toNat = i by omega] at hr
          subst hr
          obtain ⟨bi, oi, s1, A1, n1, c1', A2, n2, c2', rfl, hbi, k0, k1, k2, qa⟩ := (HQI.out.below hb).at_ hi1
          have hX := hsz _ rfl
          generalize Is.getD i 0 = X at *
          have hbi2 : bi < wr.heap.size + 1 := by omega
          have hbi3 : bi < wr.heap.size + 1 + 1 := by omega
          obtain ⟨V, hW, Bx, Bv, x0⟩ := boxes63 52 45 wr #[.int .i64 1, .int .i64 (i : Int), .int .i64 b, .bool q.s, .slice q.A q.n q.c, .slice q.A' q.n' q.c'] #[.bool s1, .slice A1 n1 c1', .slice A2 n2 c2']
          have qv := qa.below x0
          have HW := Lib.hid hW
          clear hW Bx qa hsz hqv hup hfit hfit2 FO hok hdr hd0 g1 g2
          have PB := ref_pbits qv hX (by omega)
          have HBv := Lib.hid Bv
          have HQV := Lib.hid qv
          have yV : Below w.heap.size w V := bb hb x0
          by_cases hbig : 4096 < bitsQ X
          · have hRR := hend 5 (big_no hbig)
            subst hRR
            unfold bitsQ at hbig
            generalize max (blen X.num.natAbs : Int) (blen X.den) = t at *
            have HPB := Lib.hid PB
            clear PB Bv qv hend hnext
            go_wp2_with fail
            rw [HW.out]
            with_reducible refine HPB.out.mono ?_
            rintro _ w2 ⟨rfl, b2⟩
            go_wp2_with fail
            go_ret3
            exact ⟨rfl, bb yV b2⟩
          · have hev2 := hnext X (big_yes hbig)
            have hz2' := HZ.out.snoc (sz_of_bits hbig)
            have HEV2 := Lib.hid hev2
            have HZ2 := Lib.hid hz2'
            unfold bitsQ at hbig
            generalize max (blen X.num.natAbs : Int) (blen X.den) = t at *
            have HPB := Lib.hid PB
            have HX := Lib.hid hX
            clear PB Bv qv hend hnext hev2 hz2' hX
            go_wp2_with fail
            rw [HW.out]
            with_reducible refine HPB.out.mono ?_
            rintro _ w2 ⟨rfl, b2⟩
            obtain ⟨p0, p1, p2⟩ := (HBv.out.below' b2).three.1
            have q2 := HQV.out.below b2
            obtain ⟨vs, o1, o2, o3⟩ := HV.out.below (bb x0 b2)
            have y2 : Below w.heap.size w w2 := bb yV b2
            have hvs : vs.length = j := by rw [o2]; exact HVL.out
            have hok2 : (⟨s1, A1, n1, c1', (words X.num.natAbs), A2, n2, c2', (words X.den)⟩ : RQ).ok w2 := ⟨q2.2.1, q2.2.2, show n1 ≤ maxLen by have := q2.2.1.small HX.out.1; unfold maxLen; omega, show n2 ≤ maxLen by have := q2.2.2.small HX.out.2; unfold maxLen; omega⟩
            have HO1 := Lib.hid o1
            have HO2 := Lib.hid o2
            have HO3 := Lib.hid o3
            have HVS := Lib.hid hvs
            have HQ2 := Lib.hid q2
            have HOK := Lib.hid hok2
            clear o1 o2 o3 hvs q2 hok2
            go_wp2_with (at_builtin; refine wpList_append_C _ rfl _ _ 23 rfl w.heap.size 45 i0 _ 56 Tryz.underlying23 hi0 hz0 hz1 hz2 rfl (by decide) zeroQ _ vs rfl (HO1.out.below (below_alloc _ _)) ⟨w2.heap.size, 0, none⟩ 1 (⟨s1, A1, n1, c1', (words X.num.natAbs), A2, n2, c2', (words X.den)⟩ : RQ) rfl rfl ?c1 (rq_one _) (rq_noW _) ?c3 ?c4 ?c5 ?_)
            case c1 => exact news_new w2 _ _
            case c3 => have := HVS.out; unfold maxLen; omega
            case c4 => have := HVS.out; omega
            case c5 => have := y2.size; simp; omega
            intro v' w4 hown hgrow
            have hbn := (y2.alloc y2.size _).grown hgrow (by have := y2.size; simp; omega) (HO1.out.base)
            have HOQ := Lib.hid (OwnQ.append HO1.out HO2.out HO3.out HOK.out HQ2.out hown hgrow)
            clear hown hgrow
            go_wp2_with fail
            go_roundw
            case rel => exact ⟨j + 1, u, v ++ [X], by omega, by omega, by go_num, rfl, HUP, HOQ, HEV2, HZ2, hbn⟩
            case measure => simp [mes, intOf]; omega
        · rw [raw_in_no (by simpa using (show ¬ i < Is.length by have := HIL.out; omega))] at hr
          subst hr
          have hRR := hend 11 rfl
          subst hRR
          clear hsz hqv hup hfit hfit2 FO hok hend hnext hdr hd0 g1 g2
          go_wp2_with fail
          go_ret3
          have y1 := hb.alloc hb.size (.cells #[.int .i64 1, .int .i64 (i : Int), .int .i64 b, .bool q.s, .slice q.A q.n q.c, .slice q.A' q.n' q.c'] 52)
          exact ⟨rfl, y1.alloc y1.size _⟩
      · have e1 : (op == 1) = false := by simpa using h1
        by_cases h2 : op = 2
        · subst h2
          have HUP : Hid (u = countTo isF (xs.map RI.pi) (j + 1)) := Lib.hid (hup false (by decide))
          rw [raw_const] at hr
          obtain ⟨X, g1, g2, g3⟩ := hqv rfl
          rw [g1] at hr
          subst hr
          have hX := g3.mono (show 64 ≤ 130 by omega)
          obtain ⟨s1, A1, n1, c1', z1, A2, n2, c2', z2⟩ := q
          simp only at c3 c4 c5 g2
          obtain ⟨V, hW, Bx, Bv, x0⟩ := boxes63 52 45 wr #[.int .i64 2, .int .i64 a, .int .i64 b, .bool s1, .slice A1 n1 c1', .slice A2 n2 c2'] #[.bool s1, .slice A1 n1 c1', .slice A2 n2 c2']
          have qv := g2.below x0
          have HW := Lib.hid hW
          clear hW Bx g1 g2 g3 hsz hqv hup hfit hfit2 FO hok
          have PB := ref_pbits qv hX (by omega)
          have HBv := Lib.hid Bv
          have HQV := Lib.hid qv
          have yV : Below w.heap.size w V := bb hb x0
          by_cases hbig : 4096 < bitsQ X
          · have hRR := hend 5 (big_no hbig)
            subst hRR
            unfold bitsQ at hbig
            generalize max (blen X.num.natAbs : Int) (blen X.den) = t at *
            have HPB := Lib.hid PB
            clear PB Bv qv hend hnext
            go_wp2_with fail
            rw [HW.out]
            with_reducible refine HPB.out.mono ?_
            rintro _ w2 ⟨rfl, b2⟩
            go_wp2_with fail
            go_ret3
            exact ⟨rfl, bb yV b2⟩
          · have hev2 := hnext X (big_yes hbig)
            have hz2' := HZ.out.snoc (sz_of_bits hbig)
            have HEV2 := Lib.hid hev2
            have HZ2 := Lib.hid hz2'
            unfold bitsQ at hbig
            generalize max (blen X.num.natAbs : Int) (blen X.den) = t at *
            have HPB := Lib.hid PB
            have HX := Lib.hid hX
            clear PB Bv qv hend hnext hev2 hz2' hX
            go_wp2_with fail
            rw [HW.out]
            with_reducible refine HPB.out.mono ?_
            rintro _ w2 ⟨rfl, b2⟩
            obtain ⟨p0, p1, p2⟩ := (HBv.out.below' b2).three.1
            have q2 := HQV.out.below b2
            obtain ⟨vs, o1, o2, o3⟩ := HV.out.below (bb x0 b2)
            have y2 : Below w.heap.size w w2 := bb yV b2
            have hvs : vs.length = j := by rw [o2]; exact HVL.out
            have hok2 : (⟨s1, A1, n1, c1', (words X.num.natAbs), A2, n2, c2', (words X.den)⟩ : RQ).ok w2 := ⟨q2.2.1, q2.2.2, show n1 ≤ maxLen by have := q2.2.1.small HX.out.1; unfold maxLen; omega, show n2 ≤ maxLen by have := q2.2.2.small HX.out.2; unfold maxLen; omega⟩
            have HO1 := Lib.hid o1
            have HO2 := Lib.hid o2
            have HO3 := Lib.hid o3
            have HVS := Lib.hid hvs
            have HQ2 := Lib.hid q2
            have HOK := Lib.hid hok2
            clear o1 o2 o3 hvs q2 hok2
            go_wp2_with (at_builtin; refine wpList_append_C _ rfl _ _ 23 rfl w.heap.size 45 i0 _ 56 Tryz.underlying23 hi0 hz0 hz1 hz2 rfl (by decide) zeroQ _ vs rfl (HO1.out.below (below_alloc _ _)) ⟨w2.heap.size, 0, none⟩ 1 (⟨s1, A1, n1, c1', (words X.num.natAbs), A2, n2, c2', (words X.den)⟩ : RQ) rfl rfl ?c1 (rq_one _) (rq_noW _) ?c3 ?c4 ?c5 ?_)
            case c1 => exact news_new w2 _ _
            case c3 => have := HVS.out; unfold maxLen; omega
            case c4 => have := HVS.out; omega
            case c5 => have := y2.size; simp; omega
            intro v' w4 hown hgrow
            have hbn := (y2.alloc y2.size _).grown hgrow (by have := y2.size; simp; omega) (HO1.out.base)
            have HOQ := Lib.hid (OwnQ.append HO1.out HO2.out HO3.out HOK.out HQ2.out hown hgrow)
            clear hown hgrow
            go_wp2_with fail
            go_roundw
            case rel => exact ⟨j + 1, u, v ++ [X], by omega, by omega, by go_num, rfl, HUP, HOQ, HEV2, HZ2, hbn⟩
            case measure => simp [mes, intOf]; omega
        · have e2 : (op == 2) = false := by simpa using h2
          obtain ⟨fm, hfm⟩ : ∃ fm, isForm op = fm := ⟨_, rfl⟩
          rw [hfm] at FO
          cases fm
          case true =>
            have HUP : Hid (u + 1 = countTo isF (xs.map RI.pi) (j + 1)) := Lib.hid (hup true hfm)
            by_cases hu1 : u < k
            · rw [raw_form hfm (by rw [hdr]; omega), hd0] at hr
              subst hr
              obtain ⟨bi, oi, s1, A1, n1, c1', A2, n2, c2', rfl, hbi, k0, k1, k2, qa⟩ := (HQF.out.below hb).at_ hu1
              have hX := hsz _ rfl
              generalize Fs.getD u 0 = X at *
              have hbi2 : bi < wr.heap.size + 1 := by omega
              have hbi3 : bi < wr.heap.size + 1 + 1 := by omega
              obtain ⟨V, hW, Bx, Bv, x0⟩ := boxes63 52 45 wr #[.int .i64 op, .int .i64 a, .int .i64 b, .bool q.s, .slice q.A q.n q.c, .slice q.A' q.n' q.c'] #[.bool s1, .slice A1 n1 c1', .slice A2 n2 c2']
              have qv := qa.below x0
              have HW := Lib.hid hW
              clear hW Bx qa hsz hqv hup hfit hfit2 hok hdr hd0 hfm
              have PB := ref_pbits qv hX (by omega)
              have HBv := Lib.hid Bv
              have HQV := Lib.hid qv
              have yV : Below w.heap.size w V := bb hb x0
              by_cases hbig : 4096 < bitsQ X
              · have hRR := hend 5 (big_no hbig)
                subst hRR
                unfold bitsQ at hbig
                generalize max (blen X.num.natAbs : Int) (blen X.den) = t at *
                have HPB := Lib.hid PB
                clear PB Bv qv hend hnext
                go_wp2_with fail
                with_reducible refine (FO _).out.mono ?_
                rintro _ w0 ⟨rfl, rfl⟩
                go_wp2_with fail
                rw [HW.out]
                with_reducible refine HPB.out.mono ?_
                rintro _ w2 ⟨rfl, b2⟩
                go_wp2_with fail
                go_ret3
                exact ⟨rfl, bb yV b2⟩
              · have hev2 := hnext X (big_yes hbig)
                have hz2' := HZ.out.snoc (sz_of_bits hbig)
                have HEV2 := Lib.hid hev2
                have HZ2 := Lib.hid hz2'
                unfold bitsQ at hbig
                generalize max (blen X.num.natAbs : Int) (blen X.den) = t at *
                have HPB := Lib.hid PB
                have HX := Lib.hid hX
                clear PB Bv qv hend hnext hev2 hz2' hX
                go_wp2_with fail
                with_reducible refine (FO _).out.mono ?_
                rintro _ w0 ⟨rfl, rfl⟩
                go_wp2_with fail
                rw [HW.out]
                with_reducible refine HPB.out.mono ?_
                rintro _ w2 ⟨rfl, b2⟩
                obtain ⟨p0, p1, p2⟩ := (HBv.out.below' b2).three.1
                have q2 := HQV.out.below b2
                obtain ⟨vs, o1, o2, o3⟩ := HV.out.below (bb x0 b2)
                have y2 : Below w.heap.size w w2 := bb yV b2
                have hvs : vs.length = j := by rw [o2]; exact HVL.out
                have hok2 : (⟨s1, A1, n1, c1', (words X.num.natAbs), A2, n2, c2', (words X.den)⟩ : RQ).ok w2 := ⟨q2.2.1, q2.2.2, show n1 ≤ maxLen by have := q2.2.1.small HX.out.1; unfold maxLen; omega, show n2 ≤ maxLen by have := q2.2.2.small HX.out.2; unfold maxLen; omega⟩
                have HO1 := Lib.hid o1
                have HO2 := Lib.hid o2
                have HO3 := Lib.hid o3
                have HVS := Lib.hid hvs
                have HQ2 := Lib.hid q2
                have HOK := Lib.hid hok2
                clear o1 o2 o3 hvs q2 hok2
                go_wp2_with (at_builtin; refine wpList_append_C _ rfl _ _ 23 rfl w.heap.size 45 i0 _ 56 Tryz.underlying23 hi0 hz0 hz1 hz2 rfl (by decide) zeroQ _ vs rfl (HO1.out.below (below_alloc _ _)) ⟨w2.heap.size, 0, none⟩ 1 (⟨s1, A1, n1, c1', (words X.num.natAbs), A2, n2, c2', (words X.den)⟩ : RQ) rfl rfl ?c1 (rq_one _) (rq_noW _) ?c3 ?c4 ?c5 ?_)
                case c1 => exact news_new w2 _ _
                case c3 => have := HVS.out; unfold maxLen; omega
                case c4 => have := HVS.out; omega
                case c5 => have := y2.size; simp; omega
                intro v' w4 hown hgrow
                have hbn := (y2.alloc y2.size _).grown hgrow (by have := y2.size; simp; omega) (HO1.out.base)
                have HOQ := Lib.hid (OwnQ.append HO1.out HO2.out HO3.out HOK.out HQ2.out hown hgrow)
                clear hown hgrow
                go_wp2_with fail
                go_roundw
                case rel => exact ⟨j + 1, u + 1, v ++ [X], by omega, by omega, by go_num, by go_num, HUP, HOQ, HEV2, HZ2, hbn⟩
                case measure => simp [mes, intOf]; omega
            · rw [raw_form_no hfm (by rw [hdr]; omega)] at hr
              subst hr
              have hRR := hend 6 rfl
              subst hRR
              clear hsz hqv hup hfit hfit2 hok hend hnext hdr hd0 hfm
              go_wp2_with fail
              with_reducible refine (FO _).out.mono ?_
              rintro _ w0 ⟨rfl, rfl⟩
              go_wp2_with fail
              go_ret3
              have y1 := hb.alloc hb.size (.cells #[.int .i64 op, .int .i64 a, .int .i64 b, .bool q.s, .slice q.A q.n q.c, .slice q.A' q.n' q.c'] 52)
              exact ⟨rfl, y1.alloc y1.size _⟩
          case false =>
            have HUP : Hid (u = countTo isF (xs.map RI.pi) (j + 1)) := Lib.hid (hup false hfm)
            obtain ⟨V0, hW0, Bx, B0, x00⟩ := boxes63 52 45 wr #[.int .i64 op, .int .i64 a, .int .i64 b, .bool q.s, .slice q.A q.n q.c, .slice q.A' q.n' q.c'] #[.bool false, .slice none 0 0, .slice none 0 0]
            have ST := ref_step (ins := Is) (fs := Fs.drop (countTo isF (xs.map RI.pi) j)) (HV.out.slq.below x00) HZ.out (by omega) hfit h1 h2 hfm
            have hr9 : raw Is (Fs.drop (countTo isF (xs.map RI.pi) j)) (RI.pi ⟨op, a, b, q⟩) v = r := hr
            rw [hr9] at ST
            have hre : ∀ e, r = .error e → e = 4 ∨ e = 6 ∨ e = 11 := fun e he => raw_err (hr.trans he)
            have HST := Lib.hid ST
            have HW0 := Lib.hid hW0
            have HB0 := Lib.hid B0
            clear ST hW0 B0 Bx hr9 hr hqv hup hfit hfit2 hok hdr hd0 hfm
            cases r with
            | error e =>
              have hRR := hend e rfl
              subst hRR
              rcases hre e rfl with rfl | rfl | rfl
              all_goals
                clear hre hsz hend hnext
                go_wp2_with fail
                with_reducible refine (FO _).out.mono ?_
                rintro _ w0 ⟨rfl, rfl⟩
                go_wp2_with fail
                rw [HW0.out]
                with_reducible refine HST.out.mono ?_
                rintro _ w1 ⟨rfl, b1⟩
                have B9 := HB0.out.below' b1
                obtain ⟨⟨r0, r1, r2⟩, f0, f1, f2⟩ := B9.three
                go_wp2_with fail
                go_ret3
                exact ⟨rfl, below_put3 (bb hb (bb x00 b1)) (by have := hb.size; omega) (Nat.le_refl _) _ _ _⟩
            | ok X =>
              have hX := hsz X rfl
              clear hre hsz
              go_wp2_with fail
              with_reducible refine (FO _).out.mono ?_
              rintro _ w0 ⟨rfl, rfl⟩
              go_wp2_with fail
              rw [HW0.out]
              with_reducible refine HST.out.mono ?_
              rintro _ w1 ⟨s1, A1, n1, c1', A2, n2, c2', rfl, q1, b1⟩
              have B9 := HB0.out.below' b1
              obtain ⟨⟨r0, r1, r2⟩, f0, f1, f2⟩ := B9.three
              obtain ⟨V, hW, Bv, qv, x0⟩ : ∃ V, put3 w1 (wr.heap.size + 1) (.bool s1) (.slice A1 n1 c1') (.slice A2 n2 c2') = V ∧ Box 45 V (wr.heap.size + 1) #[.bool s1, .slice A1 n1 c1', .slice A2 n2 c2'] ∧ Q V s1 A1 n1 c1' A2 n2 c2' X ∧ Below wr.heap.size wr V :=
                ⟨_, rfl, B9.put3_own _ _ _, q1.put3 ⟨_, _, _, _, _, _, _, B9⟩, below_put3 (bb x00 b1) (by omega) (Nat.le_refl _) _ _ _⟩
              unfold put3 at hW
              have HW := Lib.hid hW
              clear hW B9 q1 b1 HST HW0 FO
              have PB := ref_pbits qv hX (by omega)
              have HBv := Lib.hid Bv
              have HQV := Lib.hid qv
              have yV : Below w.heap.size w V := bb hb x0
              by_cases hbig : 4096 < bitsQ X
              · have hRR := hend 5 (big_no hbig)
                subst hRR
                unfold bitsQ at hbig
                generalize max (blen X.num.natAbs : Int) (blen X.den) = t at *
                have HPB := Lib.hid PB
                clear PB Bv qv hend hnext
                go_wp2_with fail
                rw [HW.out]
                with_reducible refine HPB.out.mono ?_
                rintro _ w2 ⟨rfl, b2⟩
                go_wp2_with fail
                go_ret3
                exact ⟨rfl, bb yV b2⟩
              · have hev2 := hnext X (big_yes hbig)
                have hz2' := HZ.out.snoc (sz_of_bits hbig)
                have HEV2 := Lib.hid hev2
                have HZ2 := Lib.hid hz2'
                unfold bitsQ at hbig
                generalize max (blen X.num.natAbs : Int) (blen X.den) = t at *
                have HPB := Lib.hid PB
                have HX := Lib.hid hX
                clear PB Bv qv hend hnext hev2 hz2' hX
                go_wp2_with fail
                rw [HW.out]
                with_reducible refine HPB.out.mono ?_
                rintro _ w2 ⟨rfl, b2⟩
                obtain ⟨p0, p1, p2⟩ := (HBv.out.below' b2).three.1
                have q2 := HQV.out.below b2
                obtain ⟨vs, o1, o2, o3⟩ := HV.out.below (bb x0 b2)
                have y2 : Below w.heap.size w w2 := bb yV b2
                have hvs : vs.length = j := by rw [o2]; exact HVL.out
                have hok2 : (⟨s1, A1, n1, c1', (words X.num.natAbs), A2, n2, c2', (words X.den)⟩ : RQ).ok w2 := ⟨q2.2.1, q2.2.2, show n1 ≤ maxLen by have := q2.2.1.small HX.out.1; unfold maxLen; omega, show n2 ≤ maxLen by have := q2.2.2.small HX.out.2; unfold maxLen; omega⟩
                have HO1 := Lib.hid o1
                have HO2 := Lib.hid o2
                have HO3 := Lib.hid o3
                have HVS := Lib.hid hvs
                have HQ2 := Lib.hid q2
                have HOK := Lib.hid hok2
                clear o1 o2 o3 hvs q2 hok2
                go_wp2_with (at_builtin; refine wpList_append_C _ rfl _ _ 23 rfl w.heap.size 45 i0 _ 56 Tryz.underlying23 hi0 hz0 hz1 hz2 rfl (by decide) zeroQ _ vs rfl (HO1.out.below (below_alloc _ _)) ⟨w2.heap.size, 0, none⟩ 1 (⟨s1, A1, n1, c1', (words X.num.natAbs), A2, n2, c2', (words X.den)⟩ : RQ) rfl rfl ?c1 (rq_one _) (rq_noW _) ?c3 ?c4 ?c5 ?_)
                case c1 => exact news_new w2 _ _
                case c3 => have := HVS.out; unfold maxLen; omega
                case c4 => have := HVS.out; omega
                case c5 => have := y2.size; simp; omega
                intro v' w4 hown hgrow
                have hbn := (y2.alloc y2.size _).grown hgrow (by have := y2.size; simp; omega) (HO1.out.base)
                have HOQ := Lib.hid (OwnQ.append HO1.out HO2.out HO3.out HOK.out HQ2.out hown hgrow)
                clear hown hgrow
                go_wp2_with fail
                go_roundw
                case rel => exact ⟨j + 1, u, v ++ [X], by omega, by omega, by go_num, rfl, HUP, HOQ, HEV2, HZ2, hbn⟩
                case measure => simp [mes, intOf]; omega
    · obtain rfl : j = n := by omega
      have hRR : R = .ok v := by rw [HR.out, HE.out]
      subst hRR
      go_wp2_with fail
      go_ret3
      exact ⟨⟨_, _, _, rfl, HV.out.slq⟩, hb⟩

end Go.Proofs.YtfhihapgjiaobaaGreat
