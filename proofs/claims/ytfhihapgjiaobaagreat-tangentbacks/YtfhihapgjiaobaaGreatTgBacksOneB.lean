/-
  The law TangentBacks returns true. Condition: the slices read as lists.
-/
import Derived.Test.YtfhihapgjiaobaaGreatTgWOneB
import Derived.Test.YtfhihapgjiaobaaGreatEvJAllB
namespace Go.Proofs.YtfhihapgjiaobaaGreat
set_option maxRecDepth 100000
open Go.RowKit
set_option linter.unusedVariables false
set_option linter.unusedSimpArgs false

set_option maxHeartbeats 2000000 in
theorem ref_sameRL {w : World} {A B : Option Addr} {n c d N : Nat} {v : List Rat} (h : SlQ w A n c v) (k : SlQ w B n d v) (z : AllSz N v) (hN : N ≤ 40000) (hn : n ≤ 65536) :
    Calls Tryz.prog 11 #[.slice A n c, .slice B n d] w (RetBl true w) := by
  have hlen := h.len
  have HL := Lib.hid hlen
  have HH := Lib.hid h
  have HK := Lib.hid k
  clear hlen h k
  go_enter Tryz.func11, Tryz.ntmps11
  go_wp2_with fail
  go_loopw [13] (fun iv wr => ∃ j : Nat, j ≤ n ∧ iv = .int .i64 j ∧ Below w.heap.size w wr) (fun iv _ => n - mes iv)
  case atStart => exact ⟨0, by omega, rfl, Below.refl _ _⟩
  case round =>
    obtain ⟨j, hj, rfl, hb⟩ := hrel
    by_cases hj2 : j < n
    · obtain ⟨b1, o1, sa, A1, n1, c1, A2, n2, c2, rfl, hb1, k0, k1, k2, qa⟩ := (HH.out.below hb).at_ hj2
      obtain ⟨b2, o2, sb, A5, n5, c5, A6, n6, c6, rfl, hb2, j0, j1, j2, qb⟩ := (HK.out.below hb).at_ hj2
      have SM := fun (w1 : World) (hb9 : Below wr.heap.size wr w1) => (show Calls Tryz.prog 25 _ w1 (RetBl true w1) from by have := ref_sameQ (qa.below hb9) (qb.below hb9) (z.at_ (by have := HL.out; omega)) (z.at_ (by have := HL.out; omega)) hN; rw [decide_eq_true rfl] at this; exact this)
      have hS : ∀ w', Below wr.heap.size wr w' → (w'.cell? ⟨b1, o1 + j * 3, none⟩ = some (.bool sa) ∧ w'.cell? ⟨b1, o1 + j * 3 + 1, none⟩ = some (.slice A1 n1 c1) ∧ w'.cell? ⟨b1, o1 + j * 3 + 2, none⟩ = some (.slice A2 n2 c2)) ∧ (w'.cell? ⟨b2, o2 + j * 3, none⟩ = some (.bool sb) ∧ w'.cell? ⟨b2, o2 + j * 3 + 1, none⟩ = some (.slice A5 n5 c5) ∧ w'.cell? ⟨b2, o2 + j * 3 + 2, none⟩ = some (.slice A6 n6 c6)) := fun w' hb9 =>
        ⟨⟨(hb9.cell (p := ⟨b1, o1 + j * 3, none⟩) hb1).trans k0, (hb9.cell (p := ⟨b1, o1 + j * 3 + 1, none⟩) hb1).trans k1, (hb9.cell (p := ⟨b1, o1 + j * 3 + 2, none⟩) hb1).trans k2⟩,
         (hb9.cell (p := ⟨b2, o2 + j * 3, none⟩) hb2).trans j0, (hb9.cell (p := ⟨b2, o2 + j * 3 + 1, none⟩) hb2).trans j1, (hb9.cell (p := ⟨b2, o2 + j * 3 + 2, none⟩) hb2).trans j2⟩
      have HSM := Lib.hid SM
      have HS := Lib.hid hS
      clear SM hS qa qb
      go_wp2_with fail
      go_region_held3 (fun w' => (w'.cell? ⟨b1, o1 + j * 3, none⟩ = some (.bool sa) ∧ w'.cell? ⟨b1, o1 + j * 3 + 1, none⟩ = some (.slice A1 n1 c1) ∧ w'.cell? ⟨b1, o1 + j * 3 + 2, none⟩ = some (.slice A2 n2 c2)) ∧ (w'.cell? ⟨b2, o2 + j * 3, none⟩ = some (.bool sb) ∧ w'.cell? ⟨b2, o2 + j * 3 + 1, none⟩ = some (.slice A5 n5 c5) ∧ w'.cell? ⟨b2, o2 + j * 3 + 2, none⟩ = some (.slice A6 n6 c6))) (first | exact HS.out _ (Below.refl _ wr).drew | exact HS.out _ x2 | fail)
        (first
          | (go_at_call 25; (with_reducible refine (HSM.out _ ?hb1).mono ?_); (case hb1 => exact (Below.refl _ wr).drew); rintro _ w2 ⟨rfl, b2'⟩; have x2 : Below wr.heap.size wr w2 := Below.undrew b2'))
      all_goals
        go_wp2_with fail
        go_roundw
        case rel => exact ⟨j + 1, by omega, by go_num, bb hb x2⟩
        case measure => simp [mes, intOf]; omega
    · obtain rfl : j = n := by omega
      go_wp2_with fail
      go_ret
      exact ⟨rfl, hb⟩

theorem bk_szs {l : List PI} {p q r s : Bool} {is fs cs b : List Rat} {outs : List Int} (h : bkAll l p q r s is fs outs cs = .ok b) (hl : l.length ≤ 60) (hm : is.length ≤ 30) : AllSz 5000 b ∧ b.length ≤ is.length := by
  obtain ⟨_, _, _, _, v, u, hv, hob, hg, rfl⟩ := bk_oks h
  obtain ⟨hpb, _, _, hev⟩ := exAll_ok hv
  have hin := inputs_le (l := l) (M := is.length) l.length (fun i hi h1 => by have := exact_in hev hi h1; omega)
  have hbl : u.2.length = (inputsTo l l.length).toNat := by rw [give_len _ _ _ hg]; exact List.length_replicate ..
  obtain ⟨N', n1, n2⟩ := give_szs (inputsTo l l.length).toNat l.length _ _ hg (fun _ => 1) (fun j => by
    show Sz ((List.replicate _ (0 : Rat)).getD j 0) 1
    rw [List.getD_eq_getElem?_getD, List.getElem?_replicate]
    split <;> exact sz_zero 1 (by omega))
  rw [sumTo_one] at n2
  refine ⟨fun X hX => ?_, by omega⟩
  obtain ⟨j, hj, rfl⟩ := List.mem_iff_getElem.1 hX
  have h3 := sumTo_le (N := N') (show j + 1 ≤ (inputsTo l l.length).toNat by omega)
  have h4 : sumTo N' (j + 1) = sumTo N' j + N' j := rfl
  have h5 := (n1 j).mono (show N' j ≤ 5000 by omega)
  rw [List.getD_eq_getElem?_getD, List.getElem?_eq_getElem hj] at h5
  exact h5

set_option maxRecDepth 100000 in
set_option maxHeartbeats 4000000 in
theorem tangentBacks_walk {w : World} {A B D C O E : Option Addr} {n c m d kd e k f mo o_ kc cc : Nat} {xs : List RI} {is ds fs cs : List RQ} {outs : List Int} (h : SlP w A n c xs) (hi : SlR w B m d is) (hd : SlR w D kd e ds) (hf : SlR w C k f fs) (ho : SlZ w O mo o_ outs) (hc : SlR w E kc cc cs) :
    Calls Tryz.prog 4 #[.agg #[.slice A n c, .slice B m d, .slice D kd e, .slice C k f], .slice O mo o_, .slice E kc cc] w (RetBl true w) := by
  obtain ⟨V, hV, Bx, hb0⟩ := box0 25 w #[.slice A n c, .slice B m d, .slice D kd e, .slice C k f]
  obtain ⟨b, hb, FW⟩ := law_few17 (h.below hb0) (hi.below hb0) (hd.below hb0) (hf.below hb0)
  have HFW := Lib.hid FW
  have HV := Lib.hid hV
  have HB := Lib.hid Bx
  have hlt : w.heap.size < V.heap.size := Bx.lt
  have HLT := Lib.hid hlt
  obtain ⟨k0, k1, k2, k3⟩ := HB.out.four
  have L1 := fun (w1 : World) (hb : Below w.heap.size w w1) => plain_longer (hc.below hb) 3
  have HL := Lib.hid L1
  clear FW hV Bx L1 hlt
  cases b
  case false =>
    clear hb
    go_enter Tryz.func4, Tryz.ntmps4
    go_wp2_with fail
    rw [HV.out]
    with_reducible refine HFW.out.mono ?_
    rintro _ w1 ⟨rfl, b1⟩
    go_wp2_with fail
    with_reducible refine (same17 _).mono ?_
    rintro _ w2 ⟨rfl, b2⟩
    go_wp2_with fail
    go_ret
    exact ⟨rfl, bb hb0 (bb b1 b2)⟩
  case true =>
  by_cases g1 : mo ≤ 30
  case neg =>
    have g2 : (30 : Int) < (mo : Int) := by omega
    clear hb
    go_enter Tryz.func4, Tryz.ntmps4
    go_wp2_with fail
    rw [HV.out]
    with_reducible refine HFW.out.mono ?_
    rintro _ w1 ⟨rfl, b1⟩
    go_wp2_with fail
    with_reducible refine (same17 _).mono ?_
    rintro _ w2 ⟨rfl, b2⟩
    go_wp2_with fail
    go_ret
    exact ⟨rfl, bb hb0 (bb b1 b2)⟩
  case pos =>
  have g1i : ¬ (30 : Int) < (mo : Int) := by omega
  by_cases g2 : kc ≤ 30
  case neg =>
    have g3 : (30 : Int) < (kc : Int) := by omega
    clear hb
    go_enter Tryz.func4, Tryz.ntmps4
    go_wp2_with fail
    rw [HV.out]
    with_reducible refine HFW.out.mono ?_
    rintro _ w1 ⟨rfl, b1⟩
    go_wp2_with fail
    with_reducible refine (same17 _).mono ?_
    rintro _ w2 ⟨rfl, b2⟩
    go_wp2_with fail
    go_ret
    exact ⟨rfl, bb hb0 (bb b1 b2)⟩
  case pos =>
  have g2i : ¬ (30 : Int) < (kc : Int) := by omega
  have hcs0 : anyR 3 cs = false → ∀ x ∈ cs, x.n ≤ 3 ∧ x.n' ≤ 3 := fun h9 => anyR_short (k := 3) h9
  generalize hq9 : anyR 3 cs = q9 at *
  cases q9
  case true =>
    clear hb hcs0
    go_enter Tryz.func4, Tryz.ntmps4
    go_wp2_with fail
    rw [HV.out]
    with_reducible refine HFW.out.mono ?_
    rintro _ w1 ⟨rfl, b1⟩
    go_wp2_with fail
    with_reducible refine (HL.out _ (bb hb0 b1)).mono ?_
    rintro _ w2 ⟨rfl, b2⟩
    go_wp2_with fail
    with_reducible refine (same17 _).mono ?_
    rintro _ w3 ⟨rfl, b3⟩
    go_wp2_with fail
    go_ret
    exact ⟨rfl, bb hb0 (bb b1 (bb b2 b3))⟩
  case false =>
  have hcs := hcs0 rfl
  obtain ⟨m1, m2, m3, m4, hs, hsi, hsd, hsf⟩ := few_short (hb.1 rfl)
  clear hcs0 hb
  have hs' : Shrt 64 xs := fun x hx => ⟨Nat.le_trans (hs x hx).1 (by omega), Nat.le_trans (hs x hx).2 (by omega)⟩
  have hsi' : ∀ x ∈ is, x.n ≤ 64 ∧ x.n' ≤ 64 := fun x hx => by have := hsi x hx; omega
  have hsf' : ∀ x ∈ fs, x.n ≤ 64 ∧ x.n' ≤ 64 := fun x hx => by have := hsf x hx; omega
  have hsc' : ∀ x ∈ cs, x.n ≤ 8 ∧ x.n' ≤ 8 := fun x hx => by have := hcs x hx; omega
  have E2 := fun (w1 : World) (hb9 : Below w.heap.size w w1) => tg_back (h.below hb9) hs' (hi.below hb9) hsi' (hf.below hb9) hsf' (ho.below hb9) (hc.below hb9) hsc' (by omega) (by omega) (by omega) (by omega) (by omega)
  have X2 := fun (w1 : World) (hb9 : Below w.heap.size w w1) => ref_exact (h.below hb9) hs' (hi.below hb9) hsi' (hf.below hb9) hsf' (by omega) (by omega) (by omega)
  have C1 := fun (w1 : World) (hb : Below w.heap.size w w1) => ref_rats (hc.below hb) hcs (by omega) (by omega)
  have hlen : (xs.map RI.pi).length = n := by rw [List.length_map]; exact h.1.1
  have hil : (qvs is).length = m := by unfold qvs; rw [List.length_map]; exact hi.1.1
  have hsz := fun b (h9 : bkAll (xs.map RI.pi) (allR is) (allR fs) (allR cs) (decide (mo = kc)) (qvs is) (qvs fs) outs (qvs cs) = .ok b) => bk_szs h9 (by omega) (by omega)
  have hqc := fun h9 => slq_of hc hsc' h9
  have HL1 := Lib.hid h
  have HO1 := Lib.hid ho
  have HX2 := Lib.hid X2
  have HC1 := Lib.hid C1
  clear X2 C1 hi hd hf hc hs hsi hsd hsf hs' hsi' hsf' hsc' hcs h ho
  by_cases hmk : mo = kc
  case neg =>
    have E3 := fun (w1 : World) (hb9 : Below w.heap.size w w1) => (E2 w1 hb9)
    simp only [bkAll_no (l := xs.map RI.pi) (p := allR is) (q := allR fs) (r := allR cs) (s := decide (mo = kc)) (ins := qvs is) (forms := qvs fs) (outs := outs) (cots := qvs cs) (by simp [hmk])] at E3
    have HE3 := Lib.hid E3
    have hmk2 : ¬ (mo : Int) = (kc : Int) := by omega
    have hmk3 : ((mo : Int) == (kc : Int)) = false := by simpa using hmk2
    clear E3 E2 hsz hqc hq9
    go_enter Tryz.func4, Tryz.ntmps4
    go_wp2_with fail
    rw [HV.out]
    with_reducible refine HFW.out.mono ?_
    rintro _ w1 ⟨rfl, b1⟩
    go_wp2_with fail
    with_reducible refine (HL.out _ (bb hb0 b1)).mono ?_
    rintro _ w2 ⟨rfl, b2⟩
    obtain ⟨k0, k1, k2, k3⟩ := (HB.out.below' (bb b1 b2)).four
    go_wp2_with fail
    with_reducible refine (HE3.out _ (bb hb0 (bb b1 b2))).mono ?_
    rintro _ w3 ⟨rfl, b3⟩
    go_wp2_with fail
    with_reducible refine (same17 _).mono ?_
    rintro _ w4 ⟨rfl, b4⟩
    go_wp2_with fail
    go_ret
    exact ⟨rfl, bb hb0 (bb b1 (bb b2 (bb b3 b4)))⟩
  case pos =>
  subst hmk
  rw [show decide (mo = mo) = true from decide_eq_true rfl] at E2 hsz
  generalize hp : allR cs = p at *
  cases p
  case false =>
    have E3 := E2
    simp only [bkAll_no (l := xs.map RI.pi) (p := allR is) (q := allR fs) (r := false) (s := true) (ins := qvs is) (forms := qvs fs) (outs := outs) (cots := qvs cs) (by simp)] at E3
    have HE3 := Lib.hid E3
    clear E3 E2 hsz hqc hp hq9
    go_enter Tryz.func4, Tryz.ntmps4
    go_wp2_with fail
    rw [HV.out]
    with_reducible refine HFW.out.mono ?_
    rintro _ w1 ⟨rfl, b1⟩
    go_wp2_with fail
    with_reducible refine (HL.out _ (bb hb0 b1)).mono ?_
    rintro _ w2 ⟨rfl, b2⟩
    obtain ⟨k0, k1, k2, k3⟩ := (HB.out.below' (bb b1 b2)).four
    go_wp2_with fail
    with_reducible refine (HE3.out _ (bb hb0 (bb b1 b2))).mono ?_
    rintro _ w3 ⟨rfl, b3⟩
    go_wp2_with fail
    with_reducible refine (HC1.out _ (bb hb0 (bb b1 (bb b2 b3)))).mono ?_
    rintro _ w4 ⟨rfl, b4⟩
    go_wp2_with fail
    with_reducible refine (same17 _).mono ?_
    rintro _ w5 ⟨rfl, b5⟩
    go_wp2_with fail
    go_ret
    exact ⟨rfl, bb hb0 (bb b1 (bb b2 (bb b3 (bb b4 b5))))⟩
  case true =>
  obtain ⟨hqc, zc⟩ := hqc rfl
  obtain ⟨R, hR⟩ : ∃ R, exAll (xs.map RI.pi) (allR is) (allR fs) (qvs is) (qvs fs) = R := ⟨_, rfl⟩
  have HX3 := HX2.out
  simp only [hR] at HX3
  cases R with
  | error er =>
    obtain ⟨i, er⟩ := er
    have hne : ¬ er = 0 := by have := (exAll_errs hR).2; omega
    have E3 := E2
    simp only [bkAll_err (outs := outs) (cots := qvs cs) hR] at E3
    have HE3 := Lib.hid E3
    have HX4 := Lib.hid HX3
    clear E3 E2 hsz hp hq9 HX3 HX2 hqc zc hR
    go_enter Tryz.func4, Tryz.ntmps4
    go_wp2_with fail
    rw [HV.out]
    with_reducible refine HFW.out.mono ?_
    rintro _ w1 ⟨rfl, b1⟩
    go_wp2_with fail
    with_reducible refine (HL.out _ (bb hb0 b1)).mono ?_
    rintro _ w2 ⟨rfl, b2⟩
    obtain ⟨k0, k1, k2, k3⟩ := (HB.out.below' (bb b1 b2)).four
    go_wp2_with fail
    with_reducible refine (HE3.out _ (bb hb0 (bb b1 b2))).mono ?_
    rintro _ w3 ⟨rfl, b3⟩
    go_wp2_with fail
    with_reducible refine (HC1.out _ (bb hb0 (bb b1 (bb b2 b3)))).mono ?_
    rintro _ w4 ⟨rfl, b4⟩
    obtain ⟨k0, k1, k2, k3⟩ := (HB.out.below' (bb b1 (bb b2 (bb b3 b4)))).four
    go_wp2_with fail
    with_reducible refine (HX4.out _ (bb hb0 (bb b1 (bb b2 (bb b3 b4))))).mono ?_
    rintro _ w5 ⟨rfl, b5⟩
    go_wp2_with fail
    with_reducible refine (same17 _).mono ?_
    rintro _ w6 ⟨rfl, b6⟩
    go_wp2_with fail
    go_ret
    exact ⟨rfl, bb hb0 (bb b1 (bb b2 (bb b3 (bb b4 (bb b5 b6)))))⟩
  | ok v =>
  obtain ⟨hpb, _, _, hev⟩ := exAll_ok hR
  have hprog := (progB_iff _).1 hpb
  have zv : AllSz 64 v := exact_sz hev
  have hvl : v.length = n := by rw [evTo_len hev, hlen]
  have E3 := E2
  have hrun := bkAll_ok (outs := outs) (cots := qvs cs) hR
  rw [hlen] at hrun
  simp only [hrun] at E3 hsz
  have K2 := fun (w1 : World) (hb9 : Below w.heap.size w w1) (Av : Option Addr) (cv : Nat) (hv : SlQ w1 Av n cv v) => rf_back17 (HL1.out.below hb9) hprog hv rfl zv (HO1.out.below hb9) (hqc.below hb9) rfl zc (by omega) (by omega)
  obtain ⟨S, hS⟩ : ∃ S, bkRun (xs.map RI.pi) v outs (qvs cs) (inputsTo (xs.map RI.pi) n).toNat = S := ⟨_, rfl⟩
  simp only [hS] at E3 hsz K2
  have HE3 := Lib.hid E3
  have HX4 := Lib.hid HX3
  have HK2 := Lib.hid K2
  have HVL := Lib.hid hvl
  have HSZ := Lib.hid hsz
  clear E3 E2 hp hq9 HX3 HX2 hqc zc hR K2 hvl hsz hpb hev hprog zv hrun hS
  go_enter Tryz.func4, Tryz.ntmps4
  go_wp2_with fail
  rw [HV.out]
  with_reducible refine HFW.out.mono ?_
  rintro _ w1 ⟨rfl, b1⟩
  go_wp2_with fail
  with_reducible refine (HL.out _ (bb hb0 b1)).mono ?_
  rintro _ w2 ⟨rfl, b2⟩
  obtain ⟨k0, k1, k2, k3⟩ := (HB.out.below' (bb b1 b2)).four
  go_wp2_with fail
  cases S with
  | error es =>
    obtain ⟨i, es⟩ := es
    with_reducible refine (HE3.out _ (bb hb0 (bb b1 b2))).mono ?_
    rintro _ w3 ⟨rfl, b3⟩
    go_wp2_with fail
    with_reducible refine (HC1.out _ (bb hb0 (bb b1 (bb b2 b3)))).mono ?_
    rintro _ w4 ⟨rfl, b4⟩
    obtain ⟨k0, k1, k2, k3⟩ := (HB.out.below' (bb b1 (bb b2 (bb b3 b4)))).four
    go_wp2_with fail
    with_reducible refine (HX4.out _ (bb hb0 (bb b1 (bb b2 (bb b3 b4))))).mono ?_
    rintro _ w5 ⟨⟨A5, n5, c5, rfl, q5⟩, b5⟩
    obtain rfl : n = n5 := by rw [q5.len]; exact HVL.out.symm
    have x5 := bb b1 (bb b2 (bb b3 (bb b4 b5)))
    obtain ⟨k0, k1, k2, k3⟩ := (HB.out.below' x5).four
    have K5 := HK2.out _ (bb hb0 x5) _ _ q5
    have HK5 := Lib.hid K5
    clear q5 K5
    go_wp2_with fail
    with_reducible refine HK5.out.mono ?_
    rintro _ w6 ⟨rfl, b6⟩
    have SR := fun w4 => ref_sameR (SlQ.nil w4) (SlQ.nil w4) (fun X hX => by simp at hX) (by omega)
    have HSR := Lib.hid SR
    clear SR
    go_wp2_with fail
    with_reducible refine (HSR.out _).mono ?_
    rintro _ w7 ⟨rfl, b7⟩
    go_wp2_with fail
    with_reducible refine (same17 _).mono ?_
    rintro _ w8 ⟨rfl, b8⟩
    go_wp2_with fail
    go_ret
    exact ⟨rfl, bb hb0 (bb x5 (bb b6 (bb b7 b8)))⟩
  | ok bs =>
    obtain ⟨zb, lb⟩ := HSZ.out bs rfl
    with_reducible refine (HE3.out _ (bb hb0 (bb b1 b2))).mono ?_
    rintro _ w3 ⟨⟨A3, n3, c3, rfl, q3⟩, b3⟩
    have HQ3 := Lib.hid q3
    clear q3
    go_wp2_with fail
    with_reducible refine (HC1.out _ (bb hb0 (bb b1 (bb b2 b3)))).mono ?_
    rintro _ w4 ⟨rfl, b4⟩
    obtain ⟨k0, k1, k2, k3⟩ := (HB.out.below' (bb b1 (bb b2 (bb b3 b4)))).four
    go_wp2_with fail
    with_reducible refine (HX4.out _ (bb hb0 (bb b1 (bb b2 (bb b3 b4))))).mono ?_
    rintro _ w5 ⟨⟨A5, n5, c5, rfl, q5⟩, b5⟩
    obtain rfl : n = n5 := by rw [q5.len]; exact HVL.out.symm
    have x5 := bb b1 (bb b2 (bb b3 (bb b4 b5)))
    obtain ⟨k0, k1, k2, k3⟩ := (HB.out.below' x5).four
    have K5 := HK2.out _ (bb hb0 x5) _ _ q5
    have HK5 := Lib.hid K5
    clear q5 K5
    go_wp2_with fail
    with_reducible refine HK5.out.mono ?_
    rintro _ w6 ⟨⟨A6, n6, c6, rfl, q6⟩, b6⟩
    obtain rfl : n3 = n6 := by rw [q6.len, HQ3.out.len]
    have hn3 : n3 ≤ 65536 := by rw [HQ3.out.len]; omega
    have SR := ref_sameRL (HQ3.out.below (bb b4 (bb b5 b6))) q6 zb (by omega) hn3
    have HSR := Lib.hid SR
    clear SR q6 zb lb hn3
    go_wp2_with fail
    with_reducible refine HSR.out.mono ?_
    rintro _ w7 ⟨rfl, b7⟩
    go_wp2_with fail
    with_reducible refine (same17 _).mono ?_
    rintro _ w8 ⟨rfl, b8⟩
    go_wp2_with fail
    go_ret
    exact ⟨rfl, bb hb0 (bb x5 (bb b6 (bb b7 b8)))⟩

theorem tangentBacks_row (A : Option Addr) (n c : Nat) (xs : List RI) (B : Option Addr) (m d : Nat) (is : List RQ) (D : Option Addr) (kd e : Nat) (ds : List RQ) (C : Option Addr) (k f : Nat) (fs : List RQ) (O : Option Addr) (mo o_ : Nat) (outs : List Int) (E : Option Addr) (kc cc : Nat) (cs : List RQ) (w : World) (h : SlP w A n c xs) (hi : SlR w B m d is) (hd : SlR w D kd e ds) (hf : SlR w C k f fs) (ho : SlZ w O mo o_ outs) (hc : SlR w E kc cc cs) :
    Calls Tryz.prog 4 #[.agg #[.slice A n c, .slice B m d, .slice D kd e, .slice C k f], .slice O mo o_, .slice E kc cc] w (RetBl true w) := tangentBacks_walk h hi hd hf ho hc

end Go.Proofs.YtfhihapgjiaobaaGreat
