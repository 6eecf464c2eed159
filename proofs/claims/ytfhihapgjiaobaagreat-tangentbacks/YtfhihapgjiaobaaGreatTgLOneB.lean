/-
  What tangent.Back returns where the program has values. Conditions: the slices read as at most 60 instructions, as at most 1000 numbers of at most 64 words, as at most 60 ints and as that many numbers of at most 8 words.
-/
import Derived.Test.YtfhihapgjiaobaaGreatLnBkAllB
namespace Go.Proofs.YtfhihapgjiaobaaGreat
set_option maxRecDepth 100000
open Go.RowKit Go.Shelf
set_option linter.unusedVariables false
set_option linter.unusedSimpArgs false
attribute [local go_sem] Oper.semAt_some

theorem seedTo_sz {outs : List Int} {cots : List Rat} (n : Nat) (hz : AllSz 8 cots) : ∀ k, AllSz (10 + 10 * k) (seedTo outs cots n k) := by
  intro k
  induction k with
  | zero =>
    intro X hX
    unfold seedTo at hX
    rw [List.eq_of_mem_replicate hX]
    exact sz_zero _ (by omega)
  | succ k ih =>
    intro X hX
    unfold seedTo addAt at hX
    obtain ⟨j, hj⟩ := List.mem_iff_getElem?.1 hX
    rw [List.getElem?_set] at hj
    split at hj
    · split at hj
      · injection hj with hj
        rw [← hj]
        exact ((getD_sz ih (by omega) _).add (getD_sz hz (by omega) k)).mono (by omega)
      · cases hj
    · exact (ih X (List.mem_of_getElem? hj)).mono (by omega)
theorem zeros_sz (m N : Nat) (hN : 0 < N) : AllSz N (List.replicate m (0 : Rat)) := fun X hX => by
  rw [List.eq_of_mem_replicate hX]
  exact sz_zero _ hN

theorem Sl.ky {V W : World} {ga gr : Nat} {A : Option Addr} {n c : Nat} {xs : List Int} (h : Sl V A n c xs) (h1 : NoWAt V ga) (h2 : NoWAt V gr) (k : KY V.heap.size ga gr V W) : Sl W A n c xs := by
  refine ⟨h.1, fun h0 => ?_⟩
  obtain ⟨b, off, e, hlt, hc⟩ := h.2 h0
  have e1 : b ≠ ga := fun e2 => by subst e2; exact h1 _ _ (hc 0 h0)
  have e2 : b ≠ gr := fun e2 => by subst e2; exact h2 _ _ (hc 0 h0)
  exact ⟨b, off, e, Nat.lt_of_lt_of_le hlt k.1, fun j hj => (k.cell hlt e1 e2).trans (hc j hj)⟩
theorem Q.ky {V W : World} {ga gr : Nat} {s : Bool} {A A' : Option Addr} {n c n' c' : Nat} {X : Rat} (h : Q V s A n c A' n' c' X) (h1 : NoWAt V ga) (h2 : NoWAt V gr) (k : KY V.heap.size ga gr V W) : Q W s A n c A' n' c' X := ⟨h.1, h.2.1.ky h1 h2 k, h.2.2.ky h1 h2 k⟩
theorem SlQ.ky {V W : World} {ga gr : Nat} {A : Option Addr} {n c : Nat} {Xs : List Rat} (h : SlQ V A n c Xs) (h1 : NoWAt V ga) (h2 : NoWAt V gr) (k : KY V.heap.size ga gr V W) (hne : ∀ b off, A = some ⟨b, off, none⟩ → b ≠ ga ∧ b ≠ gr) : SlQ W A n c Xs := by
  obtain ⟨xs, h3, h4, h5⟩ := h
  refine ⟨xs, ⟨⟨h3.1.1, h3.1.2.1, h3.1.2.2.1, fun x hx => ⟨?_, (h3.1.2.2.2 x hx).2⟩⟩, fun h0 => ?_⟩, h4, fun j x hx => Q.ky (h5 j x hx) h1 h2 k⟩
  · have hx1 := (h3.1.2.2.2 x hx).1
    exact ⟨hx1.1.ky h1 h2 k, hx1.2.1.ky h1 h2 k, hx1.2.2⟩
  · obtain ⟨b, off, e, hlt, hc⟩ := h3.2 h0
    obtain ⟨e1, e2⟩ := hne b off e
    exact ⟨b, off, e, Nat.lt_of_lt_of_le hlt k.1, fun j hj i hi => (k.cell hlt e1 e2).trans (hc j hj i hi)⟩
theorem Box.other {t : TypeId} {w w' : World} {g : Nat} {vs : Array Value} {row : Option Nat} (h : Box t w g vs) (hg : w.grownBy w' row) (hr : ∀ r, row = some r → ∃ o : Obj, w.heap[r]? = some o ∧ o.isCells = false) : Box t w' g vs := by
  refine (hg.block g h.lt (fun e => ?_)).trans h
  obtain ⟨o, e1, e2⟩ := hr g e.symm
  unfold Box at h
  rw [h] at e1
  injection e1 with e1
  rw [← e1] at e2
  cases e2
/-- a result is put behind an object that is no row -/
theorem Box.putObj {t : TypeId} {w : World} {g D : Nat} {vs : Array Value} {o : Obj} (h : Box t w g vs) (hD : w.heap[D]? = some o) (ho : o.isCells = false) (o' : Obj) : Box t (w.putObj D o') g vs :=
  h.other (grownBy_putObj' w D o') (fun r e => by cases e; exact ⟨o, hD, ho⟩)

set_option maxRecDepth 100000 in
set_option maxHeartbeats 16000000 in
theorem back_main {w V0 : World} {A B C O D : Option Addr} {n c m d kf f mo o_ cc : Nat} {xs : List RI} {is fs cs : List RQ} {outs : List Int} {v : List Rat} (hV0 : ((w.alloc (.cells #[.slice none 0 0] 23)).alloc (.cells #[.int .i64 0] 3)).alloc (.cells #[.int .i64 0] 28) = V0)
    (R1 : Box 23 V0 w.heap.size #[.slice none 0 0]) (R2 : Box 3 V0 (w.heap.size + 1) #[.int .i64 0]) (R3 : Box 28 V0 (w.heap.size + 1 + 1) #[.int .i64 0]) (hb0 : Below w.heap.size w V0) (hs0 : V0.heap.size = w.heap.size + 1 + 1 + 1)
    (h : SlP w A n c xs) (hs : Shrt 64 xs) (hi : SlR w B m d is) (his : ∀ x ∈ is, x.n ≤ 64 ∧ x.n' ≤ 64) (hf : SlR w C kf f fs) (hfs : ∀ x ∈ fs, x.n ≤ 64 ∧ x.n' ≤ 64) (ho : SlZ w O mo o_ outs) (hc : SlR w D mo cc cs) (hcs : ∀ x ∈ cs, x.n ≤ 8 ∧ x.n' ≤ 8) (hn : n ≤ 60) (hm : m ≤ 1000) (hkf : kf ≤ 1000) (hmo : mo ≤ 60) (hp2 : allR cs = true) (hr : exAll (xs.map RI.pi) (allR is) (allR fs) (qvs is) (qvs fs) = .ok v) :
    Calls Tryz.prog 13 #[.slice A n c, .slice B m d, .slice C kf f, .slice O mo o_, .slice D mo cc] w (RetEx (bkRun (xs.map RI.pi) v outs (qvs cs) (inputsTo (xs.map RI.pi) (xs.map RI.pi).length).toNat) w) := by
  have hlen : (xs.map RI.pi).length = n := by rw [List.length_map]; exact h.1.1
  have hol : outs.length = mo := ho.1.1
  have P1 := tg_allRight (hc.below hb0) (fun x hx => ⟨Nat.le_trans (hcs x hx).1 (by omega), Nat.le_trans (hcs x hx).2 (by omega)⟩ : ∀ x ∈ cs, x.n ≤ 64 ∧ x.n' ≤ 64) (by omega) (by omega)
  rw [hp2] at P1
  have P2 := fun (w1 : World) (hb : Below w.heap.size w w1) => ev_exact (h.below hb) hs (hi.below hb) his (hf.below hb) hfs (by omega) hm hkf
  rw [hr] at P2
  obtain ⟨hpb, _, _, hev⟩ := exAll_ok hr
  obtain ⟨qc, zc⟩ := slq_of hc hcs hp2
  have zv : AllSz 64 v := exact_sz hev
  have hprog := (progB_iff (xs.map RI.pi)).1 hpb
  have hvl : v.length = n := by rw [evTo_len hev, hlen]
  have hpin := prog_inputs hprog
  rw [hlen] at hpin
  obtain ⟨ml, hml⟩ : ∃ ml, inputsTo (xs.map RI.pi) n = ml := ⟨_, rfl⟩
  have hml2 : 0 ≤ ml ∧ ml ≤ 65536 := by rw [← hml]; exact inputs_range _ _
  obtain ⟨mn, rfl⟩ : ∃ mn : Nat, ml = (mn : Int) := ⟨ml.toNat, by omega⟩
  rw [hlen, hml]
  rw [hml] at hpin
  simp only [Int.toNat_natCast] at hpin ⊢
  obtain ⟨R, hR⟩ : ∃ R, R = bkRun (xs.map RI.pi) v outs (qvs cs) mn := ⟨_, rfl⟩
  rw [← hR]
  have hRn : ∀ o, o ∈ outs → outB n o = false → R = .error (0, 11) := fun o h1 h2 => by rw [hR]; exact bkRun_no h1 (by rw [hlen]; exact h2)
  have hRe : outs.all (outB n) = true → ∀ e, giveTo v (xs.map RI.pi) n (seedTo outs (qvs cs) n mo, List.replicate mn 0) = .error e → R = .error e := fun h1 e h2 => by rw [hR]; exact bkRun_err (by rw [hlen]; exact h1) (by rw [hlen, hol]; exact h2)
  have hRo : outs.all (outB n) = true → ∀ s, giveTo v (xs.map RI.pi) n (seedTo outs (qvs cs) n mo, List.replicate mn 0) = .ok s → R = .ok s.2 := fun h1 e h2 => by rw [hR]; exact bkRun_ok (by rw [hlen]; exact h1) (by rw [hlen, hol]; exact h2)
  have HRN := Lib.hid hRn
  have HRE := Lib.hid hRe
  have HRO := Lib.hid hRo
  have h7 : ∀ j, j < n → ((xs.map RI.pi).getD j PI.nil).op = 7 → v.getD ((xs.map RI.pi).getD j PI.nil).b.toNat 0 ≠ 0 := fun j hj h1 => by
    have h2 := (big_sz (evTo_ok (d := (0 : Rat)) hev j (by rw [hlen]; exact hj)).2).1
    have h3 := hprog.1 j (by rw [hlen]; exact hj)
    generalize (xs.map RI.pi).getD j PI.nil = x at *
    obtain ⟨op, a, b, q⟩ := x
    have h1' : op = 7 := h1
    subst h1'
    obtain ⟨g1, g2, g3, g4⟩ := fit_two (by decide) (by decide) (by decide) h3
    intro h0
    rw [raw_div_no (by rw [getD_take v (show b.toNat < j by omega)]; exact h0)] at h2
    cases h2
  have HP7 := Lib.hid h7
  clear hR hRn hRe hRo h7
  have INP := fun (w1 : World) (hb : Below w.heap.size w w1) => line_inputs (h.below hb) (by omega)
  simp only [hml] at INP
  have HP1 := Lib.hid P1
  have HP2 := Lib.hid P2
  have HV0 := Lib.hid hV0
  have HINP := Lib.hid INP
  have HR := Lib.hid (And.intro R1 (And.intro R2 R3))
  have HL := Lib.hid hlen
  have HOL := Lib.hid hol
  have HVL := Lib.hid hvl
  have HPI := Lib.hid hpin
  clear P1 P2 hV0 INP R1 R2 R3 hlen hol hvl hpin hml hr hi hf his hfs hpb
  refine (callsIn_wide (n := 3)).1 ?_
  refine callsIn_of_wp_marks Tryz.func13 rfl trivial ?_ rfl
  simp only [Tryz.ntmps13, List.size_toArray, List.length_cons, List.length_nil, Nat.reduceAdd, Nat.reduceSub, Array.replicate_succ, Array.replicate_zero, List.push_toArray, List.append_toArray, List.nil_append, List.cons_append]
  gi_wp2_with (refine ⟨trivial, ?_⟩; first
    | (gi_at_call 26; rw [HV0.out]; refine (callsIn_wide.2 HP1.out).mono ?_; rintro _ w1 ⟨rfl, b1⟩)
    | (gi_at_call 27; refine (callsIn_wide.2 (HP2.out _ (bb hb0 b1))).mono ?_; rintro _ w2 ⟨⟨Av, nv, cv, rfl, qv2⟩, b2⟩; obtain ⟨V3, hV3, B13, b3⟩ := box0 23 w2 #[.slice Av nv cv]; have HV3 := Lib.hid hV3; clear hV3)
    | (gi_at_call 32; rw [HV3.out]; refine (callsIn_wide.2 (tg_zeros V3 n (by omega))).mono ?_; rintro _ w4 ⟨ga, rfl, oa, b4⟩))
  have y2 : Below V0.heap.size V0 w2 := bb b1 b2
  have hnv : n = nv := by rw [qv2.len]; exact HVL.out.symm
  subst hnv
  obtain ⟨V5, hV5, B16, b5⟩ := box0 23 w4 #[.slice (some ⟨ga, 0, none⟩) n n]
  rw [hV5]
  have y5 : Below V0.heap.size V0 V5 := bb y2 (bb b3 (bb b4 b5))
  have z5 : Below w.heap.size w V5 := bb hb0 y5
  have o5 := oa.below b5
  obtain ⟨ga1, ga2, _⟩ := oa.lt
  have n13 := B13.lt
  have n16 := B16.lt
  have n2 := y2.size
  have n4 := b4.size
  have n5 := b5.size
  have HR5 := Lib.hid (And.intro (HR.out.1.below' y5) (And.intro (HR.out.2.1.below' y5) (HR.out.2.2.below' y5)))
  have H13 := Lib.hid (B13.below' (bb b4 b5))
  have H16 := Lib.hid B16
  have HQV := Lib.hid (qv2.below (bb b3 (bb b4 b5)))
  have HO5 := Lib.hid o5
  have HQC := Lib.hid (qc.below z5)
  have HPR := Lib.hid hprog
  have HSH := Lib.hid hs
  have hO : ∀ j, j < mo → ∃ b off o, O = some ⟨b, off, none⟩ ∧ b < w.heap.size ∧ outs[j]? = some o ∧ I64 o ∧ V5.cell? ⟨b, off + j, none⟩ = some (.int .i64 o) := fun j hj => by
    obtain ⟨b, off, o, e, hlt, h1, h2, c0⟩ := ho.at_ hj
    exact ⟨b, off, o, e, hlt, h1, h2, (z5.cell (p := ⟨b, off + j, none⟩) hlt).trans c0⟩
  have hC : ∀ j, j < mo → ∃ b off s A1 n1 c1 A2 n2 c2, D = some ⟨b, off, none⟩ ∧ b < w.heap.size ∧ V5.cell? ⟨b, off + j * 3, none⟩ = some (.bool s) ∧ V5.cell? ⟨b, off + j * 3 + 1, none⟩ = some (.slice A1 n1 c1) ∧ V5.cell? ⟨b, off + j * 3 + 2, none⟩ = some (.slice A2 n2 c2) ∧ Q V5 s A1 n1 c1 A2 n2 c2 ((qvs cs).getD j 0) := fun j hj => by
    obtain ⟨b, off, s, A1, n1, c1, A2, n2, c2, e, hlt, k0, k1, k2, q⟩ := qc.at_ hj
    exact ⟨b, off, s, A1, n1, c1, A2, n2, c2, e, hlt, (z5.cell (p := ⟨b, off + j * 3, none⟩) hlt).trans k0, (z5.cell (p := ⟨b, off + j * 3 + 1, none⟩) hlt).trans k1, (z5.cell (p := ⟨b, off + j * 3 + 2, none⟩) hlt).trans k2, q.below z5⟩
  have hVv : ∀ b off, Av = some ⟨b, off, none⟩ → 0 < n → b < w2.heap.size := fun b off e h0 => by
    obtain ⟨b2, o2, _, _, _, _, _, _, _, e2, hlt, _⟩ := qv2.at_ h0
    rw [e] at e2
    injection e2 with e2
    injection e2 with e3 e4
    omega
  have HVV := Lib.hid hVv
  have HHO := Lib.hid hO
  have HHC := Lib.hid hC
  clear hVv hO hC oa o5 B13 B16 qv2 hV5 hprog hs ho hc qc HP1 HP2 HV0 HV3 HR
  have w5z := z5.size
  gi_loopw [51] (fun iv wr => ∃ k : Nat, k ≤ mo ∧ iv = .int .i64 k ∧ Hid (OwnQ V3.heap.size wr (.slice (some ⟨ga, 0, none⟩) n n) (seedTo outs (qvs cs) n k)) ∧ Hid (∀ j, j < k → outB n (outs.getD j 0) = true) ∧ Keep ga V5 wr) (fun iv _ => mo - mes iv)
  case atStart => exact ⟨0, by omega, rfl, Lib.hid HO5.out, Lib.hid (fun j hj => by omega), Keep.refl _ _⟩
  case round =>
    obtain ⟨k, hk, rfl, HO, HB, kp⟩ := hrel
    by_cases hk2 : k < mo
    · obtain ⟨b0, off, o, rfl, hlt, hok, hoi, c0⟩ := HHO.out k hk2
      have c9 := (keep_cell (i := off + k) kp (by omega) (show b0 ≠ ga by omega)).trans c0
      have hod : outs.getD k 0 = o := by rw [List.getD_eq_getElem?_getD, hok]; rfl
      have r1 : Box 23 wr w.heap.size #[.slice none 0 0] := (kp.block _ HR5.out.1.lt (by omega)).trans HR5.out.1
      have r2 : Box 3 wr (w.heap.size + 1) #[.int .i64 0] := (kp.block _ HR5.out.2.1.lt (by omega)).trans HR5.out.2.1
      have r3 : Box 28 wr (w.heap.size + 1 + 1) #[.int .i64 0] := (kp.block _ HR5.out.2.2.lt (by omega)).trans HR5.out.2.2
      have yw : Below w.heap.size w wr := z5.trans (kp.below (by omega) w5z)
      by_cases hin : 0 ≤ o ∧ o < (n : Int)
      · obtain ⟨g1, g2⟩ := hin
        obtain ⟨t, rfl⟩ : ∃ t : Nat, o = (t : Int) := ⟨o.toNat, by omega⟩
        have htn : t < n := by omega
        obtain ⟨bc, oc, s_c, A_c, n_c, c_c, D_c, m_c, d_c, rfl, hltc, k0, k1, k2, q_c⟩ := HHC.out k hk2
        have nw := HO5.out.noW
        have q_w := q_c.keepN nw kp
        have zS := seedTo_sz (outs := outs) n zc k
        have hS : ∀ w', Keep ga wr w' → w'.cell? ⟨w4.heap.size, 0, none⟩ = some (.slice (some ⟨ga, 0, none⟩) n n) ∧ w'.cell? ⟨bc, oc + k * 3, none⟩ = some (.bool s_c) ∧ w'.cell? ⟨bc, oc + k * 3 + 1, none⟩ = some (.slice A_c n_c c_c) ∧ w'.cell? ⟨bc, oc + k * 3 + 2, none⟩ = some (.slice D_c m_c d_c) := fun w' hk9 =>
          ⟨(keep_cell (kp.trans hk9) H16.out.lt (by omega)).trans (H16.out.cell 0), (keep_cell (kp.trans hk9) (by omega) (by omega)).trans k0, (keep_cell (kp.trans hk9) (by omega) (by omega)).trans k1, (keep_cell (kp.trans hk9) (by omega) (by omega)).trans k2⟩
        have AC := tg_accumulate (N := 700) (HO.out.below (Below.refl _ wr).drew) htn (q_w.below (Below.refl _ wr).drew) ((getD_sz zc (by omega) k).mono (by omega)) ((getD_sz zS (by omega) t).mono (by omega)) (by omega)
        have hsd : addAt (seedTo outs (qvs cs) n k) t ((qvs cs).getD k 0) = seedTo outs (qvs cs) n (k + 1) := by
          show _ = addAt (seedTo outs (qvs cs) n k) (outs.getD k 0).toNat ((qvs cs).getD k 0)
          rw [hod]; rfl
        rw [hsd] at AC
        have HAC := Lib.hid AC
        have HS := Lib.hid hS
        obtain ⟨p0, p1, p2, p3⟩ := hS wr (Keep.refl _ _)
        have hB2 : ∀ j, j < k + 1 → outB n (outs.getD j 0) = true := fun j hj => by
          rcases Nat.lt_or_eq_of_le (Nat.le_of_lt_succ hj) with h9 | h9
          · exact HB.out j h9
          · rw [h9, hod]; exact decide_eq_true ⟨g1, g2⟩
        have HB2 := Lib.hid hB2
        clear AC hS q_c q_w zS hsd k0 k1 k2 hB2 hod hok hoi r1 r2 r3
        gi_wp2_with (refine ⟨trivial, ?_⟩)
        refine wpIn_wide.2 ?_
        go_region_held3 (fun w' => w'.cell? ⟨w4.heap.size, 0, none⟩ = some (.slice (some ⟨ga, 0, none⟩) n n) ∧ w'.cell? ⟨bc, oc + k * 3, none⟩ = some (.bool s_c) ∧ w'.cell? ⟨bc, oc + k * 3 + 1, none⟩ = some (.slice A_c n_c c_c) ∧ w'.cell? ⟨bc, oc + k * 3 + 2, none⟩ = some (.slice D_c m_c d_c)) (first | with_reducible exact HS.out _ Keep.drew' | with_reducible exact HS.out _ x7 | fail)
          (first
            | (go_at_call 33; (with_reducible refine HAC.out.mono ?_); rintro _ w7 ⟨rfl, O7, k7⟩; have x7 : Keep ga wr w7 := Keep.drew'.trans k7))
        all_goals
          gi_wp2_with fail
          go_roundw
          case rel => exact ⟨k + 1, by omega, by go_num, Lib.hid O7, HB2, kp.trans x7⟩
          case measure => simp [mes, intOf]; omega
      · have hRR : R = .error (0, 11) := HRN.out o (mem_at hok) (decide_eq_false hin)
        subst hRR
        obtain ⟨e1, f1⟩ := r1.one
        obtain ⟨e2, f2⟩ := r2.one
        obtain ⟨e3, f3⟩ := r3.one
        obtain ⟨S1, S2, S3⟩ := putR_boxes r1 r2 r3 (by omega) (by omega) (by omega) (.slice none 0 0) (.int .i64 0) (.int .i64 11)
        have b9 := below_putR yw (Nat.le_refl _) (show w.heap.size ≤ w.heap.size + 1 by omega) (show w.heap.size ≤ w.heap.size + 1 + 1 by omega) (.slice none 0 0) (.int .i64 0) (.int .i64 11)
        have HSS := Lib.hid (And.intro S1 (And.intro S2 (And.intro S3 b9)))
        clear S1 S2 S3 b9 r1 r2 r3 hoi hok hod
        rcases Int.lt_or_le o 0 with h9 | h9
        · gi_wp2_with (refine ⟨trivial, ?_⟩)
          exact ⟨_, back_ret rfl rfl rfl HSS.out.1 HSS.out.2.1 HSS.out.2.2.1, rfl, HSS.out.2.2.2⟩
        · have h8 : (n : Int) ≤ o := by omega
          gi_wp2_with (refine ⟨trivial, ?_⟩)
          exact ⟨_, back_ret rfl rfl rfl HSS.out.1 HSS.out.2.1 HSS.out.2.2.1, rfl, HSS.out.2.2.2⟩
    · obtain rfl : k = mo := by omega
      have hall : outs.all (outB n) = true := List.all_eq_true.2 fun o h1 => by
        obtain ⟨j, hj⟩ := List.mem_iff_getElem?.1 h1
        have hjl : j < k := by
          rcases Nat.lt_or_ge j outs.length with h9 | h9
          · have := HOL.out; omega
          · rw [List.getElem?_eq_none h9] at hj; cases hj
        have := HB.out j hjl
        rw [List.getD_eq_getElem?_getD, hj] at this
        exact this
      have yw : Below w.heap.size w wr := z5.trans (kp.below (by omega) w5z)
      have HALL := Lib.hid hall
      clear hall HB
      gi_wp2_with (refine ⟨trivial, ?_⟩; first
        | (gi_at_call 34; refine (callsIn_wide.2 (HINP.out _ yw)).mono ?_; rintro _ w7 ⟨rfl, b7⟩)
        | (gi_at_call 32; refine (callsIn_wide.2 (tg_zeros w7 mn (by omega))).mono ?_; rintro _ w8 ⟨gr, rfl, or_, b8⟩)
        | (gi_at_call 35; refine (bk0 _ _ _ _ _).mono ?_; rintro _ _ ⟨rfl, rfl⟩))
      obtain ⟨W0, hW0, B19, B20, b9⟩ := boxes63 23 22 w8 #[.slice (some ⟨gr, 0, none⟩) mn mn] #[.slice A n c]
      have hs9 : W0.heap.size = w8.heap.size + 1 + 1 := by rw [← hW0]; simp
      rw [hW0]
      obtain ⟨gr1, gr2, _⟩ := or_.lt
      have n7 := b7.size
      have n8 := b8.size
      have nk := kp.size
      have yr : Below wr.heap.size wr W0 := bb b7 (bb b8 b9)
      have yW : Below w.heap.size w W0 := bb yw yr
      have kW : Keep ga V5 W0 := kp.trans (Keep.of_below ga yr)
      have oW := HO.out.below yr
      have rW := or_.below b9
      have r1 : Box 23 W0 w.heap.size #[.slice none 0 0] := (kW.block _ HR5.out.1.lt (by omega)).trans HR5.out.1
      have r2 : Box 3 W0 (w.heap.size + 1) #[.int .i64 0] := (kW.block _ HR5.out.2.1.lt (by omega)).trans HR5.out.2.1
      have r3 : Box 28 W0 (w.heap.size + 1 + 1) #[.int .i64 0] := (kW.block _ HR5.out.2.2.lt (by omega)).trans HR5.out.2.2
      have x13 : Box 23 W0 w2.heap.size #[.slice Av n cv] := (kW.block _ H13.out.lt (by omega)).trans H13.out
      have x16 : Box 23 W0 w4.heap.size #[.slice (some ⟨ga, 0, none⟩) n n] := (kW.block _ H16.out.lt (by omega)).trans H16.out
      have nga := oW.noW
      have ngr := rW.noW
      have qW : SlQ W0 Av n cv v := by
        rcases Nat.eq_zero_or_pos n with h0 | h0
        · subst h0
          have hv0 : v = [] := List.eq_nil_of_length_eq_zero HVL.out
          obtain ⟨ys, e1, e2, e3⟩ := HQV.out
          refine ⟨ys, ⟨⟨e1.1.1, e1.1.2.1, e1.1.2.2.1, fun x hx => ?_⟩, fun h9 => absurd h9 (by omega)⟩, e2, fun j x hx => ?_⟩
          · have hy0 : ys = [] := List.eq_nil_of_length_eq_zero e1.1.1
            rw [hy0] at hx; cases hx
          · have hy0 : ys = [] := List.eq_nil_of_length_eq_zero e1.1.1
            rw [hy0] at hx; cases hx
        · exact HQV.out.keepN HO5.out.noW kW (fun b off e => by have := HVV.out b off e h0; omega)
      have hvne : ∀ b off, Av = some ⟨b, off, none⟩ → 0 < n → b ≠ ga ∧ b ≠ gr := fun b off e h0 => by have := HVV.out b off e h0; omega
      obtain ⟨s0, hs0'⟩ : ∃ s0 : List Rat × List Rat, (seedTo outs (qvs cs) n k, List.replicate mn (0 : Rat)) = s0 := ⟨_, rfl⟩
      have hI0 : BkI w W0 ga gr n mn v (xs.map RI.pi) s0 V3.heap.size w7.heap.size [] W0 := ⟨_, _, oW, rW, by rw [← hs0']; rfl, fun X hX => (seedTo_sz (outs := outs) n zc k X hX).mono (by simp; omega), fun X hX => (zeros_sz mn 10 (by omega) X hX).mono (by omega), KY.refl _ _ _ _, yW⟩
      rw [hs0'] at HRE HRO
      have HR0 := Lib.hid (And.intro r1 (And.intro r2 r3))
      have HB := Lib.hid (And.intro x13 (And.intro x16 B19))
      have HQW := Lib.hid qW
      have HNE := Lib.hid hvne
      have HNW := Lib.hid (And.intro nga ngr)
      have HI0 := Lib.hid hI0
      clear hW0 HO HO5 HR5 H13 H16 HQV r1 r2 r3 x13 x16 qW hvne nga ngr oW rW or_ hI0 HQC HHC HHO HINP b7 b8 hs0'
      refine wp_named ?_
      intro a0 ha0
      have seq : SeqStopsK Fence.wide 2 Tryz.prog 71 #[.pointer (some ⟨w8.heap.size + 1, 0, none⟩)] (fun x : { i : Nat // i < n } => #[.int .i64 (x.1 : Int), (xs.getD x.1 default).agg]) (KY W0.heap.size ga gr) (fun ys => ys.map Subtype.val = (List.range n).reverse) (fun pre => ∃ k, pre.map Subtype.val = (List.range n).reverse.take k) n W0 := by
        intro l J Jx W hW _ _ hY h0
        refine bk2 2 (by omega) l (w8.heap.size + 1) W0.heap.size ga gr A n c xs (by omega) (by omega) (by omega) (by omega) J Jx hY W ((B20.below' hW).cell 0) (fun j hj => ?_) h0
        obtain ⟨b9, o9, x9, e9, hlt9, hx9, hok9, g0, g1, g2, g3, g4, g5⟩ := (h.below (bb yW hW)).at_ hj
        have hb9 : b9 < w.heap.size := by
          obtain ⟨b8, o8, e8, hlt8, _⟩ := h.2 (by omega)
          rw [e8] at e9
          injection e9 with e9
          injection e9 with e9
          omega
        have ex : xs.getD j default = x9 := by rw [List.getD_eq_getElem?_getD, hx9]; rfl
        rw [ex]
        exact ⟨b9, o9, e9, by omega, by omega, by omega, g0, g1, g2, g3, g4, g5⟩
      refine wpIn_rangeFunc_ownH rfl (by omega) (gf := 71) (lb := #[.pointer (some ⟨w8.heap.size + 1, 0, none⟩)]) (by rw [ha0]; rfl) trivial (enters_of Tryz.func71 (by kernel_rfl) rfl) seq
        (fun h1 h2 => KY.trans h1 h2) (fun W l o o' h1 h2 h3 h4 => ⟨by simp [World.putObj], fun b5 h5 h6 h7 => World.putObj_heap_other (by omega)⟩) (Below.refl _ _) (fun _ => rfl)
        (BkI w W0 ga gr n mn v (xs.map RI.pi) s0 V3.heap.size w7.heap.size)
        (BkX w n v (xs.map RI.pi) s0)
        (fun s X Y row hs hg hr => by
          obtain ⟨us, rs, e1, e2, e3, e4, e5, e6, e7⟩ := hs
          exact ⟨us, rs, e1.other hg (fun r e => (hr r e).2), e2.other hg (fun r e => (hr r e).2), e3, e4, e5, e6.other hg (fun r e => (hr r e).1) e6.1, e7.grown hg e7.size (fun k e => by have := (hr k e).1; have := yW.size; omega)⟩)
        (fun cd s X Y row hs hg hr => by
          obtain ⟨e0, i, e, e1, e2, e3, e4, e5⟩ := hs
          exact ⟨e0, i, e, e1, e2.other hg (fun r e => (hr r e).2), e3.other hg (fun r e => (hr r e).2), e4.other hg (fun r e => (hr r e).2), e5.grown hg e5.size (fun k e => by have := (hr k e).1; have := yW.size; omega)⟩)
        HI0.out
        (fun x a' W => ∃ Bx, W0.heap.size ≤ Bx ∧ Box 52 W Bx #[.int .i64 (xs.getD x.1 default).op, .int .i64 (xs.getD x.1 default).a, .int .i64 (xs.getD x.1 default).b, .bool (xs.getD x.1 default).q.s, .slice (xs.getD x.1 default).q.A (xs.getD x.1 default).q.n (xs.getD x.1 default).q.c, .slice (xs.getD x.1 default).q.A' (xs.getD x.1 default).q.n' (xs.getD x.1 default).q.c'] ∧ a' = { tmps := (((a0.tmps.setIfInBounds 77 (.int .i64 (x.1 : Int))).setIfInBounds 78 (xs.getD x.1 default).agg).setIfInBounds 20 (.int .i64 (x.1 : Int))).setIfInBounds 21 (.pointer (some ⟨Bx, 0, none⟩)), defers := [] })
        (fun x a' s X Y row hs hg hr => by
          obtain ⟨Bx, h1, h2, h3⟩ := hs
          exact ⟨Bx, h1, h2.other hg (fun r e => (hr r e).2), h3⟩) ?assign ?body ?done ?stop
      case assign =>
        intro l pre x W K hi hK
        subst ha0
        unfold RI.agg at *
        generalize xs.getD x.1 default = y at *
        gi_wp2
        obtain ⟨us, rs, e1, e2, e3, e4, e5, e6, e7⟩ := hi
        have ba := below_alloc W (.cells #[.int .i64 y.op, .int .i64 y.a, .int .i64 y.b, .bool y.q.s, .slice y.q.A y.q.n y.q.c, .slice y.q.A' y.q.n' y.q.c'] 52)
        exact hK _ _ ((KeepsOthers.alloc _ _).from _) (KY.of_below ba e6.1) ⟨us, rs, e1.below ba, e2.below ba, e3, e4, e5, e6.trans (KY.of_below ba e6.1), bb e7 ba⟩ ⟨W.heap.size, e6.1, Box.new W _ _, rfl⟩
      case body =>
        rintro l pre x a' W hl ⟨r0, hr0⟩ ⟨us, rs, e1, e2, e3, e4, e5, e6, e7⟩ ⟨Bx, hBx, bX, rfl⟩ hlt
        subst ha0
        obtain ⟨i, hi⟩ := x
        simp only at bX ⊢
        have hy : xs[i]? = some (xs.getD i default) := by
          have hl9 : i < xs.length := by have := HL.out; rw [List.length_map] at this; omega
          rw [List.getD_eq_getElem?_getD, List.getElem?_eq_getElem hl9]; rfl
        have hp := pi_at hy
        have hfit : fits vq nq (RI.pi (xs.getD i default)) i := by rw [← hp]; exact HPR.out.1 i (by rw [HL.out]; exact hi)
        have hpin := HPI.out i hi
        have h7 := HP7.out i hi
        rw [hp] at hpin h7
        have hmap : (pre ++ [(⟨i, hi⟩ : { i : Nat // i < n })]).map Subtype.val = pre.map Subtype.val ++ [i] := by rw [List.map_append]; rfl
        have hplen : (pre ++ [(⟨i, hi⟩ : { i : Nat // i < n })]).length = pre.length + 1 := by rw [List.length_append]; rfl
        unfold RI.agg
        have hgs := fun hb => @giveSt_big v i ((xs.map RI.pi).getD i PI.nil) (us, rs) hb
        have hgi := fun h1 hb => @giveSt_in v i ((xs.map RI.pi).getD i PI.nil) (us, rs) h1 hb
        have hgn := fun h1 hb => @giveSt_no v i ((xs.map RI.pi).getD i PI.nil) (us, rs) h1 hb
        have hst : ∀ s1, giveSt v i ((xs.map RI.pi).getD i PI.nil) (us, rs) = .ok s1 → giveL v (xs.map RI.pi) ((pre ++ [(⟨i, hi⟩ : { i : Nat // i < n })]).map Subtype.val) s0 = .ok s1 := fun s1 h9 => by rw [hmap]; exact giveL_step e3 h9
        have hsp : ∀ e, giveSt v i ((xs.map RI.pi).getD i PI.nil) (us, rs) = .error e → giveL v (xs.map RI.pi) ((pre ++ [(⟨i, hi⟩ : { i : Nat // i < n })]).map Subtype.val) s0 = .error (i, e) := fun e h9 => by rw [hmap]; exact giveL_stop e3 h9
        have HPL := Lib.hid hplen
        rw [hp] at hgs hgi hgn hst hsp
        clear hp hy
        generalize xs.getD i default = y at *
        have r1 : Box 23 W w.heap.size #[.slice none 0 0] := e6.box HR0.out.1 HR0.out.1.lt (by omega) (by omega)
        have r2 : Box 3 W (w.heap.size + 1) #[.int .i64 0] := e6.box HR0.out.2.1 HR0.out.2.1.lt (by omega) (by omega)
        have r3 : Box 28 W (w.heap.size + 1 + 1) #[.int .i64 0] := e6.box HR0.out.2.2 HR0.out.2.2.lt (by omega) (by omega)
        have t13 : Box 23 W w2.heap.size #[.slice Av n cv] := e6.box HB.out.1 HB.out.1.lt (by omega) (by omega)
        have t16 : Box 23 W w4.heap.size #[.slice (some ⟨ga, 0, none⟩) n n] := e6.box HB.out.2.1 HB.out.2.1.lt (by omega) (by omega)
        have t19 : Box 23 W w8.heap.size #[.slice (some ⟨gr, 0, none⟩) mn mn] := e6.box HB.out.2.2 HB.out.2.2.lt (by omega) (by omega)
        have qV := HQW.out.ky HNW.out.1 HNW.out.2 e6 (fun b off e => HNE.out b off e (by omega))
        obtain ⟨bv, ov, sv, A1, n1, c1, D1, m1, d1, eAv, lbv, kv0, kv1, kv2, q_v⟩ := qV.at_ hi
        have hbv := HNE.out bv ov eAv (by omega)
        obtain ⟨s_g, A_g, n_g, c_g, D_g, m_g, d_g, k0, k1, k2, q_g, _, _, _⟩ := e1.at_ hi
        have z_us : Sz (us.getD i 0) 40000 := (getD_sz e4 (by omega) i).mono (by omega)
        have z_v : Sz (v.getD i 0) 64 := getD_sz zv (by omega) i
        obtain ⟨W1, hW1, BG, bG⟩ := box0 45 W #[.bool s_g, .slice A_g n_g c_g, .slice D_g m_g d_g]
        have TL := tg_tooLong (q_g.below bG) z_us (by omega)
        have c16 := t16.one.1
        have nW := e6.1
        have HW1 := Lib.hid hW1
        have HTL := Lib.hid TL
        have HBG0 := Lib.hid BG
        have HX0 := Lib.hid bX
        have HT := Lib.hid (And.intro t13 (And.intro t16 t19))
        have HRR := Lib.hid (And.intro r1 (And.intro r2 r3))
        have HE1 := Lib.hid e1
        have HE2 := Lib.hid e2
        have HZ := Lib.hid (And.intro e4 e5)
        have HQ := Lib.hid (And.intro qV (And.intro q_v q_g))
        have HKV := Lib.hid (And.intro kv0 (And.intro kv1 kv2))
        have HGS := Lib.hid hgs
        have HGI := Lib.hid hgi
        have HGN := Lib.hid hgn
        have HST := Lib.hid hst
        have HSP := Lib.hid hsp
        clear hW1 TL BG bX t13 t16 t19 r1 r2 r3 e1 e2 e4 e5 qV q_v q_g kv0 kv1 kv2 hgs hgi hgn hst hsp hmap hplen seq e3
        generalize hus : us.getD i 0 = G at *
        generalize v.getD i 0 = Yv at *
        by_cases hbig : 4096 < bitsQ G
        · have HG := Lib.hid (HSP.out 5 (HGS.out hbig))
          rw [decide_eq_true hbig] at HTL
          gi_wp2_with (refine ⟨trivial, ?_⟩; gi_at_call 29; rw [HW1.out]; refine (CallsIn.inRound l (callsIn_wide.2 HTL.out)).mono ?_; rintro _ W2 ⟨rfl, b2⟩; have bW := bb bG b2; have HR2 := Lib.hid (And.intro (HRR.out.1.below' bW) (And.intro (HRR.out.2.1.below' bW) (HRR.out.2.2.below' bW))); obtain ⟨c1', f1'⟩ := HR2.out.1.one; obtain ⟨c2', f2'⟩ := HR2.out.2.1.one; obtain ⟨c3', f3'⟩ := HR2.out.2.2.one)
          obtain ⟨S1, S2, S3⟩ := putR_boxes HR2.out.1 HR2.out.2.1 HR2.out.2.2 (by omega) (by omega) (by omega) (.slice none 0 0) (.int .i64 (i : Int)) (.int .i64 5)
          have b9 := below_putR (bb e7 bW) (Nat.le_refl _) (show w.heap.size ≤ w.heap.size + 1 by omega) (show w.heap.size ≤ w.heap.size + 1 + 1 by omega) (.slice none 0 0) (.int .i64 (i : Int)) (.int .i64 5)
          have kf := keepsFrom_putR (B := W0.heap.size) HR2.out.1 HR2.out.2.1 HR2.out.2.2 (by omega) (by omega) (by omega) (.slice none 0 0) (.int .i64 (i : Int)) (.int .i64 5)
          exact ⟨(keepsFrom_below bW).trans kf, rfl, i, 5, HG.out, S1, S2, S3, b9⟩
        · rw [decide_eq_false hbig] at HTL
          have zG : Sz G 64 := sz_of_bits hbig
          have HNB := Lib.hid (show ¬ 4096 < bitsQ G from hbig)
          clear hbig
          by_cases h1 : y.op = 1
          · have ha0 := hpin h1
            have hfy := hfit
            have hya : 0 ≤ y.a := by
              unfold fits at hfy
              rw [if_neg (show ¬ y.pi.op = 2 by show ¬ y.op = 2; omega), if_pos (show y.pi.op = 1 from h1)] at hfy
              exact hfy.2.1
            have hya2 : y.a.toNat < mn := ha0
            obtain ⟨ai, hai⟩ : ∃ ai : Nat, y.a = (ai : Int) := ⟨y.a.toNat, by omega⟩
            have hai2 : ai < mn := by omega
            have HG := Lib.hid (HST.out _ (HGI.out h1 HNB.out))
            have e9 : (us, addAt rs (RI.pi y).a.toNat G) = (us, addAt rs ai G) := by
              rw [show (RI.pi y).a = y.a from rfl, hai]; rfl
            have HG2 := Lib.hid (show giveL v (xs.map RI.pi) ((pre ++ [(⟨i, hi⟩ : { i : Nat // i < n })]).map Subtype.val) s0 = .ok (us, addAt rs ai G) by rw [← e9]; exact HG.out)
            clear HG HST HGI HGN HGS HSP ha0 hfy hfit hpin h7 e9 hya hya2
            obtain ⟨x0, x1, x2, x3, x4, x5⟩ := (HX0.out.below' bG).six.1
            obtain ⟨op, a, b, q⟩ := y
            simp only at h1 hai HX0 x0 x1 x2 x3 x4 x5 ⊢
            subst h1 hai
            gi_wp2_with (refine ⟨trivial, ?_⟩; first
              | (gi_at_call 29; rw [HW1.out]; refine (CallsIn.inRound l (callsIn_wide.2 HTL.out)).mono ?_; rintro _ W2 ⟨rfl, b2⟩; have bW := bb bG b2; obtain ⟨x0, x1, x2, x3, x4, x5⟩ := (HX0.out.below' bW).six.1; have c19 := (HT.out.2.2.below' bW).one.1; obtain ⟨g0, g1, g2⟩ := (HBG0.out.below' b2).three.1; have AC := tg_accumulate (N := 5000) (HE2.out.below bW) hai2 (HQ.out.2.2.below bW) (zG.mono (by omega)) ((getD_sz HZ.out.2 (by omega) ai).mono (by omega)) (by omega); have HAC := Lib.hid AC; clear AC)
              | (gi_at_call 33; refine (CallsIn.inRound l (callsIn_wide.2 HAC.out)).mono ?_; rintro _ W3 ⟨rfl, O3, k3⟩))
            have zr : AllSz (10 + 70 * (pre.length + 1)) (addAt rs ai G) := by
              intro Z hZ
              unfold addAt at hZ
              obtain ⟨j, hj⟩ := List.mem_iff_getElem?.1 hZ
              rw [List.getElem?_set] at hj
              split at hj
              · split at hj
                · injection hj with hj
                  rw [← hj]
                  exact ((getD_sz HZ.out.2 (by omega) ai).add zG).mono (by omega)
                · cases hj
              · exact (HZ.out.2 Z (List.mem_of_getElem? hj)).mono (by omega)
            have nwr := (HE2.out.below bW).noW
            obtain ⟨csr, hcsr⟩ := (HE2.out.below bW).cells
            have u3 := (HE1.out.below bW).keepG nwr k3 (by omega)
            have b3 : Below w.heap.size w W3 := Below.keep (bb e7 bW) k3 (by have := yw.size; omega) (Nat.le_refl _)
            exact ⟨(keepsFrom_below bW).trans (keepsFrom_keep k3 hcsr), (KY.of_below bW nW).trans (KY.of_keep2 k3 (Nat.le_trans nW bW.size)), us, addAt rs ai G, u3, O3, HG2.out, fun Z hZ => (HZ.out.1 Z hZ).mono (by rw [HPL.out]; omega), (by rw [HPL.out]; exact zr), (e6.trans (KY.of_below bW nW)).trans (KY.of_keep2 k3 (Nat.le_trans nW bW.size)), b3⟩
          · have hop1 : (y.op == 1) = false := by simpa using h1
            obtain ⟨rv, hrv⟩ : ∃ rv, giveV (RI.pi y) G Yv v us = rv := ⟨_, rfl⟩
            have hg2e : ∀ e, rv = .error e → giveSt v i y.pi (us, rs) = .error e := fun e he => by
              have h9 := HGN.out h1 HNB.out
              dsimp only at h9
              rw [hrv, he] at h9
              exact h9
            have hg2o : ∀ u, rv = .ok u → giveSt v i y.pi (us, rs) = .ok (u, rs) := fun u he => by
              have h9 := HGN.out h1 HNB.out
              dsimp only at h9
              rw [hrv, he] at h9
              exact h9
            have hge : ∀ e, rv = .error e → e = 4 := fun e he => giveV_err (hrv.trans he)
            have zrv : ∀ u, rv = .ok u → AllSz (1300 + 520 * (pre.length + 1)) u := fun u hu Z hZ => (giveV_sz (N := 1300 + 520 * pre.length) (hrv.trans hu) HZ.out.1 (by omega) zG z_v zv Z hZ).mono (by omega)
            have HH2 := fun (w' : World) (hb9 : Below W.heap.size W w') => tg_handOn (x := y) (B := V3.heap.size) (g := ga) (l := n) (cap := n) (Xs := us) (i := i) (N := 1300 + 520 * pre.length) (HQ.out.2.1.below hb9) z_v (HQ.out.2.2.below hb9) zG (HQ.out.1.below hb9) zv (fun b off e => (HNE.out b off e (by omega)).1) (HE1.out.below hb9) HZ.out.1 (by omega) (by omega) (Nat.le_refl n) (by omega) hi hfit h1 h7
            rw [hrv] at HH2
            have HHH := Lib.hid HH2
            have nwa := HE1.out.noW
            obtain ⟨csa, hcsa⟩ := HE1.out.cells
            have HCS := Lib.hid hcsa
            clear HH2 HGN HGI HGS hpin h7 hfit hrv hcsa
            obtain ⟨x0, x1, x2, x3, x4, x5⟩ := (HX0.out.below' bG).six.1
            subst eAv
            cases rv with
            | error e =>
              obtain rfl := hge e rfl
              have HG := Lib.hid (HSP.out 4 (hg2e 4 rfl))
              clear hge hg2e hg2o zrv HST HSP
              gi_wp2_with (refine ⟨trivial, ?_⟩; gi_at_call 29; rw [HW1.out]; refine (CallsIn.inRound l (callsIn_wide.2 HTL.out)).mono ?_; rintro _ W2 ⟨rfl, b2⟩; have bW := bb bG b2; obtain ⟨x0, x1, x2, x3, x4, x5⟩ := (HX0.out.below' bW).six.1)
              have HBX := Lib.hid (HX0.out.below' bW)
              have T13 := Lib.hid (HT.out.1.below' bW)
              have T16 := Lib.hid (HT.out.2.1.below' bW)
              have HBG := Lib.hid (HBG0.out.below' b2)
              have lBx := HBX.out.lt
              have l13 := T13.out.lt
              have l16 := T16.out.lt
              have lBG := HBG.out.lt
              have kv0 := (bW.cell (p := ⟨bv, ov + i * 3, none⟩) lbv).trans HKV.out.1
              have kv1 := (bW.cell (p := ⟨bv, ov + i * 3 + 1, none⟩) lbv).trans HKV.out.2.1
              have kv2 := (bW.cell (p := ⟨bv, ov + i * 3 + 2, none⟩) lbv).trans HKV.out.2.2
              have nbv : bv ≠ ga := hbv.1
              have lbv2 : bv < W2.heap.size := Nat.lt_of_lt_of_le lbv bW.size
              have hS : ∀ w', Keep ga W2 w' → w'.cell? ⟨Bx, 0, none⟩ = some (.int .i64 y.op) ∧ w'.cell? ⟨Bx, 1, none⟩ = some (.int .i64 y.a) ∧ w'.cell? ⟨Bx, 2, none⟩ = some (.int .i64 y.b) ∧ w'.cell? ⟨Bx, 3, none⟩ = some (.bool y.q.s) ∧ w'.cell? ⟨Bx, 4, none⟩ = some (.slice y.q.A y.q.n y.q.c) ∧ w'.cell? ⟨Bx, 5, none⟩ = some (.slice y.q.A' y.q.n' y.q.c') ∧ w'.cell? ⟨w2.heap.size, 0, none⟩ = some (.slice (some ⟨bv, ov, none⟩) n cv) ∧ w'.cell? ⟨bv, ov + i * 3, none⟩ = some (.bool sv) ∧ w'.cell? ⟨bv, ov + i * 3 + 1, none⟩ = some (.slice A1 n1 c1) ∧ w'.cell? ⟨bv, ov + i * 3 + 2, none⟩ = some (.slice D1 m1 d1) ∧ w'.cell? ⟨W.heap.size, 0, none⟩ = some (.bool s_g) ∧ w'.cell? ⟨W.heap.size, 1, none⟩ = some (.slice A_g n_g c_g) ∧ w'.cell? ⟨W.heap.size, 2, none⟩ = some (.slice D_g m_g d_g) ∧ w'.cell? ⟨w4.heap.size, 0, none⟩ = some (.slice (some ⟨ga, 0, none⟩) n n) := fun w' hk => ⟨(keep_cell hk lBx (by omega)).trans HBX.out.six.1.1, (keep_cell hk lBx (by omega)).trans HBX.out.six.1.2.1, (keep_cell hk lBx (by omega)).trans HBX.out.six.1.2.2.1, (keep_cell hk lBx (by omega)).trans HBX.out.six.1.2.2.2.1, (keep_cell hk lBx (by omega)).trans HBX.out.six.1.2.2.2.2.1, (keep_cell hk lBx (by omega)).trans HBX.out.six.1.2.2.2.2.2, (keep_cell hk l13 (by omega)).trans T13.out.one.1, (keep_cell hk lbv2 nbv).trans kv0, (keep_cell hk lbv2 nbv).trans kv1, (keep_cell hk lbv2 nbv).trans kv2, (keep_cell hk lBG (by omega)).trans HBG.out.three.1.1, (keep_cell hk lBG (by omega)).trans HBG.out.three.1.2.1, (keep_cell hk lBG (by omega)).trans HBG.out.three.1.2.2, (keep_cell hk l16 (by omega)).trans T16.out.one.1⟩
              have HS := Lib.hid hS
              have HHA := Lib.hid (HHH.out W2.drew bW.drew)
              have hi9 : (i : Int) < (n : Int) := by omega
              have HR2 := Lib.hid (And.intro (HRR.out.1.below' bW) (And.intro (HRR.out.2.1.below' bW) (HRR.out.2.2.below' bW)))
              have nWW := bW.size
              have hcs2 := (bW.block ga (Array.getElem?_eq_some_iff.1 HCS.out).1).trans HCS.out
              have HC2 := Lib.hid hcs2
              clear hS kv0 kv1 kv2 x0 x1 x2 x3 x4 x5 hcs2
              refine region_round (S := fun w' => w'.cell? ⟨Bx, 0, none⟩ = some (.int .i64 y.op) ∧ w'.cell? ⟨Bx, 1, none⟩ = some (.int .i64 y.a) ∧ w'.cell? ⟨Bx, 2, none⟩ = some (.int .i64 y.b) ∧ w'.cell? ⟨Bx, 3, none⟩ = some (.bool y.q.s) ∧ w'.cell? ⟨Bx, 4, none⟩ = some (.slice y.q.A y.q.n y.q.c) ∧ w'.cell? ⟨Bx, 5, none⟩ = some (.slice y.q.A' y.q.n' y.q.c') ∧ w'.cell? ⟨w2.heap.size, 0, none⟩ = some (.slice (some ⟨bv, ov, none⟩) n cv) ∧ w'.cell? ⟨bv, ov + i * 3, none⟩ = some (.bool sv) ∧ w'.cell? ⟨bv, ov + i * 3 + 1, none⟩ = some (.slice A1 n1 c1) ∧ w'.cell? ⟨bv, ov + i * 3 + 2, none⟩ = some (.slice D1 m1 d1) ∧ w'.cell? ⟨W.heap.size, 0, none⟩ = some (.bool s_g) ∧ w'.cell? ⟨W.heap.size, 1, none⟩ = some (.slice A_g n_g c_g) ∧ w'.cell? ⟨W.heap.size, 2, none⟩ = some (.slice D_g m_g d_g) ∧ w'.cell? ⟨w4.heap.size, 0, none⟩ = some (.slice (some ⟨ga, 0, none⟩) n n)) (by kernel_rfl) (by kernel_rfl) (by rintro ⟨_, _, h9⟩; exact h9) (HS.out _ Keep.drew') (fun hHeld => ?_)
              refine wpAnyH_take (i := 0) (v := ?_) rfl (by kernel_rfl) (by kernel_rfl) (by kernel_rfl) (fun _ _ _ h => h) (Or.inl ⟨by kernel_rfl, ?_⟩) (by assumption) ?_
              rotate_left
              · intro w hSw
                (try dsimp only at hSw)
                go_simp
                (try with_reducible rfl)
              try simp only [Act.put, List.setIfInBounds_toArray, List.set_cons_zero, List.set_cons_succ, List.getElem_toArray, List.getElem_cons_zero, List.getElem_cons_succ]
              refine wpAnyH_take (i := 1) (v := ?_) rfl (by kernel_rfl) (by kernel_rfl) (by kernel_rfl) (fun _ _ _ h => h) (Or.inl ⟨by kernel_rfl, ?_⟩) (by assumption) ?_
              rotate_left
              · intro w hSw
                (try dsimp only at hSw)
                go_simp
                (try with_reducible rfl)
              try simp only [Act.put, List.setIfInBounds_toArray, List.set_cons_zero, List.set_cons_succ, List.getElem_toArray, List.getElem_cons_zero, List.getElem_cons_succ]
              refine wpAnyH_take (i := 2) (v := ?_) rfl (by kernel_rfl) (by kernel_rfl) (by kernel_rfl) (fun _ _ _ h => h) (Or.inl ⟨by kernel_rfl, ?_⟩) (by assumption) ?_
              rotate_left
              · intro w hSw
                (try dsimp only at hSw)
                go_simp
                (try with_reducible rfl)
              try simp only [Act.put, List.setIfInBounds_toArray, List.set_cons_zero, List.set_cons_succ, List.getElem_toArray, List.getElem_cons_zero, List.getElem_cons_succ]
              refine wpAnyH_take (i := 3) (v := ?_) rfl (by kernel_rfl) (by kernel_rfl) (by kernel_rfl) (fun _ _ _ h => h) (Or.inl ⟨by kernel_rfl, ?_⟩) (by assumption) ?_
              rotate_left
              · intro w hSw
                (try dsimp only at hSw)
                go_simp
                (try with_reducible rfl)
              try simp only [Act.put, List.setIfInBounds_toArray, List.set_cons_zero, List.set_cons_succ, List.getElem_toArray, List.getElem_cons_zero, List.getElem_cons_succ]
              refine wpAnyH_take (i := 4) (v := ?_) rfl (by kernel_rfl) (by kernel_rfl) (by kernel_rfl) (fun _ _ _ h => h) (Or.inl ⟨by kernel_rfl, ?_⟩) (by assumption) ?_
              rotate_left
              · intro w hSw
                (try dsimp only at hSw)
                go_simp
                (try with_reducible rfl)
              try simp only [Act.put, List.setIfInBounds_toArray, List.set_cons_zero, List.set_cons_succ, List.getElem_toArray, List.getElem_cons_zero, List.getElem_cons_succ]
              refine wpAnyH_take (i := 5) (v := ?_) rfl (by kernel_rfl) (by kernel_rfl) (by kernel_rfl) (fun _ _ _ h => h) (Or.inl ⟨by kernel_rfl, ?_⟩) (by assumption) ?_
              rotate_left
              · intro w hSw
                (try dsimp only at hSw)
                go_simp
                (try with_reducible rfl)
              try simp only [Act.put, List.setIfInBounds_toArray, List.set_cons_zero, List.set_cons_succ, List.getElem_toArray, List.getElem_cons_zero, List.getElem_cons_succ]
              refine wpAnyH_take (i := 6) (v := ?_) rfl (by kernel_rfl) (by kernel_rfl) (by kernel_rfl) (fun _ _ _ h => h) (Or.inl ⟨by kernel_rfl, ?_⟩) (by assumption) ?_
              rotate_left
              · intro w hSw
                (try dsimp only at hSw)
                go_simp
                (try with_reducible rfl)
              try simp only [Act.put, List.setIfInBounds_toArray, List.set_cons_zero, List.set_cons_succ, List.getElem_toArray, List.getElem_cons_zero, List.getElem_cons_succ]
              refine wpAnyH_take (i := 7) (v := ?_) rfl (by kernel_rfl) (by kernel_rfl) (by kernel_rfl) (fun _ _ _ h => h) (Or.inl ⟨by kernel_rfl, ?_⟩) (by assumption) ?_
              rotate_left
              · intro w hSw
                (try dsimp only at hSw)
                go_simp
                (try with_reducible rfl)
              try simp only [Act.put, List.setIfInBounds_toArray, List.set_cons_zero, List.set_cons_succ, List.getElem_toArray, List.getElem_cons_zero, List.getElem_cons_succ]
              refine wpAnyH_ready (rs := [8]) (by kernel_rfl) (by simp) ?_
              refine AllReadyH.cons rfl (fun K hK => ?_) AllReadyH.nil
              go_simp
              refine HHA.out.mono ?_
              rintro _ W3 ⟨rfl, k3⟩
              have x3 : Keep ga W2 W3 := Keep.drew'.trans k3
              (try go_wp2_with fail)
              refine hK.out _ _ (HS.out _ x3) (fun hHeld => ?_)
              clear hK K
              try simp only [Act.put, List.setIfInBounds_toArray, List.set_cons_zero, List.set_cons_succ, List.getElem_toArray, List.getElem_cons_zero, List.getElem_cons_succ]
              refine wpAnyH_take (i := 9) (v := ?_) rfl (by kernel_rfl) (by kernel_rfl) (by kernel_rfl) (fun _ _ _ h => h) (Or.inl ⟨by kernel_rfl, ?_⟩) (by assumption) ?_
              rotate_left
              · intro w hSw
                (try dsimp only at hSw)
                go_simp
                (try with_reducible rfl)
              try simp only [Act.put, List.setIfInBounds_toArray, List.set_cons_zero, List.set_cons_succ, List.getElem_toArray, List.getElem_cons_zero, List.getElem_cons_succ]
              refine wpAnyH_done (by kernel_rfl) ?_ _
              have R3 := Lib.hid (And.intro (show Box 23 W3 w.heap.size #[.slice none 0 0] from (x3.block _ HR2.out.1.lt (by omega)).trans HR2.out.1) (And.intro (show Box 3 W3 (w.heap.size + 1) #[.int .i64 0] from (x3.block _ HR2.out.2.1.lt (by omega)).trans HR2.out.2.1) (show Box 28 W3 (w.heap.size + 1 + 1) #[.int .i64 0] from (x3.block _ HR2.out.2.2.lt (by omega)).trans HR2.out.2.2)))
              obtain ⟨c1', f1'⟩ := R3.out.1.one
              obtain ⟨c2', f2'⟩ := R3.out.2.1.one
              obtain ⟨c3', f3'⟩ := R3.out.2.2.one
              have b3 : Below w.heap.size w W3 := Below.keep (bb e7 bW) x3 (by omega) (Nat.le_refl _)
              have kf3 : KeepsFrom W0.heap.size W W3 := (keepsFrom_below bW).trans (keepsFrom_keep x3 HC2.out)
              gi_wp2_with (refine ⟨trivial, ?_⟩)
              obtain ⟨S1, S2, S3⟩ := putR_boxes R3.out.1 R3.out.2.1 R3.out.2.2 (by omega) (by omega) (by omega) (.slice none 0 0) (.int .i64 (i : Int)) (.int .i64 4)
              have b9 := below_putR b3 (Nat.le_refl _) (show w.heap.size ≤ w.heap.size + 1 by omega) (show w.heap.size ≤ w.heap.size + 1 + 1 by omega) (.slice none 0 0) (.int .i64 (i : Int)) (.int .i64 4)
              have kf := keepsFrom_putR (B := W0.heap.size) R3.out.1 R3.out.2.1 R3.out.2.2 (by omega) (by omega) (by omega) (.slice none 0 0) (.int .i64 (i : Int)) (.int .i64 4)
              exact ⟨kf3.trans kf, rfl, i, 4, HG.out, S1, S2, S3, b9⟩
            | ok u =>
              have hzu := zrv u rfl
              have HG := Lib.hid (HST.out _ (hg2o u rfl))
              clear hge hg2e hg2o zrv HST HSP
              gi_wp2_with (refine ⟨trivial, ?_⟩; gi_at_call 29; rw [HW1.out]; refine (CallsIn.inRound l (callsIn_wide.2 HTL.out)).mono ?_; rintro _ W2 ⟨rfl, b2⟩; have bW := bb bG b2; obtain ⟨x0, x1, x2, x3, x4, x5⟩ := (HX0.out.below' bW).six.1)
              have HBX := Lib.hid (HX0.out.below' bW)
              have T13 := Lib.hid (HT.out.1.below' bW)
              have T16 := Lib.hid (HT.out.2.1.below' bW)
              have HBG := Lib.hid (HBG0.out.below' b2)
              have lBx := HBX.out.lt
              have l13 := T13.out.lt
              have l16 := T16.out.lt
              have lBG := HBG.out.lt
              have kv0 := (bW.cell (p := ⟨bv, ov + i * 3, none⟩) lbv).trans HKV.out.1
              have kv1 := (bW.cell (p := ⟨bv, ov + i * 3 + 1, none⟩) lbv).trans HKV.out.2.1
              have kv2 := (bW.cell (p := ⟨bv, ov + i * 3 + 2, none⟩) lbv).trans HKV.out.2.2
              have nbv : bv ≠ ga := hbv.1
              have lbv2 : bv < W2.heap.size := Nat.lt_of_lt_of_le lbv bW.size
              have hS : ∀ w', Keep ga W2 w' → w'.cell? ⟨Bx, 0, none⟩ = some (.int .i64 y.op) ∧ w'.cell? ⟨Bx, 1, none⟩ = some (.int .i64 y.a) ∧ w'.cell? ⟨Bx, 2, none⟩ = some (.int .i64 y.b) ∧ w'.cell? ⟨Bx, 3, none⟩ = some (.bool y.q.s) ∧ w'.cell? ⟨Bx, 4, none⟩ = some (.slice y.q.A y.q.n y.q.c) ∧ w'.cell? ⟨Bx, 5, none⟩ = some (.slice y.q.A' y.q.n' y.q.c') ∧ w'.cell? ⟨w2.heap.size, 0, none⟩ = some (.slice (some ⟨bv, ov, none⟩) n cv) ∧ w'.cell? ⟨bv, ov + i * 3, none⟩ = some (.bool sv) ∧ w'.cell? ⟨bv, ov + i * 3 + 1, none⟩ = some (.slice A1 n1 c1) ∧ w'.cell? ⟨bv, ov + i * 3 + 2, none⟩ = some (.slice D1 m1 d1) ∧ w'.cell? ⟨W.heap.size, 0, none⟩ = some (.bool s_g) ∧ w'.cell? ⟨W.heap.size, 1, none⟩ = some (.slice A_g n_g c_g) ∧ w'.cell? ⟨W.heap.size, 2, none⟩ = some (.slice D_g m_g d_g) ∧ w'.cell? ⟨w4.heap.size, 0, none⟩ = some (.slice (some ⟨ga, 0, none⟩) n n) := fun w' hk => ⟨(keep_cell hk lBx (by omega)).trans HBX.out.six.1.1, (keep_cell hk lBx (by omega)).trans HBX.out.six.1.2.1, (keep_cell hk lBx (by omega)).trans HBX.out.six.1.2.2.1, (keep_cell hk lBx (by omega)).trans HBX.out.six.1.2.2.2.1, (keep_cell hk lBx (by omega)).trans HBX.out.six.1.2.2.2.2.1, (keep_cell hk lBx (by omega)).trans HBX.out.six.1.2.2.2.2.2, (keep_cell hk l13 (by omega)).trans T13.out.one.1, (keep_cell hk lbv2 nbv).trans kv0, (keep_cell hk lbv2 nbv).trans kv1, (keep_cell hk lbv2 nbv).trans kv2, (keep_cell hk lBG (by omega)).trans HBG.out.three.1.1, (keep_cell hk lBG (by omega)).trans HBG.out.three.1.2.1, (keep_cell hk lBG (by omega)).trans HBG.out.three.1.2.2, (keep_cell hk l16 (by omega)).trans T16.out.one.1⟩
              have HS := Lib.hid hS
              have HHA := Lib.hid (HHH.out W2.drew bW.drew)
              have hi9 : (i : Int) < (n : Int) := by omega
              have HR2 := Lib.hid (And.intro (HRR.out.1.below' bW) (And.intro (HRR.out.2.1.below' bW) (HRR.out.2.2.below' bW)))
              have nWW := bW.size
              have hcs2 := (bW.block ga (Array.getElem?_eq_some_iff.1 HCS.out).1).trans HCS.out
              have HC2 := Lib.hid hcs2
              clear hS kv0 kv1 kv2 x0 x1 x2 x3 x4 x5 hcs2
              refine region_round (S := fun w' => w'.cell? ⟨Bx, 0, none⟩ = some (.int .i64 y.op) ∧ w'.cell? ⟨Bx, 1, none⟩ = some (.int .i64 y.a) ∧ w'.cell? ⟨Bx, 2, none⟩ = some (.int .i64 y.b) ∧ w'.cell? ⟨Bx, 3, none⟩ = some (.bool y.q.s) ∧ w'.cell? ⟨Bx, 4, none⟩ = some (.slice y.q.A y.q.n y.q.c) ∧ w'.cell? ⟨Bx, 5, none⟩ = some (.slice y.q.A' y.q.n' y.q.c') ∧ w'.cell? ⟨w2.heap.size, 0, none⟩ = some (.slice (some ⟨bv, ov, none⟩) n cv) ∧ w'.cell? ⟨bv, ov + i * 3, none⟩ = some (.bool sv) ∧ w'.cell? ⟨bv, ov + i * 3 + 1, none⟩ = some (.slice A1 n1 c1) ∧ w'.cell? ⟨bv, ov + i * 3 + 2, none⟩ = some (.slice D1 m1 d1) ∧ w'.cell? ⟨W.heap.size, 0, none⟩ = some (.bool s_g) ∧ w'.cell? ⟨W.heap.size, 1, none⟩ = some (.slice A_g n_g c_g) ∧ w'.cell? ⟨W.heap.size, 2, none⟩ = some (.slice D_g m_g d_g) ∧ w'.cell? ⟨w4.heap.size, 0, none⟩ = some (.slice (some ⟨ga, 0, none⟩) n n)) (by kernel_rfl) (by kernel_rfl) (by rintro ⟨_, _, h9⟩; exact h9) (HS.out _ Keep.drew') (fun hHeld => ?_)
              refine wpAnyH_take (i := 0) (v := ?_) rfl (by kernel_rfl) (by kernel_rfl) (by kernel_rfl) (fun _ _ _ h => h) (Or.inl ⟨by kernel_rfl, ?_⟩) (by assumption) ?_
              rotate_left
              · intro w hSw
                (try dsimp only at hSw)
                go_simp
                (try with_reducible rfl)
              try simp only [Act.put, List.setIfInBounds_toArray, List.set_cons_zero, List.set_cons_succ, List.getElem_toArray, List.getElem_cons_zero, List.getElem_cons_succ]
              refine wpAnyH_take (i := 1) (v := ?_) rfl (by kernel_rfl) (by kernel_rfl) (by kernel_rfl) (fun _ _ _ h => h) (Or.inl ⟨by kernel_rfl, ?_⟩) (by assumption) ?_
              rotate_left
              · intro w hSw
                (try dsimp only at hSw)
                go_simp
                (try with_reducible rfl)
              try simp only [Act.put, List.setIfInBounds_toArray, List.set_cons_zero, List.set_cons_succ, List.getElem_toArray, List.getElem_cons_zero, List.getElem_cons_succ]
              refine wpAnyH_take (i := 2) (v := ?_) rfl (by kernel_rfl) (by kernel_rfl) (by kernel_rfl) (fun _ _ _ h => h) (Or.inl ⟨by kernel_rfl, ?_⟩) (by assumption) ?_
              rotate_left
              · intro w hSw
                (try dsimp only at hSw)
                go_simp
                (try with_reducible rfl)
              try simp only [Act.put, List.setIfInBounds_toArray, List.set_cons_zero, List.set_cons_succ, List.getElem_toArray, List.getElem_cons_zero, List.getElem_cons_succ]
              refine wpAnyH_take (i := 3) (v := ?_) rfl (by kernel_rfl) (by kernel_rfl) (by kernel_rfl) (fun _ _ _ h => h) (Or.inl ⟨by kernel_rfl, ?_⟩) (by assumption) ?_
              rotate_left
              · intro w hSw
                (try dsimp only at hSw)
                go_simp
                (try with_reducible rfl)
              try simp only [Act.put, List.setIfInBounds_toArray, List.set_cons_zero, List.set_cons_succ, List.getElem_toArray, List.getElem_cons_zero, List.getElem_cons_succ]
              refine wpAnyH_take (i := 4) (v := ?_) rfl (by kernel_rfl) (by kernel_rfl) (by kernel_rfl) (fun _ _ _ h => h) (Or.inl ⟨by kernel_rfl, ?_⟩) (by assumption) ?_
              rotate_left
              · intro w hSw
                (try dsimp only at hSw)
                go_simp
                (try with_reducible rfl)
              try simp only [Act.put, List.setIfInBounds_toArray, List.set_cons_zero, List.set_cons_succ, List.getElem_toArray, List.getElem_cons_zero, List.getElem_cons_succ]
              refine wpAnyH_take (i := 5) (v := ?_) rfl (by kernel_rfl) (by kernel_rfl) (by kernel_rfl) (fun _ _ _ h => h) (Or.inl ⟨by kernel_rfl, ?_⟩) (by assumption) ?_
              rotate_left
              · intro w hSw
                (try dsimp only at hSw)
                go_simp
                (try with_reducible rfl)
              try simp only [Act.put, List.setIfInBounds_toArray, List.set_cons_zero, List.set_cons_succ, List.getElem_toArray, List.getElem_cons_zero, List.getElem_cons_succ]
              refine wpAnyH_take (i := 6) (v := ?_) rfl (by kernel_rfl) (by kernel_rfl) (by kernel_rfl) (fun _ _ _ h => h) (Or.inl ⟨by kernel_rfl, ?_⟩) (by assumption) ?_
              rotate_left
              · intro w hSw
                (try dsimp only at hSw)
                go_simp
                (try with_reducible rfl)
              try simp only [Act.put, List.setIfInBounds_toArray, List.set_cons_zero, List.set_cons_succ, List.getElem_toArray, List.getElem_cons_zero, List.getElem_cons_succ]
              refine wpAnyH_take (i := 7) (v := ?_) rfl (by kernel_rfl) (by kernel_rfl) (by kernel_rfl) (fun _ _ _ h => h) (Or.inl ⟨by kernel_rfl, ?_⟩) (by assumption) ?_
              rotate_left
              · intro w hSw
                (try dsimp only at hSw)
                go_simp
                (try with_reducible rfl)
              try simp only [Act.put, List.setIfInBounds_toArray, List.set_cons_zero, List.set_cons_succ, List.getElem_toArray, List.getElem_cons_zero, List.getElem_cons_succ]
              refine wpAnyH_ready (rs := [8]) (by kernel_rfl) (by simp) ?_
              refine AllReadyH.cons rfl (fun K hK => ?_) AllReadyH.nil
              go_simp
              refine HHA.out.mono ?_
              rintro _ W3 ⟨rfl, O3, k3⟩
              have x3 : Keep ga W2 W3 := Keep.drew'.trans k3
              (try go_wp2_with fail)
              refine hK.out _ _ (HS.out _ x3) (fun hHeld => ?_)
              clear hK K
              try simp only [Act.put, List.setIfInBounds_toArray, List.set_cons_zero, List.set_cons_succ, List.getElem_toArray, List.getElem_cons_zero, List.getElem_cons_succ]
              refine wpAnyH_take (i := 9) (v := ?_) rfl (by kernel_rfl) (by kernel_rfl) (by kernel_rfl) (fun _ _ _ h => h) (Or.inl ⟨by kernel_rfl, ?_⟩) (by assumption) ?_
              rotate_left
              · intro w hSw
                (try dsimp only at hSw)
                go_simp
                (try with_reducible rfl)
              try simp only [Act.put, List.setIfInBounds_toArray, List.set_cons_zero, List.set_cons_succ, List.getElem_toArray, List.getElem_cons_zero, List.getElem_cons_succ]
              refine wpAnyH_done (by kernel_rfl) ?_ _
              have b3 : Below w.heap.size w W3 := Below.keep (bb e7 bW) x3 (by omega) (Nat.le_refl _)
              have kf3 : KeepsFrom W0.heap.size W W3 := (keepsFrom_below bW).trans (keepsFrom_keep x3 HC2.out)
              have u3 := (HE2.out.below bW).keepG (HE1.out.below bW).noW x3 (by omega)
              gi_wp2_with (refine ⟨trivial, ?_⟩)
              exact ⟨kf3, (KY.of_below bW nW).trans (KY.of_keep1 x3 (Nat.le_trans nW bW.size)), u, rs, O3, u3, HG.out, (by rw [HPL.out]; exact hzu), fun Z hZ => (HZ.out.2 Z hZ).mono (by rw [HPL.out]; omega), (e6.trans (KY.of_below bW nW)).trans (KY.of_keep1 x3 (Nat.le_trans nW bW.size)), b3⟩
      case done =>
        rintro DD ys W hD hS ⟨us, rs, e1, e2, e3, e4, e5, e6, e7⟩ hK
        subst ha0
        rw [hS, giveL_all] at e3
        have hRR := HRO.out HALL.out _ e3
        have t1 : Box 23 W w.heap.size #[.slice none 0 0] := e6.box HR0.out.1 HR0.out.1.lt (by omega) (by omega)
        have t2 : Box 3 W (w.heap.size + 1) #[.int .i64 0] := e6.box HR0.out.2.1 HR0.out.2.1.lt (by omega) (by omega)
        have t3 : Box 28 W (w.heap.size + 1 + 1) #[.int .i64 0] := e6.box HR0.out.2.2 HR0.out.2.2.lt (by omega) (by omega)
        have t19 : Box 23 W w8.heap.size #[.slice (some ⟨gr, 0, none⟩) mn mn] := e6.box HB.out.2.2 HB.out.2.2.lt (by omega) (by omega)
        have c19 := t19.one.1
        obtain ⟨c1, f1⟩ := t1.one
        obtain ⟨c2, f2⟩ := t2.one
        obtain ⟨c3, f3⟩ := t3.one
        have HT := Lib.hid (And.intro t1 (And.intro t2 t3))
        have HE2 := Lib.hid e2
        have HE6 := Lib.hid e6
        clear t1 t2 t3 t19 e1 e2 e4 e5 e6 seq
        subst hRR
        gi_wp2
        have hyz := yW.size
        obtain ⟨S1, S2, S3⟩ := putR_boxes HT.out.1 HT.out.2.1 HT.out.2.2 (by omega) (by omega) (by omega) (.slice (some ⟨gr, 0, none⟩) mn mn) (.int .i64 0) (.int .i64 0)
        have hK2 := (heap_putR (w := W) (g1 := w.heap.size) (g2 := w.heap.size + 1) (g3 := w.heap.size + 1 + 1) (x1 := .slice (some ⟨gr, 0, none⟩) mn mn) (x2 := .int .i64 0) (x3 := .int .i64 0) (show DD ≠ w.heap.size by omega) (by omega) (by omega)).trans hK
        have o9 := HE2.out.putR HT.out.1 HT.out.2.1 HT.out.2.2 (NoW_slice _ _ _) (NoW_i64 _) (NoW_i64 _) (by omega) (by omega) (by omega) (by omega) (by omega) (by omega) (.slice (some ⟨gr, 0, none⟩) mn mn) (.int .i64 0) (.int .i64 0)
        have b9 := below_putR e7 (Nat.le_refl _) (show w.heap.size ≤ w.heap.size + 1 by omega) (show w.heap.size ≤ w.heap.size + 1 + 1 by omega) (.slice (some ⟨gr, 0, none⟩) mn mn) (.int .i64 0) (.int .i64 0)
        refine ⟨by simp, .inl ⟨_, _, rfl, run_takeDeferred hK2, ?_⟩⟩
        refine ⟨_, back_ret rfl rfl rfl (S1.putObj hK2 rfl _) (S2.putObj hK2 rfl _) (S3.putObj hK2 rfl _), ⟨_, _, _, rfl, (o9.other (grownBy_putObj' _ DD _) (fun r e => by cases e; exact ⟨_, hK2, rfl⟩)).slq⟩, b9.trans (belowK_b (w := w) (Nat.le_refl _) _ DD _ _ (by omega) hK2 rfl rfl)⟩
      case stop =>
        rintro DD c9 pre W hD ⟨kk, hpre⟩ ⟨rfl, i, e, e1, t1, t2, t3, e5⟩ hK
        subst ha0
        rw [hpre] at e1
        have hRR := HRE.out HALL.out _ (giveL_first e1)
        subst hRR
        gi_wp2
        refine ⟨by simp, .inl ⟨_, _, rfl, run_takeDeferred hK, ?_⟩⟩
        exact ⟨_, back_ret rfl rfl rfl (t1.putObj hK rfl _) (t2.putObj hK rfl _) (t3.putObj hK rfl _), rfl, e5.trans (belowK_b (w := w) (Nat.le_refl _) W DD _ _ (by have := yW.size; omega) hK rfl rfl)⟩

end Go.Proofs.YtfhihapgjiaobaaGreat
