/-
  Where the listed variable reads as the row says, its cells hold the factorials of 0 to 13. Condition: the row's own premise on the listed variable.
-/
import Derived.Test.YtibgpeaplmcogaaGreatDoorEvHAllE
import Derived.Test.YtibgpeaplmcogaaGreatDoorRows
import Derived.LaidMore
import Derived.Lay
namespace Go.Proofs.YtibgpeaplmcogaaGreatDoor
set_option maxRecDepth 100000
open Go.RowKit
set_option linter.unusedVariables false
set_option linter.unusedSimpArgs false

def q32 (a b : Nat) : RQ := ⟨false, some ⟨a, 0, none⟩, 1, 1, [3], some ⟨b, 0, none⟩, 1, 1, [2]⟩
def q01 (a : Nat) : RQ := ⟨false, none, 0, 0, [], some ⟨a, 0, none⟩, 1, 1, [1]⟩
theorem lits_a (w : World) : ∃ V, (((w.alloc (.cells #[.int .i64 1, .int .i64 0, .int .i64 0, .bool false, .slice none 0 0, .slice none 0 0, .int .i64 6, .int .i64 0, .int .i64 0, .bool false, .slice none 0 0, .slice none 0 0, .int .i64 7, .int .i64 0, .int .i64 0, .bool false, .slice none 0 0, .slice none 0 0] 27)).alloc (.cells #[.int .u64 3] 76)).alloc (.cells #[.int .u64 2] 76)).alloc (.cells #[.bool false, .slice (some ⟨w.heap.size + 1, 0, none⟩) 1 1, .slice (some ⟨w.heap.size + 1 + 1, 0, none⟩) 1 1] 25) = V ∧
    SlP V (some ⟨w.heap.size, 0, none⟩) 3 3 L3 ∧ SlR V (some ⟨w.heap.size + 1 + 1 + 1, 0, none⟩) 1 1 [q32 (w.heap.size + 1) (w.heap.size + 1 + 1)] ∧ Below w.heap.size w V := by
  obtain ⟨V1, e1⟩ : ∃ V1, w.alloc (.cells #[.int .i64 1, .int .i64 0, .int .i64 0, .bool false, .slice none 0 0, .slice none 0 0, .int .i64 6, .int .i64 0, .int .i64 0, .bool false, .slice none 0 0, .slice none 0 0, .int .i64 7, .int .i64 0, .int .i64 0, .bool false, .slice none 0 0, .slice none 0 0] 27) = V1 := ⟨_, rfl⟩
  have h1 : SlP V1 (some ⟨w.heap.size, 0, none⟩) 3 3 L3 := by rw [← e1]; exact L3_new w
  have b1 : Below w.heap.size w V1 := by rw [← e1]; exact below_alloc _ _
  have s1 : V1.heap.size = w.heap.size + 1 := by rw [← e1]; simp
  rw [e1]
  obtain ⟨V2, e2⟩ : ∃ V2, V1.alloc (.cells #[.int .u64 3] 76) = V2 := ⟨_, rfl⟩
  have t2 := sl_lit V1 3 (by unfold U; omega)
  have b2 := below_alloc V1 (.cells #[.int .u64 3] 76)
  have s2 : V2.heap.size = w.heap.size + 1 + 1 := by rw [← e2]; simp [s1]
  rw [e2] at t2 b2 ⊢
  obtain ⟨V3, e3⟩ : ∃ V3, V2.alloc (.cells #[.int .u64 2] 76) = V3 := ⟨_, rfl⟩
  have t3 := sl_lit V2 2 (by unfold U; omega)
  have b3 := below_alloc V2 (.cells #[.int .u64 2] 76)
  have s3 : V3.heap.size = w.heap.size + 1 + 1 + 1 := by rw [← e3]; simp [s2]
  rw [e3] at t3 b3 ⊢
  have b4 := below_alloc V3 (.cells #[.bool false, .slice (some ⟨w.heap.size + 1, 0, none⟩) 1 1, .slice (some ⟨w.heap.size + 1 + 1, 0, none⟩) 1 1] 25)
  rw [s1] at t2
  rw [s2] at t3
  refine ⟨_, rfl, ((h1.below b2).below b3).below b4, ?_, bb b1 (bb b2 (bb b3 b4))⟩
  rw [← s3]
  refine SlC.new V3 _ _ [q32 (w.heap.size + 1) (w.heap.size + 1 + 1)] (fun x hx => by rw [List.mem_singleton.1 hx]; rfl) (by rfl) (fun x hx => ?_) (by unfold maxLen; simp)
  rw [List.mem_singleton.1 hx]
  exact ⟨(t2.below b3).below b4, t3.below b4, by unfold maxLen; simp [q32], by unfold maxLen; simp [q32]⟩
theorem lits_b (w : World) : ∃ V, (w.alloc (.cells #[.int .u64 1] 76)).alloc (.cells #[.bool false, .slice none 0 0, .slice (some ⟨w.heap.size, 0, none⟩) 1 1] 25) = V ∧
    SlR V (some ⟨w.heap.size + 1, 0, none⟩) 1 1 [q01 w.heap.size] ∧ Below w.heap.size w V := by
  obtain ⟨V2, e2⟩ : ∃ V2, w.alloc (.cells #[.int .u64 1] 76) = V2 := ⟨_, rfl⟩
  have t2 := sl_lit w 1 U_1
  have b2 := below_alloc w (.cells #[.int .u64 1] 76)
  have s2 : V2.heap.size = w.heap.size + 1 := by rw [← e2]; simp
  rw [e2] at t2 b2 ⊢
  have b4 := below_alloc V2 (.cells #[.bool false, .slice none 0 0, .slice (some ⟨w.heap.size, 0, none⟩) 1 1] 25)
  refine ⟨_, rfl, ?_, bb b2 b4⟩
  rw [← s2]
  refine SlC.new V2 _ _ [q01 w.heap.size] (fun x hx => by rw [List.mem_singleton.1 hx]; rfl) (by rfl) (fun x hx => ?_) (by unfold maxLen; simp)
  rw [List.mem_singleton.1 hx]
  exact ⟨Sl.nil _ _ _, t2.below b4, by unfold maxLen; simp [q01], by unfold maxLen; simp [q01]⟩
theorem slr_nil (w : World) : SlR w none 0 0 [] := ⟨⟨rfl, Nat.le_refl _, by unfold maxLen; omega, by simp⟩, fun h0 => absurd h0 (by omega)⟩
theorem ex_a (a b : Nat) : exAll ((L3.take 2).map RI.pi) (allR [q32 a b]) (allR []) (qvs [q32 a b]) (qvs []) = .ok [rq false 3 2, rq false 9 4] := by
  have e1 : allR [q32 a b] = true := by
    show ((rightB false [3] [2]) && true) = true
    have : rightB false [3] [2] = true := by decide +kernel
    rw [this]; rfl
  have e2 : allR [] = true := rfl
  rw [e1, e2, exAll_yes L2_prog]
  exact ev_a
theorem ex_b (a : Nat) : exAll (L3.map RI.pi) (allR [q01 a]) (allR []) (qvs [q01 a]) (qvs []) = .error (2, 4) := by
  have e1 : allR [q01 a] = true := by
    show ((rightB false [] [1]) && true) = true
    have : rightB false [] [1] = true := by decide +kernel
    rw [this]; rfl
  have e2 : allR [] = true := rfl
  rw [e1, e2, exAll_yes L3_prog]
  exact ev_b
theorem fl_c : flAll (L3.map RI.pi) [0] = .ok [0, 0, 9221120237041090560] := by
  rw [flAll_yes L3_prog]
  exact ev_c

set_option maxRecDepth 100000 in
set_option maxHeartbeats 4000000 in
theorem same16 (w : World) (hF : Fac w) : Calls Tryz.prog 34 #[] w (RetBl true w) := by
  obtain ⟨V, hV, p1, r1, b0⟩ := lits_a w
  have X1 := ev_exact (p1.take (show 2 ≤ 3 by omega)) (L2_sh 64) r1 (fun x hx => by rw [List.mem_singleton.1 hx]; exact ⟨by simp [q32], by simp [q32]⟩) (slr_nil V) (by simp) (by omega) (by omega) (by omega)
  rw [ex_a] at X1
  have e4 : (rq false 9 4).num.natAbs = 9 ∧ (rq false 9 4).den = 4 := by decide +kernel
  have X2 := fun (w1 : World) (hb : Below V.heap.size V w1) (A : Option Addr) (g : Nat) (r : SlR w1 A 1 1 [q01 g]) => ev_exact (p1.below hb) (L3_sh 64) r (fun x hx => by rw [List.mem_singleton.1 hx]; exact ⟨by simp [q01], by simp [q01]⟩) (slr_nil w1) (by simp) (by omega) (by omega) (by omega)
  simp only [ex_b] at X2
  have X3 := fun (w1 : World) (hb : Below V.heap.size V w1) (A : Option Addr) (r : Sl w1 A 1 1 (nts [0])) => ev_float (p1.below hb) (L3_sh 20) r (fun x hx => by rw [List.mem_singleton.1 hx]; omega) (by omega) (by omega) (hF.below (bb b0 hb))
  simp only [fl_c] at X3
  have HX1 := Lib.hid X1
  have HX2 := Lib.hid X2
  have HX3 := Lib.hid X3
  have HV := Lib.hid hV
  have HE4 := Lib.hid e4
  clear X1 X2 X3 hV e4
  go_enter Tryz.func34, Tryz.ntmps34
  go_wp2_with fail
  rw [HV.out]
  with_reducible refine HX1.out.mono ?_
  rintro _ w1 ⟨⟨A1, n1, c1, rfl, q1⟩, b1⟩
  have hl1 : n1 = 2 := q1.len
  subst hl1
  obtain ⟨V2, hV2, r2, b2⟩ := lits_b w1
  have HV2 := Lib.hid hV2
  have HQ1 := Lib.hid q1
  clear hV2 q1
  go_wp2_with fail
  rw [HV2.out]
  with_reducible refine (HX2.out _ (bb b1 b2) _ _ r2).mono ?_
  rintro _ w3 ⟨rfl, b3⟩
  obtain ⟨V4, hV4⟩ : ∃ V4, w3.alloc (.cells #[.int .u64 0] 76) = V4 := ⟨_, rfl⟩
  have t4 := sl_lit w3 0 (by unfold U; omega)
  have b4 := below_alloc w3 (.cells #[.int .u64 0] 76)
  rw [hV4] at t4 b4
  have HV4 := Lib.hid hV4
  clear hV4
  go_wp2_with fail
  rw [HV4.out]
  with_reducible refine (HX3.out _ (bb b1 (bb b2 (bb b3 b4))) _ t4).mono ?_
  rintro _ w5 ⟨⟨A5, n5, c5, rfl, q5⟩, b5⟩
  have hl5 : n5 = 3 := q5.len
  subst hl5
  have y5 : Below w1.heap.size w1 w5 := bb b2 (bb b3 (bb b4 b5))
  obtain ⟨g1, o1, s1, A6, n6, c6, A7, n7, c7, rfl, hg1, k0, k1, k2, qq⟩ := (HQ1.out.below y5).at_ (show 1 < 2 by omega)
  have h1 := qq.2.1
  have h2 := qq.2.2
  have e5 : ([rq false 3 2, rq false 9 4] : List Rat).getD 1 0 = rq false 9 4 := rfl
  rw [e5, HE4.out.1] at h1
  rw [e5, HE4.out.2] at h2
  obtain ⟨rfl, g6, o6, rfl, hg6, k6⟩ := sl_word h1 (by omega) (by unfold W; omega)
  obtain ⟨rfl, g7, o7, rfl, hg7, k7⟩ := sl_word h2 (by omega) (by unfold W; omega)
  obtain ⟨g5, o5, rfl, hg5, k5⟩ := q5.2 (by omega)
  have k8 := k5 2 (by omega)
  rw [nts_at] at k8
  have e6 : ([0, 0, 9221120237041090560] : List Nat).getD 2 0 = 9221120237041090560 := rfl
  rw [e6] at k8
  clear k5 h1 h2 qq q5 e5 e6 HX1 HX2 HX3
  go_wp2
  go_ret
  exact ⟨rfl, bb b0 (bb b1 y5)⟩

set_option maxRecDepth 100000 in
set_option maxHeartbeats 4000000 in
theorem evalsExact_walk {w : World} {A B C : Option Addr} {n c m d k f : Nat} {xs : List RI} {is fs : List RQ} (h : SlP w A n c xs) (hi : SlR w B m d is) (hf : SlR w C k f fs) (hF : Fac w) :
    Calls Tryz.prog 6 #[.slice A n c, .slice B m d, .slice C k f] w (RetBl true w) := by
  obtain ⟨b, hb, FW⟩ := law_few h hi hf
  have SM := fun (w1 : World) (hb9 : Below w.heap.size w w1) => same16 w1 (hF.below hb9)
  have HFW := Lib.hid FW
  have HSM := Lib.hid SM
  clear FW SM
  cases b
  case false =>
    clear hb
    go_enter Tryz.func6, Tryz.ntmps6
    go_wp2_with fail
    with_reducible refine HFW.out.mono ?_
    rintro _ w1 ⟨rfl, b1⟩
    go_wp2_with fail
    with_reducible refine (HSM.out _ b1).mono ?_
    rintro _ w2 ⟨rfl, b2⟩
    go_wp2_with fail
    go_ret
    exact ⟨rfl, bb b1 b2⟩
  case true =>
    obtain ⟨m1, m2, m3, m4, m5, m6⟩ := hb.1 rfl
    unfold manyB at m1
    rw [Bool.or_eq_false_iff] at m1
    have hs : Shrt 64 xs := fun x hx => ⟨Nat.le_trans (anyI_short m1.1 x hx).1 (by omega), Nat.le_trans (anyI_short m1.1 x hx).2 (by omega)⟩
    have hsi : ∀ x ∈ is, x.n ≤ 64 ∧ x.n' ≤ 64 := fun x hx => by have := anyR_short (k := 3) m5 x hx; omega
    have hsf : ∀ x ∈ fs, x.n ≤ 64 ∧ x.n' ≤ 64 := fun x hx => by have := anyR_short (k := 3) m6 x hx; omega
    have E1 := fun (w1 : World) (hb9 : Below w.heap.size w w1) => ev_exact (h.below hb9) hs (hi.below hb9) hsi (hf.below hb9) hsf (by omega) (by omega) (by omega)
    have E2 := fun (w1 : World) (hb9 : Below w.heap.size w w1) => ref_exact (h.below hb9) hs (hi.below hb9) hsi (hf.below hb9) hsf (by omega) (by omega) (by omega)
    obtain ⟨R, hR⟩ : ∃ R, exAll (xs.map RI.pi) (allR is) (allR fs) (qvs is) (qvs fs) = R := ⟨_, rfl⟩
    have hsz : ∀ v, R = .ok v → AllSz 64 v ∧ v.length ≤ 60 := fun v hv => by
      rw [hv] at hR
      unfold exAll at hR
      split at hR
      · have hl : (xs.map RI.pi).length ≤ 60 := by rw [List.length_map, h.1.1]; exact m2
        refine ⟨?_, by have := evTo_len hR; omega⟩
        intro X hX
        obtain ⟨j, hj⟩ := List.mem_iff_getElem?.1 hX
        have hj2 : j < v.length := by
          rcases Nat.lt_or_ge j v.length with h9 | h9
          · exact h9
          · rw [List.getElem?_eq_none h9] at hj; cases hj
        have h8 := (evTo_ok (d := 0) hR j (by rw [← evTo_len hR]; exact hj2)).2
        have e7 : v.getD j 0 = X := by rw [List.getD_eq_getElem?_getD, hj]; rfl
        rw [e7] at h8
        unfold exSt big at h8
        split at h8
        · cases h8
        · split at h8
          · cases h8
          · rename_i hnb
            have e9 := Except.ok.inj h8
            have e8 : _ = X := e9
            rw [← e8]
            exact sz_of_bits hnb
      · cases hR
    simp only [hR] at E1 E2
    have HE1 := Lib.hid E1
    have HE2 := Lib.hid E2
    clear E1 E2 hR hb h hi hf hs hsi hsf m1 m5 m6
    cases R with
    | error e =>
      obtain ⟨i, e⟩ := e
      clear hsz
      go_enter Tryz.func6, Tryz.ntmps6
      go_wp2_with fail
      with_reducible refine HFW.out.mono ?_
      rintro _ w1 ⟨rfl, b1⟩
      go_wp2_with fail
      with_reducible refine (HE1.out _ b1).mono ?_
      rintro _ w2 ⟨rfl, b2⟩
      go_wp2_with fail
      with_reducible refine (HE2.out _ (bb b1 b2)).mono ?_
      rintro _ w3 ⟨rfl, b3⟩
      have y3 := bb b1 (bb b2 b3)
      have SR := Lib.hid (ref_sameR (SlQ.nil w3) (SlQ.nil w3) (fun X hX => by simp at hX) (by omega))
      go_wp2_with fail
      with_reducible refine SR.out.mono ?_
      rintro _ w4 ⟨rfl, b4⟩
      go_wp2_with fail
      with_reducible refine (HSM.out _ (bb y3 b4)).mono ?_
      rintro _ w5 ⟨rfl, b5⟩
      go_wp2_with fail
      go_ret
      exact ⟨rfl, bb (bb y3 b4) b5⟩
    | ok v =>
      obtain ⟨z1, z2⟩ := hsz v rfl
      clear hsz
      have HZ := Lib.hid z1
      clear z1
      go_enter Tryz.func6, Tryz.ntmps6
      go_wp2_with fail
      with_reducible refine HFW.out.mono ?_
      rintro _ w1 ⟨rfl, b1⟩
      go_wp2_with fail
      with_reducible refine (HE1.out _ b1).mono ?_
      rintro _ w2 ⟨⟨A2, n2, c2, rfl, q2⟩, b2⟩
      obtain ⟨l, hl⟩ : ∃ l, v.length = l := ⟨_, rfl⟩
      have e2 : n2 = l := by rw [← hl]; exact q2.len
      subst e2
      have HQ2 := Lib.hid q2
      clear q2
      go_wp2_with fail
      with_reducible refine (HE2.out _ (bb b1 b2)).mono ?_
      rintro _ w3 ⟨⟨A3, n3, c3, rfl, q3⟩, b3⟩
      have e3 : n3 = n2 := by rw [q3.len, hl]
      subst e3
      have y3 := bb b1 (bb b2 b3)
      have SR := Lib.hid (ref_sameR (HQ2.out.below b3) q3 HZ.out (by omega))
      clear q3 HQ2 hl
      go_wp2_with fail
      with_reducible refine SR.out.mono ?_
      rintro _ w4 ⟨rfl, b4⟩
      go_wp2_with fail
      with_reducible refine (HSM.out _ (bb y3 b4)).mono ?_
      rintro _ w5 ⟨rfl, b5⟩
      go_wp2_with fail
      go_ret
      exact ⟨rfl, bb (bb y3 b4) b5⟩

set_option maxRecDepth 100000 in
set_option maxHeartbeats 4000000 in
theorem evalsFloat_walk {w : World} {A B : Option Addr} {n c m d : Nat} {xs : List RI} {zs : List Int} (h : SlP w A n c xs) (hi : Sl w B m d zs) (hF : Fac w) :
    Calls Tryz.prog 7 #[.slice A n c, .slice B m d] w (RetBl true w) := by
  have MN := law_many h
  have SM := fun (w1 : World) (hb9 : Below w.heap.size w w1) => same16 w1 (hF.below hb9)
  have HSM := Lib.hid SM
  clear SM
  have hbad : ∀ (b : Bool), (b = true ∨ 60 < n ∨ 30 < m) → Calls Tryz.prog 9 #[.slice A n c] w (RetBl b w) → Calls Tryz.prog 7 #[.slice A n c, .slice B m d] w (RetBl true w) := by
    intro b hb MN
    have HMN := Lib.hid MN
    clear MN h hi
    have hc : b = true ∨ (b = false ∧ 60 < n) ∨ (b = false ∧ n ≤ 60 ∧ 30 < m) := by
      cases b
      · rcases hb with hb | hb | hb
        · cases hb
        · exact .inr (.inl ⟨rfl, hb⟩)
        · rcases Nat.lt_or_ge 60 n with h9 | h9
          · exact .inr (.inl ⟨rfl, h9⟩)
          · exact .inr (.inr ⟨rfl, h9, hb⟩)
      · exact .inl rfl
    clear hb
    rcases hc with rfl | ⟨rfl, h1⟩ | ⟨rfl, h1, h2⟩
    all_goals
      go_enter Tryz.func7, Tryz.ntmps7
      go_wp2_with fail
      with_reducible refine HMN.out.mono ?_
      rintro _ w1 ⟨rfl, b1⟩
      go_wp2_with fail
      with_reducible refine (HSM.out _ b1).mono ?_
      rintro _ w2 ⟨rfl, b2⟩
      go_wp2_with fail
      go_ret
      exact ⟨rfl, bb b1 b2⟩
  by_cases hb : manyB xs = true ∨ 60 < n ∨ 30 < m
  · exact hbad _ hb MN
  have m1 : manyB xs = false := by
    cases e : manyB xs
    · rfl
    · exact absurd (.inl e) hb
  have m2 : n ≤ 60 := Nat.le_of_not_lt fun e => hb (.inr (.inl e))
  have m3 : m ≤ 30 := Nat.le_of_not_lt fun e => hb (.inr (.inr e))
  rw [m1] at MN
  unfold manyB at m1
  rw [Bool.or_eq_false_iff] at m1
  have hs : Shrt 20 xs := fun x hx => ⟨Nat.le_trans (anyI_short m1.1 x hx).1 (by omega), Nat.le_trans (anyI_short m1.1 x hx).2 (by omega)⟩
  have hz : nts (zs.map Int.toNat) = zs := nts_toNat hi.us
  have hw : AllW (zs.map Int.toNat) := fun x hx => by
    obtain ⟨z, hz, rfl⟩ := List.mem_map.1 hx
    have := hi.us z hz
    unfold U at this
    omega
  rw [← hz] at hi
  have E1 := fun (w1 : World) (hb9 : Below w.heap.size w w1) => ev_float (h.below hb9) hs (hi.below hb9) hw (by omega) (by omega) (hF.below hb9)
  have E2 := fun (w1 : World) (hb9 : Below w.heap.size w w1) => ref_float (h.below hb9) hs (hi.below hb9) hw (by omega) (by omega)
  obtain ⟨R, hR⟩ : ∃ R, flAll (xs.map RI.pi) (zs.map Int.toNat) = R := ⟨_, rfl⟩
  have hln : ∀ v, R = .ok v → v.length ≤ 60 := fun v hv => by
    rw [hv] at hR
    unfold flAll at hR
    split at hR
    · have hl : (xs.map RI.pi).length ≤ 60 := by rw [List.length_map, h.1.1]; exact m2
      have := evTo_len hR
      omega
    · cases hR
  simp only [hR] at E1 E2
  have HE1 := Lib.hid E1
  have HE2 := Lib.hid E2
  have HMN := Lib.hid MN
  clear E1 E2 hR hb hbad h hi hs m1 MN hz hw
  cases R with
  | error e =>
    obtain ⟨i, e⟩ := e
    clear hln
    go_enter Tryz.func7, Tryz.ntmps7
    go_wp2_with fail
    with_reducible refine HMN.out.mono ?_
    rintro _ w1 ⟨rfl, b1⟩
    go_wp2_with fail
    with_reducible refine (HE1.out _ b1).mono ?_
    rintro _ w2 ⟨rfl, b2⟩
    go_wp2_with fail
    with_reducible refine (HE2.out _ (bb b1 b2)).mono ?_
    rintro _ w3 ⟨rfl, b3⟩
    have y3 := bb b1 (bb b2 b3)
    have SR := Lib.hid (plain_words (Sl.nil w3 none 0) (Sl.nil w3 none 0) (by omega) (by omega))
    go_wp2_with fail
    with_reducible refine SR.out.mono ?_
    rintro _ w4 ⟨rfl, kk, rfl⟩
    have y4 : Below w.heap.size w (w3.drewN kk) := ⟨y3.1, y3.2, y3.3, y3.4, y3.5⟩
    generalize w3.drewN kk = w4 at *
    go_wp2_with fail
    with_reducible refine (HSM.out _ y4).mono ?_
    rintro _ w5 ⟨rfl, b5⟩
    go_wp2_with fail
    go_ret
    exact ⟨rfl, bb y4 b5⟩
  | ok v =>
    have z2 := hln v rfl
    clear hln
    go_enter Tryz.func7, Tryz.ntmps7
    go_wp2_with fail
    with_reducible refine HMN.out.mono ?_
    rintro _ w1 ⟨rfl, b1⟩
    go_wp2_with fail
    with_reducible refine (HE1.out _ b1).mono ?_
    rintro _ w2 ⟨⟨A2, n2, c2, rfl, q2⟩, b2⟩
    have HQ2 := Lib.hid q2
    have e2 : n2 ≤ 60 := by have := q2.len; rw [nts_len] at this; omega
    clear q2
    go_wp2_with fail
    with_reducible refine (HE2.out _ (bb b1 b2)).mono ?_
    rintro _ w3 ⟨⟨A3, n3, c3, rfl, q3⟩, b3⟩
    have e3 : n3 ≤ 60 := by have := q3.len; rw [nts_len] at this; omega
    have y3 := bb b1 (bb b2 b3)
    have SW := plain_words (HQ2.out.below b3) q3 (by omega) (by omega)
    rw [decide_eq_true rfl] at SW
    have SR := Lib.hid SW
    clear q3 HQ2 SW
    go_wp2_with fail
    with_reducible refine SR.out.mono ?_
    rintro _ w4 ⟨rfl, kk, rfl⟩
    have y4 : Below w.heap.size w (w3.drewN kk) := ⟨y3.1, y3.2, y3.3, y3.4, y3.5⟩
    generalize w3.drewN kk = w4 at *
    go_wp2_with fail
    with_reducible refine (HSM.out _ y4).mono ?_
    rintro _ w5 ⟨rfl, b5⟩
    go_wp2_with fail
    go_ret
    exact ⟨rfl, bb y4 b5⟩

end Go.Proofs.YtibgpeaplmcogaaGreatDoor

namespace Go.Proofs.YtibgpeaplmcogaaGreatDoor
set_option maxRecDepth 100000
open Go.RowKit
set_option linter.unusedVariables false
set_option linter.unusedSimpArgs false
set_option maxRecDepth 100000

theorem fac16 {W : World} (h : laidMetH Tryz.prog Rows.evalsExactRow.laid W) : Fac W := by
  rw [MakeChecks.laidMetH_plain _ _ _ (by kernel_rfl)] at h
  obtain ⟨ps, ⟨g, t, cs, fuel, p, q, hg, ht, hv, hd, _, _⟩, _, _⟩ := h
  obtain rfl : g = 1 := Option.some.inj (hg.symm.trans (show Tryz.prog.globalNamed ((Rows.evalsExactRow.laid.map Prod.fst).headD Rows.evalsExactRow.spec) = some 1 by kernel_rfl))
  obtain rfl := Option.some.inj ((show (Tryz.prog.globals[1]?).map (·.type) = some 165 by kernel_rfl).symm.trans ht)
  obtain ⟨xs, m, _, ex, _, hl, hel⟩ := DataW.trod_array Tryz.underlying165 hd
  have c5 : Tryz.prog.cellsOf 3 = 1 := by kernel_rfl
  have hcell : ∀ r, r < 14 → W.cell? ⟨1, r, none⟩ = some (.int .i64 (facL.getD r 0)) := by
    intro r hr
    have hE := hel r hr
    rw [c5, Nat.mul_one, List.getElem?_eq_getElem (by omega)] at hE
    obtain ⟨z, e1, e2, _⟩ := DataW.trod_int Tryz.underlying3 hE
    have hlen : facL.length = 14 := rfl
    have e3 : (xs.map (·.1)) = facL.map fun n => (DataW.lit (.int .i64 n) : DataW Unit) := (DataW.agg.inj (Prod.mk.inj ex).1).symm
    have e4 : (xs.map (·.1))[r]? = (facL.map fun n => (DataW.lit (.int .i64 n) : DataW Unit))[r]? := by rw [e3]
    rw [List.getElem?_map, List.getElem?_map, List.getElem?_eq_getElem (by omega : r < xs.length), List.getElem?_eq_getElem (by omega : r < facL.length), e2] at e4
    have hz : z = facL.getD r 0 := by
      simp only [Option.map_some, Option.some.injEq, DataW.lit.injEq, Lit.int.injEq, true_and] at e4
      rw [e4, List.getD, List.getElem?_eq_getElem (by omega : r < facL.length)]; rfl
    rw [World.var?_cell hg hv r, ← hz]
    have : cs.toList[r]? = some (.int .i64 z) := by
      have h0 : ((cs.toList.drop r).take 1)[0]? = some (.int .i64 z) := by rw [e1]; rfl
      simpa using h0
    simpa using this
  refine ⟨?_, hcell⟩
  have h1 := hcell 0 (by omega)
  rcases Nat.lt_or_ge 1 W.heap.size with h0 | h0
  · exact h0
  · exfalso
    have : W.heap[1]? = none := Array.getElem?_eq_none h0
    unfold World.cell? at h1
    simp [this] at h1

theorem evalsExact_row (a0 : Option Addr) (len0 cap0 : Nat) (z0 : List RI) (a1 : Option Addr) (len1 cap1 : Nat) (z1 : List RQ) (a2 : Option Addr) (len2 cap2 : Nat) (z2 : List RQ) (w : World) (w0 : SlP w a0 len0 cap0 z0) (w1 : SlR w a1 len1 cap1 z1) (w2 : SlR w a2 len2 cap2 z2) (hF : Fac w) :
    Calls Tryz.prog 6 #[.slice a0 len0 cap0, .slice a1 len1 cap1, .slice a2 len2 cap2] w (RetBl true w) := evalsExact_walk w0 w1 w2 hF
theorem evalsFloat_row (a0 : Option Addr) (len0 cap0 : Nat) (z0 : List RI) (a1 : Option Addr) (len1 cap1 : Nat) (z1 : List Int) (w : World) (w0 : SlP w a0 len0 cap0 z0) (w1 : Sl w a1 len1 cap1 z1) (m1 : len1 ≤ maxLen) (hF : Fac w) :
    Calls Tryz.prog 7 #[.slice a0 len0 cap0, .slice a1 len1 cap1] w (RetBl true w) := evalsFloat_walk w0 w1 hF

end Go.Proofs.YtibgpeaplmcogaaGreatDoor
