/-
  The law TangentLinear returns true. Condition: the slices read as lists.
-/
import Derived.Test.YtfhihapgjiaobaaGreatTgKAllL
import Derived.Lib.SmallJoins
import Derived.Test.YtfhihapgjiaobaaGreatTgMoreAllL
namespace Go.Proofs.YtfhihapgjiaobaaGreat
set_option maxRecDepth 100000
open Go.RowKit
set_option linter.unusedVariables false
set_option linter.unusedSimpArgs false

def C2 : Array Value := #[.int .i64 1, .int .i64 0, .int .i64 0, .bool false, .slice none 0 0, .slice none 0 0, .int .i64 6, .int .i64 0, .int .i64 0, .bool false, .slice none 0 0, .slice none 0 0]
theorem L2_new (w : World) : SlP (w.alloc (.cells C2 52)) (some ⟨w.heap.size, 0, none⟩) 2 2 (L3.take 2) := by
  refine SlC.new w C2 52 (L3.take 2) (fun x _ => rfl) rfl (fun x hx => ?_) (by unfold maxLen; simp [L3])
  unfold L3 at hx
  simp only [List.take, List.mem_cons, List.not_mem_nil, or_false] at hx
  rcases hx with rfl | rfl <;> exact ins0_ok _ (by unfold I64; omega)
theorem one_new {w : World} {s : Bool} {A A' : Option Addr} {n c n' c' : Nat} {X : Rat} (q : Q w s A n c A' n' c' X) (zX : Sz X 64) : SlR (w.alloc (.cells #[.bool s, .slice A n c, .slice A' n' c'] 45)) (some ⟨w.heap.size, 0, none⟩) 1 1 [rqOf s A n c A' n' c' X] ∧ ∀ x ∈ [rqOf s A n c A' n' c' X], x.n ≤ 64 ∧ x.n' ≤ 64 := by
  refine ⟨SlC.new w _ _ [rqOf s A n c A' n' c' X] (fun x hx => by rw [List.mem_singleton.1 hx]; rfl) (by rfl) (fun x hx => ?_) (by unfold maxLen; simp), fun x hx => ?_⟩
  · rw [List.mem_singleton.1 hx]
    exact (rqOf_ok (q.below (below_alloc _ _)) zX (by omega)).1
  · rw [List.mem_singleton.1 hx]
    exact ⟨by have := q.2.1.small zX.1; exact this, by have := q.2.2.small zX.2; exact this⟩
theorem slr_none (w : World) : SlR w none 0 0 [] := ⟨⟨rfl, Nat.le_refl _, by unfold maxLen; omega, by simp⟩, fun h0 => absurd h0 (by omega)⟩
theorem one_is (w : World) : SlZ (w.alloc (.cells #[.int .i64 1] 3)) (some ⟨w.heap.size, 0, none⟩) 1 1 [1] := by
  refine SlC.new w _ _ [(1 : Int)] (fun x _ => rfl) (by rfl) (fun x hx => ?_) (by unfold maxLen; simp)
  rw [List.mem_singleton.1 hx]
  unfold I64; omega
theorem rq_3 {s : Bool} {A A' : Option Addr} {n c n' c' : Nat} (h : s = neg_ 3) : allR [rqOf s A n c A' n' c' 3] = true ∧ qvs [rqOf s A n c A' n' c' 3] = [3] := by
  subst h
  exact ⟨show (rightB (neg_ 3) (words (3 : Rat).num.natAbs) (words (3 : Rat).den) && true) = true by decide +kernel, show [rq (neg_ 3) (val (words (3 : Rat).num.natAbs)) (val (words (3 : Rat).den))] = [3] by decide +kernel⟩
theorem rq_1 {s : Bool} {A A' : Option Addr} {n c n' c' : Nat} (h : s = neg_ 1) : allR [rqOf s A n c A' n' c' 1] = true ∧ qvs [rqOf s A n c A' n' c' 1] = [1] := by
  subst h
  exact ⟨show (rightB (neg_ 1) (words (1 : Rat).num.natAbs) (words (1 : Rat).den) && true) = true by decide +kernel, show [rq (neg_ 1) (val (words (1 : Rat).num.natAbs)) (val (words (1 : Rat).den))] = [1] by decide +kernel⟩
theorem ex_sq : exAll ((L3.take 2).map RI.pi) true true [3] [] = .ok [3, 9] := by
  rw [exAll_yes L2_prog]
  kernel_rfl
theorem tg_sq : tgAll ((L3.take 2).map RI.pi) true true true true [3] [1] [] = .ok ([3, 9], [1, 6]) := by
  rw [tgAll_ok ex_sq]
  exact tgRun_ok (by kernel_rfl)
theorem bk_sq : bkAll ((L3.take 2).map RI.pi) true true true true [3] [] [1] [1] = .ok [6] := by
  rw [bkAll_ok ex_sq]
  exact bkRun_ok (s := ([6, 1], [6])) (by decide) (by kernel_rfl)

set_option maxRecDepth 100000 in
set_option maxHeartbeats 4000000 in
theorem same17 (w : World) : Calls Tryz.prog 8 #[] w (RetBl true w) := by
  have z3 : Sz (3 : Rat) 64 := ⟨by rw [show (3 : Rat).num.natAbs = 3 by decide +kernel]; exact Nat.lt_of_lt_of_le (by decide : 3 < W ^ 1) (Nat.pow_le_pow_right (by decide) (by omega)), by rw [show (3 : Rat).den = 1 by decide +kernel]; exact Nat.lt_of_lt_of_le (by decide : 1 < W ^ 1) (Nat.pow_le_pow_right (by decide) (by omega))⟩
  have z1 : Sz (1 : Rat) 64 := ⟨by rw [show (1 : Rat).num.natAbs = 1 by decide +kernel]; exact Nat.lt_of_lt_of_le (by decide : 1 < W ^ 1) (Nat.pow_le_pow_right (by decide) (by omega)), by rw [show (1 : Rat).den = 1 by decide +kernel]; exact Nat.lt_of_lt_of_le (by decide : 1 < W ^ 1) (Nat.pow_le_pow_right (by decide) (by omega))⟩
  have z6 : Sz (6 : Rat) 64 := ⟨by rw [show (6 : Rat).num.natAbs = 6 by decide +kernel]; exact Nat.lt_of_lt_of_le (by decide : 6 < W ^ 1) (Nat.pow_le_pow_right (by decide) (by omega)), by rw [show (6 : Rat).den = 1 by decide +kernel]; exact Nat.lt_of_lt_of_le (by decide : 1 < W ^ 1) (Nat.pow_le_pow_right (by decide) (by omega))⟩
  have T3 := law_three
  have O1 := fun w1 => ref_of 1 (by omega) (by omega) w1
  have O6 := fun w1 => ref_of 6 (by omega) (by omega) w1
  simp only [show ((1 : Int) : Rat) = 1 from rfl, show ((6 : Int) : Rat) = 6 from rfl] at O1 O6
  obtain ⟨V, hV⟩ : ∃ V, w.alloc (.cells C2 52) = V := ⟨_, rfl⟩
  have p0 := L2_new w
  have b0 := below_alloc w (.cells C2 52)
  rw [hV] at p0 b0
  unfold C2 at hV
  have HT3 := Lib.hid T3
  have HO1 := Lib.hid O1
  have HO6 := Lib.hid O6
  have HV := Lib.hid hV
  have Z3 := Lib.hid z3
  have Z1 := Lib.hid z1
  have Z6 := Lib.hid z6
  have HP := Lib.hid p0
  clear T3 O1 O6 hV z3 z1 z6 p0
  go_enter Tryz.func8, Tryz.ntmps8
  go_wp2_with fail
  rw [HV.out]
  with_reducible refine (HT3.out _).mono ?_
  rintro _ w1 ⟨s1, A1, n1, c1, D1, m1, d1, rfl, q1, b1⟩
  obtain ⟨V2, hV2⟩ : ∃ V2, w1.alloc (.cells #[.bool s1, .slice A1 n1 c1, .slice D1 m1 d1] 45) = V2 := ⟨_, rfl⟩
  have r1 := one_new q1 Z3.out
  have b2 := below_alloc w1 (.cells #[.bool s1, .slice A1 n1 c1, .slice D1 m1 d1] 45)
  rw [hV2] at r1 b2
  have HV2 := Lib.hid hV2
  have e1 := rq_3 (A := A1) (n := n1) (c := c1) (A' := D1) (n' := m1) (c' := d1) q1.1
  clear hV2
  go_wp2_with fail
  rw [HV2.out]
  with_reducible refine (HO1.out _).mono ?_
  rintro _ w3 ⟨s3, A3, n3, c3, D3, m3, d3, rfl, q3, b3⟩
  obtain ⟨V4, hV4⟩ : ∃ V2, w3.alloc (.cells #[.bool s3, .slice A3 n3 c3, .slice D3 m3 d3] 45) = V2 := ⟨_, rfl⟩
  have r3 := one_new q3 Z1.out
  have b4 := below_alloc w3 (.cells #[.bool s3, .slice A3 n3 c3, .slice D3 m3 d3] 45)
  rw [hV4] at r3 b4
  have HV4 := Lib.hid hV4
  have e3 := rq_1 (A := A3) (n := n3) (c := c3) (A' := D3) (n' := m3) (c' := d3) q3.1
  clear hV4
  have TO := tg_of (HP.out.below (bb b1 (bb b2 (bb b3 b4)))) (L2_sh 64) (r1.1.below (bb b3 b4)) r1.2 r3.1 r3.2 (slr_none V4) (by simp) (by omega) (by omega) (by omega) (by omega)
  rw [e1.1, e1.2, e3.1, e3.2, show allR [] = true from rfl, show qvs [] = [] from rfl, show decide (1 = 1) = true from rfl, tg_sq] at TO
  have HTO := Lib.hid TO
  clear TO
  go_wp2_with fail
  rw [HV4.out]
  with_reducible refine HTO.out.mono ?_
  rintro _ w5 ⟨⟨Av, nv, cv, At, nt, ct, rfl, qv, qt⟩, b5⟩
  have hnt : nt = 2 := qt.len
  subst hnt
  have HQT := Lib.hid qt
  clear qv qt e1 e3 r1 r3 q1 q3
  have y5 := bb b1 (bb b2 (bb b3 (bb b4 b5)))
  clear b1 b2 b3 b4 b5 HV2 HV4 HTO
  go_wp2_with fail
  with_reducible refine (HT3.out _).mono ?_
  rintro _ w6 ⟨s1, A1, n1, c1, D1, m1, d1, rfl, q1, b1⟩
  obtain ⟨V2, hV2⟩ : ∃ V2, w6.alloc (.cells #[.bool s1, .slice A1 n1 c1, .slice D1 m1 d1] 45) = V2 := ⟨_, rfl⟩
  have r1 := one_new q1 Z3.out
  have b2 := below_alloc w6 (.cells #[.bool s1, .slice A1 n1 c1, .slice D1 m1 d1] 45)
  rw [hV2] at r1 b2
  have HV2 := Lib.hid hV2
  obtain ⟨V3, hV3⟩ : ∃ V2', V2.alloc (.cells #[.int .i64 1] 3) = V2' := ⟨_, rfl⟩
  have ri := one_is V2
  have b2' := below_alloc V2 (.cells #[.int .i64 1] 3)
  rw [hV3] at ri b2'
  have hs2 : V2.heap.size = w6.heap.size + 1 := by rw [← HV2.out]; simp
  rw [hs2] at ri
  have HV3 := Lib.hid hV3
  have e1 := rq_3 (A := A1) (n := n1) (c := c1) (A' := D1) (n' := m1) (c' := d1) q1.1
  clear hV2 hV3
  go_wp2_with fail
  rw [HV2.out, HV3.out]
  with_reducible refine (HO1.out _).mono ?_
  rintro _ w7 ⟨s3, A3, n3, c3, D3, m3, d3, rfl, q3, b3⟩
  obtain ⟨V4, hV4⟩ : ∃ V2, w7.alloc (.cells #[.bool s3, .slice A3 n3 c3, .slice D3 m3 d3] 45) = V2 := ⟨_, rfl⟩
  have r3 := one_new q3 Z1.out
  have b4 := below_alloc w7 (.cells #[.bool s3, .slice A3 n3 c3, .slice D3 m3 d3] 45)
  rw [hV4] at r3 b4
  have HV4 := Lib.hid hV4
  have e3 := rq_1 (A := A3) (n := n3) (c := c3) (A' := D3) (n' := m3) (c' := d3) q3.1
  clear hV4
  have sz1 : ∀ x ∈ [rqOf s3 A3 n3 c3 D3 m3 d3 1], x.n ≤ 8 ∧ x.n' ≤ 8 := fun x hx => by
    rw [List.mem_singleton.1 hx]
    have g1 := q3.2.1.1
    have g2 := q3.2.2.1
    rw [show words (1 : Rat).num.natAbs = [1] by decide +kernel] at g1
    rw [show words (1 : Rat).den = [1] by decide +kernel] at g2
    have g3 : n3 ≤ 8 := by have := g1.1; simp at this; omega
    have g4 : m3 ≤ 8 := by have := g2.1; simp at this; omega
    exact ⟨g3, g4⟩
  have y6 := bb y5 (bb b1 (bb b2 (bb b2' (bb b3 b4))))
  have TB := tg_back (HP.out.below y6) (L2_sh 64) (r1.1.below (bb b2' (bb b3 b4))) r1.2 (slr_none V4) (by simp) (ri.below (bb b3 b4)) r3.1 sz1 (by omega) (by omega) (by omega) (by omega) (by omega)
  rw [e1.1, e1.2, e3.1, e3.2, show allR [] = true from rfl, show qvs [] = [] from rfl, show decide (1 = 1) = true from rfl, bk_sq] at TB
  have HTB := Lib.hid TB
  have x4 := bb b1 (bb b2 (bb b2' (bb b3 b4)))
  clear TB e1 e3 r1 r3 ri q1 q3 sz1 b1 b2 b2' b3 b4
  go_wp2_with fail
  rw [HV4.out]
  with_reducible refine HTB.out.mono ?_
  rintro _ w8 ⟨⟨Ab, nb, cb, rfl, qb⟩, b8⟩
  have hnb : nb = 1 := qb.len
  subst hnb
  have q8 := HQT.out.below (bb x4 b8)
  obtain ⟨bt, ot, s4, A4, n4, c4, D4, m4, d4, rfl, hlt, t0, t1, t2, q4⟩ := q8.at_ (show 1 < 2 by omega)
  obtain ⟨bb_, ob, s5, A5, n5, c5, D5, m5, d5, rfl, hlb, u0, u1, u2, q5⟩ := qb.at_ (show 0 < 1 by omega)
  have q4' : Q w8 s4 A4 n4 c4 D4 m4 d4 6 := q4
  have q5' : Q w8 s5 A5 n5 c5 D5 m5 d5 6 := q5
  have S1 := fun (w1 : World) (hb : Below w8.heap.size w8 w1) (s : Bool) (A A' : Option Addr) (n c n' c' : Nat) (q : Q w1 s A n c A' n' c' 6) => ref_sameQ (q4'.below hb) q Z6.out Z6.out (by omega)
  have S2 := fun (w1 : World) (hb : Below w8.heap.size w8 w1) (s : Bool) (A A' : Option Addr) (n c n' c' : Nat) (q : Q w1 s A n c A' n' c' 6) => ref_sameQ (q5'.below hb) q Z6.out Z6.out (by omega)
  simp only [show decide ((6 : Rat) = 6) = true from by simp] at S1 S2
  have hS : ∀ w', Below w8.heap.size w8 w' → (w'.cell? ⟨bt, ot + 1 * 3, none⟩ = some (.bool s4) ∧ w'.cell? ⟨bt, ot + 1 * 3 + 1, none⟩ = some (.slice A4 n4 c4) ∧ w'.cell? ⟨bt, ot + 1 * 3 + 2, none⟩ = some (.slice D4 m4 d4)) ∧ (w'.cell? ⟨bb_, ob + 0 * 3, none⟩ = some (.bool s5) ∧ w'.cell? ⟨bb_, ob + 0 * 3 + 1, none⟩ = some (.slice A5 n5 c5) ∧ w'.cell? ⟨bb_, ob + 0 * 3 + 2, none⟩ = some (.slice D5 m5 d5)) := fun w' hb =>
    ⟨⟨(hb.cell (p := ⟨bt, ot + 1 * 3, none⟩) hlt).trans t0, (hb.cell (p := ⟨bt, ot + 1 * 3 + 1, none⟩) hlt).trans t1, (hb.cell (p := ⟨bt, ot + 1 * 3 + 2, none⟩) hlt).trans t2⟩, (hb.cell (p := ⟨bb_, ob + 0 * 3, none⟩) hlb).trans u0, (hb.cell (p := ⟨bb_, ob + 0 * 3 + 1, none⟩) hlb).trans u1, (hb.cell (p := ⟨bb_, ob + 0 * 3 + 2, none⟩) hlb).trans u2⟩
  simp only [Nat.one_mul, Nat.zero_mul, Nat.add_zero, Nat.add_assoc, Nat.reduceAdd] at hS t0 t1 t2 u0 u1 u2
  have HS := Lib.hid hS
  have HS1 := Lib.hid S1
  have HS2 := Lib.hid S2
  have y8 := bb y6 b8
  clear hS S1 S2 q4 q5 q4' q5' q8 qb HQT HTB HT3 HO1
  go_wp2_with fail
  go_region_held3 (fun w' => (w'.cell? ⟨bt, ot + 3, none⟩ = some (.bool s4) ∧ w'.cell? ⟨bt, ot + 4, none⟩ = some (.slice A4 n4 c4) ∧ w'.cell? ⟨bt, ot + 5, none⟩ = some (.slice D4 m4 d4)) ∧ (w'.cell? ⟨bb_, ob, none⟩ = some (.bool s5) ∧ w'.cell? ⟨bb_, ob + 1, none⟩ = some (.slice A5 n5 c5) ∧ w'.cell? ⟨bb_, ob + 2, none⟩ = some (.slice D5 m5 d5))) (first | with_reducible exact HS.out _ (Below.refl _ w8).drew | with_reducible exact HS.out _ x9 | with_reducible exact HS.out _ x10 | with_reducible exact HS.out _ x11 | with_reducible exact HS.out _ x12 | fail)
    (first
      | (go_at_call 17; (fail_if_success have hh := x9); (with_reducible refine (HO6.out _).mono ?_); rintro _ w9 ⟨s9, A9, n9, c9, D9, m9, d9, rfl, q9, b9⟩; have x9 : Below w8.heap.size w8 w9 := Below.undrew b9)
      | (go_at_call 25; (fail_if_success have hh := x10); (with_reducible refine (HS1.out _ x9 _ _ _ _ _ _ _ q9).mono ?_); rintro _ w10 ⟨rfl, b10⟩; have x10 : Below w8.heap.size w8 w10 := bb x9 b10)
      | (go_at_call 17; (with_reducible refine (HO6.out _).mono ?_); rintro _ w11 ⟨s11, A11, n11, c11, D11, m11, d11, rfl, q11, b11⟩; have x11 : Below w8.heap.size w8 w11 := bb x10 b11)
      | (go_at_call 25; (with_reducible refine (HS2.out _ x11 _ _ _ _ _ _ _ q11).mono ?_); rintro _ w12 ⟨rfl, b12⟩; have x12 : Below w8.heap.size w8 w12 := bb x11 b12))
  all_goals
    go_wp2_with fail
    go_ret
    exact ⟨rfl, bb b0 (bb y8 x12)⟩

end Go.Proofs.YtfhihapgjiaobaaGreat

namespace Go.Proofs.YtfhihapgjiaobaaGreat
set_option maxRecDepth 100000
open Go.RowKit Go.Joins
set_option linter.unusedVariables false
set_option linter.unusedSimpArgs false

section
variable {H : Type} {enc : TypeId × Value → H} {w : World} {base : Nat} {held : Bool} {r : Reach} {b0 : Nat} {v : Value} {d : DataW H} {p : List MemPlace}
theorem arg_case (hv : Value.okWide Tryz.prog w r b0 25 v) (h : DataW.Trod enc Tryz.prog w base (fun _ => true) held 25 v d p) : ∃ A n c xs B m d k D kd e ds C kf f fs, v = .agg #[.slice A n c, .slice B m d, .slice D kd e, .slice C kf f] ∧ SlP w A n c xs ∧ SlR w B m d k ∧ SlR w D kd e ds ∧ SlR w C kf f fs := by
  obtain ⟨v0, v1, v2, v3, y0, y1, y2, y3, n, rfl, _, _, h0, h1, h2, h3⟩ := open_agg4 Tryz.underlying25 (by kernel_rfl) (show Tryz.prog.cellsOf 25 = 4 by kernel_rfl) hv h
  obtain ⟨A, n, c, xs, rfl, g0⟩ := open_slp Tryz.underlying22 ins_ty h0
  obtain ⟨B, m, d, is, rfl, g1⟩ := open_slr Tryz.underlying23 rat_ty h1
  obtain ⟨D, kd, e, ds, rfl, g2⟩ := open_slr Tryz.underlying23 rat_ty h2
  obtain ⟨C, kf, f, fs, rfl, g3⟩ := open_slr Tryz.underlying23 rat_ty h3
  exact ⟨_, _, _, _, _, _, _, _, _, _, _, _, _, _, _, _, rfl, g0, g1, g2, g3⟩
end

end Go.Proofs.YtfhihapgjiaobaaGreat

namespace Go.Proofs.YtfhihapgjiaobaaGreat
set_option maxRecDepth 100000
open Go.RowKit
set_option linter.unusedVariables false
set_option linter.unusedSimpArgs false

theorem Box.four {t : TypeId} {w : World} {g : Nat} {v0 v1 v2 v3 : Value} (h : Box t w g #[v0, v1, v2, v3]) :
    (w.cell? ⟨g, 0, none⟩ = some v0 ∧ w.cell? ⟨g, 1, none⟩ = some v1 ∧ w.cell? ⟨g, 2, none⟩ = some v2 ∧ w.cell? ⟨g, 3, none⟩ = some v3) :=
  ⟨h.cell 0, h.cell 1, h.cell 2, h.cell 3⟩
def FewD (n m kd k : Nat) (xs : List RI) (is ds fs : List RQ) : Prop := FewP n m k xs is fs ∧ kd ≤ 30 ∧ anyR 3 ds = false
set_option maxRecDepth 100000 in
set_option maxHeartbeats 4000000 in
theorem law_few17 {w : World} {A B D C : Option Addr} {n c m d kd e k f : Nat} {xs : List RI} {is ds fs : List RQ} (h : SlP w A n c xs) (hi : SlR w B m d is) (hd : SlR w D kd e ds) (hf : SlR w C k f fs) :
    ∃ b : Bool, (b = true ↔ FewD n m kd k xs is ds fs) ∧ Calls Tryz.prog 7 #[.agg #[.slice A n c, .slice B m d, .slice D kd e, .slice C k f]] w (RetBl b w) := by
  obtain ⟨V, hV, Bx, hb0⟩ := box0 25 w #[.slice A n c, .slice B m d, .slice D kd e, .slice C k f]
  obtain ⟨b, hb, FW⟩ := law_few (h.below hb0) (hi.below hb0) (hf.below hb0)
  have L1 := fun (w1 : World) (hb : Below w.heap.size w w1) => plain_longer (hd.below hb) 3
  have H1 := Lib.hid L1
  have HF := Lib.hid FW
  have HV := Lib.hid hV
  have HB := Lib.hid Bx
  clear L1 FW h hi hf hd hV Bx
  unfold FewD
  rw [← hb]
  clear hb
  generalize anyR 3 ds = q at *
  obtain ⟨k0, k1, k2, k3⟩ := HB.out.four
  cases b
  case false =>
    refine ⟨false, by simp, ?_⟩
    go_enter Tryz.func7, Tryz.ntmps7
    go_wp2_with fail
    rw [HV.out]
    with_reducible refine HF.out.mono ?_
    rintro _ w1 ⟨rfl, b1⟩
    go_wp2_with fail
    go_ret
    exact ⟨rfl, bb hb0 b1⟩
  case true =>
  by_cases h1 : kd ≤ 30
  case neg =>
    have e1 : decide ((kd : Int) ≤ 30) = false := decide_eq_false (by omega)
    have e2 : decide (kd ≤ 30) = false := decide_eq_false (by omega)
    refine ⟨false, by simp [h1], ?_⟩
    go_enter Tryz.func7, Tryz.ntmps7
    go_wp2_with fail
    rw [HV.out]
    with_reducible refine HF.out.mono ?_
    rintro _ w1 ⟨rfl, b1⟩
    obtain ⟨k0, k1, k2, k3⟩ := (HB.out.below' b1).four
    go_wp2_with fail
    go_ret
    exact ⟨rfl, bb hb0 b1⟩
  case pos =>
  cases q
  case true =>
    refine ⟨false, by simp, ?_⟩
    go_enter Tryz.func7, Tryz.ntmps7
    go_wp2_with fail
    rw [HV.out]
    with_reducible refine HF.out.mono ?_
    rintro _ w1 ⟨rfl, b1⟩
    obtain ⟨k0, k1, k2, k3⟩ := (HB.out.below' b1).four
    go_wp2_with fail
    with_reducible refine (H1.out _ (bb hb0 b1)).mono ?_
    rintro _ w2 ⟨rfl, b2⟩
    go_wp2_with fail
    go_ret
    exact ⟨rfl, bb hb0 (bb b1 b2)⟩
  case false =>
    refine ⟨true, by simp [h1], ?_⟩
    go_enter Tryz.func7, Tryz.ntmps7
    go_wp2_with fail
    rw [HV.out]
    with_reducible refine HF.out.mono ?_
    rintro _ w1 ⟨rfl, b1⟩
    obtain ⟨k0, k1, k2, k3⟩ := (HB.out.below' b1).four
    go_wp2_with fail
    with_reducible refine (H1.out _ (bb hb0 b1)).mono ?_
    rintro _ w2 ⟨rfl, b2⟩
    go_wp2_with fail
    go_ret
    exact ⟨rfl, bb hb0 (bb b1 b2)⟩

theorem few_short {n m kd k : Nat} {xs : List RI} {is ds fs : List RQ} (hb : FewD n m kd k xs is ds fs) : n ≤ 60 ∧ m ≤ 30 ∧ kd ≤ 30 ∧ k ≤ 60 ∧ Shrt 8 xs ∧ (∀ x ∈ is, x.n ≤ 3 ∧ x.n' ≤ 3) ∧ (∀ x ∈ ds, x.n ≤ 3 ∧ x.n' ≤ 3) ∧ (∀ x ∈ fs, x.n ≤ 3 ∧ x.n' ≤ 3) := by
  obtain ⟨⟨m1, m2, m3, m4, m5, m6⟩, m7, m8⟩ := hb
  unfold manyB at m1
  rw [Bool.or_eq_false_iff] at m1
  exact ⟨m2, m3, m7, m4, anyI_short m1.1, anyR_short (k := 3) m5, anyR_short (k := 3) m8, anyR_short (k := 3) m6⟩
theorem tg_oks {l : List PI} {p q r s : Bool} {is ds fs v t : List Rat} (h : tgAll l p q r s is ds fs = .ok (v, t)) : p = true ∧ q = true ∧ r = true ∧ s = true ∧ exAll l p q is fs = .ok v ∧ evTo (tanSt ds v) l l.length = .ok t := by
  unfold tgAll at h
  split at h
  · rename_i hrs
    split at h
    · cases h
    · rename_i v1 hv
      unfold tgRun at h
      split at h
      · rename_i t1 ht
        injection h with h
        injection h with h1 h2
        subst h1 h2
        exact ⟨(exAll_ok hv).2.1, (exAll_ok hv).2.2.1, hrs.2, hrs.1, hv, ht⟩
      · cases h
  · cases h

end Go.Proofs.YtfhihapgjiaobaaGreat

namespace Go.Proofs.YtfhihapgjiaobaaGreat
set_option maxRecDepth 100000
open Go.RowKit
set_option linter.unusedVariables false
set_option linter.unusedSimpArgs false

end Go.Proofs.YtfhihapgjiaobaaGreat

namespace Go.Proofs.YtfhihapgjiaobaaGreat
set_option maxRecDepth 100000
open Go.RowKit
set_option linter.unusedVariables false
set_option linter.unusedSimpArgs false

/-- a number as a struct that lies -/
structure NV where
  s : Bool
  A : Option Addr
  n : Nat
  c : Nat
  D : Option Addr
  m : Nat
  d : Nat
def NV.box (w : World) (g : Nat) (x : NV) : Prop := Box 45 w g #[.bool x.s, .slice x.A x.n x.c, .slice x.D x.m x.d]
def NV.q (w : World) (x : NV) (X : Rat) : Prop := Q w x.s x.A x.n x.c x.D x.m x.d X
/-- blocks gx and gy hold X and Y; below B nothing has turned since V -/
def Two (B : Nat) (V : World) (gx gy : Nat) (x : NV) (X : Rat) (y : NV) (Y : Rat) (w : World) : Prop :=
  x.box w gx ∧ x.q w X ∧ y.box w gy ∧ y.q w Y ∧ Below B V w
section
variable {B : Nat} {V w w' : World} {gx gy : Nat} {x y z : NV} {X Y Z : Rat}
theorem Two.below (h : Two B V gx gy x X y Y w) (hb : Below w.heap.size w w') (hB : B ≤ V.heap.size) : Two B V gx gy x X y Y w' :=
  ⟨h.1.below' hb, h.2.1.below hb, h.2.2.1.below' hb, h.2.2.2.1.below hb, h.2.2.2.2.trans (hb.mono (Nat.le_trans hB h.2.2.2.2.size))⟩
end

end Go.Proofs.YtfhihapgjiaobaaGreat

namespace Go.Proofs.YtfhihapgjiaobaaGreat
set_option maxRecDepth 100000
open Go.RowKit
set_option linter.unusedVariables false
set_option linter.unusedSimpArgs false

/-- a row of numbers that reads as Xs, as a row that came in -/
theorem slq_raw {w : World} {A : Option Addr} {n c : Nat} {Xs : List Rat} (h : SlQ w A n c Xs) : ∃ xs : List RQ, SlR w A n c xs ∧ allR xs = true ∧ qvs xs = Xs ∧ ∀ N, AllSz N Xs → ∀ x ∈ xs, x.n ≤ N ∧ x.n' ≤ N := by
  obtain ⟨ys, h1, h2, h3⟩ := h
  let f : Nat → RQ → RQ := fun j x => ⟨x.s, x.A, x.n, x.c, words (Xs.getD j 0).num.natAbs, x.A', x.n', x.c', words (Xs.getD j 0).den⟩
  have hat : ∀ j, (ys.mapIdx f)[j]? = (ys[j]?).map (f j) := fun j => List.getElem?_mapIdx ..
  have each : ∀ x ∈ ys.mapIdx f, ∃ j y, ys[j]? = some y ∧ x = f j y := by
    intro x hx
    obtain ⟨j, hj⟩ := List.mem_iff_getElem?.1 hx
    rw [hat] at hj
    cases hy : ys[j]? with
    | none => rw [hy] at hj; cases hj
    | some y => rw [hy] at hj; injection hj with hj; exact ⟨j, y, hy, hj.symm⟩
  have hq : ∀ (j : Nat) (y : RQ), ys[j]? = some y → Q w y.s y.A y.n y.c y.A' y.n' y.c' (Xs.getD j 0) := fun j y hy => h3 j y hy
  have hok : ∀ (j : Nat) (y : RQ), ys[j]? = some y → y.ok w := fun j y hy => (h1.1.2.2.2 y (List.mem_iff_getElem?.2 ⟨j, hy⟩)).1
  have hlen : (ys.mapIdx f).length = ys.length := List.length_mapIdx ..
  refine ⟨ys.mapIdx f, ⟨⟨by rw [hlen]; exact h1.1.1, h1.1.2.1, h1.1.2.2.1, fun x hx => ?_⟩, fun h0 => ?_⟩, ?_, ?_, fun N hN x hx => ?_⟩
  · obtain ⟨j, y, hy, rfl⟩ := each x hx
    exact ⟨⟨(hq j y hy).2.1, (hq j y hy).2.2, (hok j y hy).2.2.1, (hok j y hy).2.2.2⟩, rfl⟩
  · obtain ⟨b, off, e, hlt, hc⟩ := h1.2 h0
    refine ⟨b, off, e, hlt, fun j hj i hi => ?_⟩
    rw [hc j hj i hi, hat]
    cases ys[j]? with
    | none => rfl
    | some y => rfl
  · unfold allR
    rw [List.all_eq_true]
    intro x hx
    obtain ⟨j, y, hy, rfl⟩ := each x hx
    have := (hq j y hy)
    show rightB y.s _ _ = true
    exact Q_right this
  · unfold qvs
    apply List.ext_getElem?
    intro j
    rw [List.getElem?_map, hat]
    by_cases hj : j < Xs.length
    · have hy : ys[j]? = some (ys[j]'(by omega)) := List.getElem?_eq_getElem (by omega)
      rw [hy, List.getElem?_eq_getElem hj]
      show some (rq (ys[j]'(by omega)).s (val (words _)) (val (words _))) = _
      rw [val_words, val_words, (hq j _ hy).1, rq_self, List.getD_eq_getElem?_getD, List.getElem?_eq_getElem hj]
      rfl
    · rw [List.getElem?_eq_none (l := ys) (by omega), List.getElem?_eq_none (l := Xs) (by omega)]
      rfl
  · obtain ⟨j, y, hy, rfl⟩ := each x hx
    have hj : j < Xs.length := by
      rcases Nat.lt_or_ge j ys.length with h9 | h9
      · omega
      · rw [List.getElem?_eq_none h9] at hy; cases hy
    have z := hN.at_ hj
    exact ⟨(hq j y hy).2.1.small z.1, (hq j y hy).2.2.small z.2⟩
/-- both directions together, the first of them M times -/
def bothTo (ms ds : List Rat) (M : Rat) (k : Nat) : List Rat := (List.range k).map fun i => ms.getD i 0 * M + ds.getD i 0
theorem bothTo_len (ms ds : List Rat) (M : Rat) (k : Nat) : (bothTo ms ds M k).length = k := by unfold bothTo; simp
theorem bothTo_succ (ms ds : List Rat) (M : Rat) (k : Nat) : bothTo ms ds M (k + 1) = bothTo ms ds M k ++ [ms.getD k 0 * M + ds.getD k 0] := by unfold bothTo; rw [List.range_succ, List.map_append]; rfl
theorem bothTo_at (ms ds : List Rat) (M : Rat) {k : Nat} (h1 : ms.length = k) (h2 : ds.length = k) (j : Nat) : (bothTo ms ds M k).getD j 0 = ms.getD j 0 * M + ds.getD j 0 := by
  unfold bothTo
  rw [List.getD_eq_getElem?_getD, List.getElem?_map]
  by_cases hj : j < k
  · rw [List.getElem?_eq_getElem (by simpa using hj)]; simp
  · rw [List.getElem?_eq_none (by simp; omega), List.getD_eq_getElem?_getD, List.getD_eq_getElem?_getD, List.getElem?_eq_none (l := ms) (by omega), List.getElem?_eq_none (l := ds) (by omega)]
    show (0 : Rat) = 0 * M + 0
    grind
theorem bothTo_sz {ms ds : List Rat} {M : Rat} (h1 : AllSz 3 ms) (h2 : AllSz 3 ds) (h3 : Sz M 1) (k : Nat) : AllSz 8 (bothTo ms ds M k) := by
  intro X hX
  unfold bothTo at hX
  obtain ⟨i, _, rfl⟩ := List.mem_map.1 hX
  exact ((((getD_sz h1 (by omega) i).mul h3).add (getD_sz h2 (by omega) i)).mono (by omega))
/-- all that the law's walk asks for -/
theorem lin_math {l : List PI} {p q r r2 r3 s s2 s3 : Bool} {is ds ms bs fs v1 v2 v3 t1 t2 t3 : List Rat} {M : Rat} (h1 : tgAll l p q r s is ds fs = .ok (v1, t1)) (h2 : tgAll l p q r2 s2 is ms fs = .ok (v2, t2)) (h3 : tgAll l p q r3 s3 is bs fs = .ok (v3, t3))
    (hd : ∀ j, bs.getD j 0 = ms.getD j 0 * M + ds.getD j 0) : t1.length = l.length ∧ t2.length = l.length ∧ t3.length = l.length ∧ AllSz 64 t1 ∧ AllSz 64 t2 ∧ AllSz 64 t3 ∧ ∀ i, i < l.length → t1.getD i 0 + t2.getD i 0 * M = t3.getD i 0 := by
  obtain ⟨rfl, rfl, _, _, hv1, ht1⟩ := tg_oks h1
  obtain ⟨_, _, _, _, hv2, ht2⟩ := tg_oks h2
  obtain ⟨_, _, _, _, hv3, ht3⟩ := tg_oks h3
  obtain rfl : v1 = v2 := by rw [hv1] at hv2; injection hv2
  obtain rfl : v1 = v3 := by rw [hv1] at hv3; injection hv3
  have hprog := (progB_iff l).1 (exAll_ok hv1).1
  exact ⟨evTo_len ht1, evTo_len ht2, evTo_len ht3, tans_sz ht1, tans_sz ht2, tans_sz ht3, fun i hi => (tangent_linear hprog ht1 ht2 ht3 hd l.length (Nat.le_refl _) i hi).symm⟩

end Go.Proofs.YtfhihapgjiaobaaGreat

namespace Go.Proofs.YtfhihapgjiaobaaGreat
set_option maxRecDepth 100000
open Go.RowKit
set_option linter.unusedVariables false
set_option linter.unusedSimpArgs false

theorem tg_errs {l : List PI} {p q r s : Bool} {is ds fs : List Rat} {i : Nat} {e : Int} (h : tgAll l p q r s is ds fs = .error (i, e)) : e ≠ 0 := by
  unfold tgAll at h
  split at h
  · split at h
    · rename_i e2 he
      injection h with h
      subst h
      have := (exAll_errs he).2
      omega
    · rename_i v hv
      unfold tgRun at h
      split at h
      · cases h
      · rename_i e2 he
        injection h with h
        subst h
        have := (tans_errs he).2
        omega
  · injection h with h
    injection h with h1 h2
    omega

end Go.Proofs.YtfhihapgjiaobaaGreat

namespace Go.Proofs.YtfhihapgjiaobaaGreat
set_option maxRecDepth 100000
open Go.RowKit
set_option linter.unusedVariables false
set_option linter.unusedSimpArgs false

theorem sz_int32 {z : Int} (h1 : -2147483648 ≤ z) (h2 : z ≤ 2147483647) : Sz (z : Rat) 1 := by
  refine ⟨?_, ?_⟩
  · rw [Rat.num_intCast, Nat.pow_one]
    unfold W
    omega
  · rw [Rat.den_intCast, Nat.pow_one]
    unfold W
    omega
/-- values and tangents, or an error that is not 0 -/
def RetAny (r : Except (Nat × Int) (List Rat × List Rat)) (w : World) (e : Ending) (w' : World) : Prop :=
  ∃ A n c B m d i k, e = .returned (.tuple #[.slice A n c, .slice B m d, .int .i64 i, .int .i64 k]) ∧ (k = 0 → ∃ v t, r = .ok (v, t) ∧ SlQ w' B m d t) ∧ Below w.heap.size w w'
theorem RetTg.any {r : Except (Nat × Int) (List Rat × List Rat)} {w w' : World} {e : Ending} (h : RetTg r w e w') (hr : ∀ i k, r = .error (i, k) → k ≠ 0) : RetAny r w e w' := by
  unfold RetTg at h
  cases r with
  | ok vt =>
    obtain ⟨v, t⟩ := vt
    obtain ⟨⟨A, n, c, B, m, d, rfl, h1, h2⟩, hb⟩ := h
    exact ⟨_, _, _, _, _, _, _, _, rfl, fun _ => ⟨v, t, rfl, h2⟩, hb⟩
  | error er =>
    obtain ⟨i, k⟩ := er
    obtain ⟨rfl, hb⟩ := h
    exact ⟨_, _, _, _, _, _, _, _, rfl, fun h0 => absurd h0 (hr i k rfl), hb⟩
theorem tg_ofA {w : World} {A B D C : Option Addr} {n c m d k e kf f N : Nat} {xs : List RI} {is fs : List RQ} {Ds : List Rat} (h : SlP w A n c xs) (hs : Shrt 64 xs) (hi : SlR w B m d is) (his : ∀ x ∈ is, x.n ≤ 64 ∧ x.n' ≤ 64) (hd : SlQ w D k e Ds) (hds : AllSz N Ds) (hN : N ≤ 64) (hf : SlR w C kf f fs) (hfs : ∀ x ∈ fs, x.n ≤ 64 ∧ x.n' ≤ 64) (hn : n ≤ 300) (hm : m ≤ 1000) (hk : k ≤ 1000) (hkf : kf ≤ 1000) :
    Calls Tryz.prog 9 #[.slice A n c, .slice B m d, .slice D k e, .slice C kf f] w (RetAny (tgAll (xs.map RI.pi) (allR is) (allR fs) true (decide (m = k)) (qvs is) Ds (qvs fs)) w) := by
  obtain ⟨ys, r1, r2, r3, r4⟩ := slq_raw hd
  have T := tg_of h hs hi his r1 (fun x hx => by have := r4 N hds x hx; omega) hf hfs hn hm hk hkf
  rw [r2, r3] at T
  exact T.mono fun e w' h9 => RetTg.any h9 (fun i k => tg_errs)

set_option maxRecDepth 100000 in
set_option maxHeartbeats 4000000 in
theorem tangentLinear_walk {w : World} {A B D C E : Option Addr} {n c m d kd e k f kc cc : Nat} {xs : List RI} {is ds fs cs : List RQ} {z : Int} (h : SlP w A n c xs) (hi : SlR w B m d is) (hd : SlR w D kd e ds) (hf : SlR w C k f fs) (hc : SlR w E kc cc cs) (hz1 : -2147483648 ≤ z) (hz2 : z ≤ 2147483647) :
    Calls Tryz.prog 6 #[.agg #[.slice A n c, .slice B m d, .slice D kd e, .slice C k f], .slice E kc cc, .int .i32 z] w (RetBl true w) := by
  obtain ⟨V, hV, Bx, hb0⟩ := box0 25 w #[.slice A n c, .slice B m d, .slice D kd e, .slice C k f]
  obtain ⟨b, hb, FW⟩ := law_few17 (h.below hb0) (hi.below hb0) (hd.below hb0) (hf.below hb0)
  have HFW := Lib.hid FW
  have HV := Lib.hid hV
  have HB := Lib.hid Bx
  obtain ⟨k0, k1, k2, k3⟩ := HB.out.four
  have L1 := fun (w1 : World) (hb : Below w.heap.size w w1) => plain_longer (hc.below hb) 3
  have HL := Lib.hid L1
  clear FW hV Bx L1
  cases b
  case false =>
    clear hb
    go_enter Tryz.func6, Tryz.ntmps6
    go_wp2_with fail
    rw [HV.out]
    with_reducible refine HFW.out.mono ?_
    rintro _ w1 ⟨rfl, b1⟩
    go_wp2_with fail
    with_reducible refine (same17 _).mono ?_
    rintro _ w2 ⟨rfl, b2⟩
    go_wp2_with fail
    go_ret
    exact ⟨rfl, bb hb0 (bb b1 b2)⟩
  case true =>
  by_cases g1 : kc = kd
  case neg =>
    have g1i : ¬ (kc : Int) = (kd : Int) := by omega
    have g1j : ((kc : Int) == (kd : Int)) = false := by simpa using g1i
    clear hb
    go_enter Tryz.func6, Tryz.ntmps6
    go_wp2_with fail
    rw [HV.out]
    with_reducible refine HFW.out.mono ?_
    rintro _ w1 ⟨rfl, b1⟩
    obtain ⟨k0, k1, k2, k3⟩ := (HB.out.below' b1).four
    go_wp2_with fail
    with_reducible refine (same17 _).mono ?_
    rintro _ w2 ⟨rfl, b2⟩
    go_wp2_with fail
    go_ret
    exact ⟨rfl, bb hb0 (bb b1 b2)⟩
  case pos =>
  subst g1
  have hcs0 : anyR 3 cs = false → ∀ x ∈ cs, x.n ≤ 3 ∧ x.n' ≤ 3 := fun h9 => anyR_short (k := 3) h9
  generalize hq9 : anyR 3 cs = q9 at *
  cases q9
  case true =>
    clear hb hcs0
    go_enter Tryz.func6, Tryz.ntmps6
    go_wp2_with fail
    rw [HV.out]
    with_reducible refine HFW.out.mono ?_
    rintro _ w1 ⟨rfl, b1⟩
    obtain ⟨k0, k1, k2, k3⟩ := (HB.out.below' b1).four
    go_wp2_with fail
    with_reducible refine (HL.out _ (bb hb0 b1)).mono ?_
    rintro _ w2 ⟨rfl, b2⟩
    go_wp2_with fail
    with_reducible refine (same17 _).mono ?_
    rintro _ w3 ⟨rfl, b3⟩
    go_wp2_with fail
    go_ret
    exact ⟨rfl, bb hb0 (bb b1 (bb b2 b3))⟩
  case false =>
  have hcs := hcs0 rfl
  obtain ⟨m1, m2, m3, m4, hs, hsi, hsd, hsf⟩ := few_short (hb.1 rfl)
  clear hcs0 hb
  have C1 := fun (w1 : World) (hb : Below w.heap.size w w1) => ref_rats (hc.below hb) hcs (by omega) (by omega)
  have C2 := fun (w1 : World) (hb : Below w.heap.size w w1) => ref_rats (hd.below hb) hsd (by omega) (by omega)
  have hqc := fun h9 => slq_of hc hcs h9
  have hqd := fun h9 => slq_of hd hsd h9
  have HC1 := Lib.hid C1
  have HC2 := Lib.hid C2
  clear C1 C2
  generalize hp1 : allR cs = p1 at *
  generalize hp2 : allR ds = p2 at *
  cases p1
  case false =>
    clear hqc hqd h hi hd hf hc hs hsi hsd hsf hcs m1 m2 m3 m4 hz1 hz2
    go_enter Tryz.func6, Tryz.ntmps6
    go_wp2_with fail
    rw [HV.out]
    with_reducible refine HFW.out.mono ?_
    rintro _ w1 ⟨rfl, b1⟩
    obtain ⟨k0, k1, k2, k3⟩ := (HB.out.below' b1).four
    go_wp2_with fail
    with_reducible refine (HL.out _ (bb hb0 b1)).mono ?_
    rintro _ w2 ⟨rfl, b2⟩
    go_wp2_with fail
    with_reducible refine (HC1.out _ (bb hb0 (bb b1 b2))).mono ?_
    rintro _ w3 ⟨rfl, b3⟩
    go_wp2_with fail
    with_reducible refine (same17 _).mono ?_
    rintro _ w4 ⟨rfl, b4⟩
    go_wp2_with fail
    go_ret
    exact ⟨rfl, bb hb0 (bb b1 (bb b2 (bb b3 b4)))⟩
  case true =>
  cases p2
  case false =>
    clear hqc hqd h hi hd hf hc hs hsi hsd hsf hcs m1 m2 m3 m4 hz1 hz2
    go_enter Tryz.func6, Tryz.ntmps6
    go_wp2_with fail
    rw [HV.out]
    with_reducible refine HFW.out.mono ?_
    rintro _ w1 ⟨rfl, b1⟩
    obtain ⟨k0, k1, k2, k3⟩ := (HB.out.below' b1).four
    go_wp2_with fail
    with_reducible refine (HL.out _ (bb hb0 b1)).mono ?_
    rintro _ w2 ⟨rfl, b2⟩
    go_wp2_with fail
    with_reducible refine (HC1.out _ (bb hb0 (bb b1 b2))).mono ?_
    rintro _ w3 ⟨rfl, b3⟩
    obtain ⟨k0, k1, k2, k3⟩ := (HB.out.below' (bb b1 (bb b2 b3))).four
    go_wp2_with fail
    with_reducible refine (HC2.out _ (bb hb0 (bb b1 (bb b2 b3)))).mono ?_
    rintro _ w4 ⟨rfl, b4⟩
    go_wp2_with fail
    with_reducible refine (same17 _).mono ?_
    rintro _ w5 ⟨rfl, b5⟩
    go_wp2_with fail
    go_ret
    exact ⟨rfl, bb hb0 (bb b1 (bb b2 (bb b3 (bb b4 b5))))⟩
  case true =>
  obtain ⟨hqc, zc⟩ := hqc rfl
  obtain ⟨hqd, zd⟩ := hqd rfl
  have hs' : Shrt 64 xs := fun x hx => ⟨Nat.le_trans (hs x hx).1 (by omega), Nat.le_trans (hs x hx).2 (by omega)⟩
  have hsi' : ∀ x ∈ is, x.n ≤ 64 ∧ x.n' ≤ 64 := fun x hx => by have := hsi x hx; omega
  have hsf' : ∀ x ∈ fs, x.n ≤ 64 ∧ x.n' ≤ 64 := fun x hx => by have := hsf x hx; omega
  have E := fun (w1 : World) (hb9 : Below w.heap.size w w1) (D : Option Addr) (cp N : Nat) (Xs : List Rat) (hq : SlQ w1 D kc cp Xs) (hz : AllSz N Xs) (hN : N ≤ 64) => tg_ofA (h.below hb9) hs' (hi.below hb9) hsi' hq hz hN (hf.below hb9) hsf' (by omega) (by omega) (by omega) (by omega)
  have hlen : (xs.map RI.pi).length = n := by rw [List.length_map]; exact h.1.1
  have hcl : (qvs cs).length = kc := by unfold qvs; rw [List.length_map]; exact hc.1.1
  have hdl : (qvs ds).length = kc := by unfold qvs; rw [List.length_map]; exact hd.1.1
  have zz : Sz (z : Rat) 1 := sz_int32 hz1 hz2
  have hzz : Hid (∀ k, AllSz 8 (bothTo (qvs cs) (qvs ds) (z : Rat) k)) := Lib.hid fun k => bothTo_sz zc zd zz k
  have hat : Hid (∀ j, (bothTo (qvs cs) (qvs ds) (z : Rat) kc).getD j 0 = (qvs cs).getD j 0 * (z : Rat) + (qvs ds).getD j 0) := Lib.hid (bothTo_at _ _ _ hcl hdl)
  have hmath : Hid (∀ (bs : List Rat) v1 v2 v3 t1 t2 t3, (∀ j, bs.getD j 0 = (qvs cs).getD j 0 * (z : Rat) + (qvs ds).getD j 0) → tgAll (xs.map RI.pi) (allR is) (allR fs) true (decide (m = kc)) (qvs is) (qvs ds) (qvs fs) = .ok (v1, t1) → tgAll (xs.map RI.pi) (allR is) (allR fs) true (decide (m = kc)) (qvs is) (qvs cs) (qvs fs) = .ok (v2, t2) → tgAll (xs.map RI.pi) (allR is) (allR fs) true (decide (m = kc)) (qvs is) bs (qvs fs) = .ok (v3, t3) →
      t1.length = n ∧ t2.length = n ∧ t3.length = n ∧ AllSz 64 t1 ∧ AllSz 64 t2 ∧ AllSz 64 t3 ∧ ∀ i, i < n → t1.getD i 0 + t2.getD i 0 * (z : Rat) = t3.getD i 0) := Lib.hid fun bs v1 v2 v3 t1 t2 t3 hh g1 g2 g3 => by have := lin_math g1 g2 g3 hh; rw [hlen] at this; exact this
  generalize qvs ds = Ds at *
  generalize qvs cs = Cs at *
  obtain ⟨TG, hTG⟩ : ∃ TG : List Rat → Except (Nat × Int) (List Rat × List Rat), TG = fun Xs => tgAll (xs.map RI.pi) (allR is) (allR fs) true (decide (m = kc)) (qvs is) Xs (qvs fs) := ⟨_, rfl⟩
  have E' : Hid (∀ (w1 : World) (hb9 : Below w.heap.size w w1) (D : Option Addr) (cp N : Nat) (Xs : List Rat) (hq : SlQ w1 D kc cp Xs) (hz : AllSz N Xs) (hN : N ≤ 64), Calls Tryz.prog 9 #[.slice A n c, .slice B m d, .slice D kc cp, .slice C k f] w1 (RetAny (TG Xs) w1)) := Lib.hid (by rw [hTG]; exact E)
  have hmath' : Hid (∀ (bs : List Rat) v1 v2 v3 t1 t2 t3, (∀ j, bs.getD j 0 = Cs.getD j 0 * (z : Rat) + Ds.getD j 0) → TG Ds = .ok (v1, t1) → TG Cs = .ok (v2, t2) → TG bs = .ok (v3, t3) →
      t1.length = n ∧ t2.length = n ∧ t3.length = n ∧ AllSz 64 t1 ∧ AllSz 64 t2 ∧ AllSz 64 t3 ∧ ∀ i, i < n → t1.getD i 0 + t2.getD i 0 * (z : Rat) = t3.getD i 0) := Lib.hid (by rw [hTG]; exact hmath.out)
  obtain ⟨i0, hi0, hy0, hy1, hy2⟩ := info_parts infoQ
  have HQC := Lib.hid hqc
  have HQD := Lib.hid hqd
  have HZC := Lib.hid zc
  have HZD := Lib.hid zd
  have HZZ := Lib.hid zz
  have R0 := fun (w1 : World) => Lib.hid (ref_of z (by omega) (by omega) w1)
  clear hmath E hTG hqc hqd zc zd zz h hi hd hf hc hs hsi hsd hsf hs' hsi' hsf' hcs m4 hcl hdl hlen hp1 hp2 hq9
  go_enter Tryz.func6, Tryz.ntmps6
  go_wp2_with fail
  rw [HV.out]
  with_reducible refine HFW.out.mono ?_
  rintro _ w1 ⟨rfl, b1⟩
  obtain ⟨k0, k1, k2, k3⟩ := (HB.out.below' b1).four
  go_wp2_with fail
  with_reducible refine (HL.out _ (bb hb0 b1)).mono ?_
  rintro _ w2 ⟨rfl, b2⟩
  go_wp2_with fail
  with_reducible refine (HC1.out _ (bb hb0 (bb b1 b2))).mono ?_
  rintro _ w3 ⟨rfl, b3⟩
  obtain ⟨k0, k1, k2, k3⟩ := (HB.out.below' (bb b1 (bb b2 b3))).four
  go_wp2_with fail
  with_reducible refine (HC2.out _ (bb hb0 (bb b1 (bb b2 b3)))).mono ?_
  rintro _ w4 ⟨rfl, b4⟩
  have x4 := bb b1 (bb b2 (bb b3 b4))
  clear HFW HL HC1 HC2 k0 k1 k2 k3
  go_wp2_with fail
  with_reducible refine (R0 _).out.mono ?_
  rintro _ w5 ⟨s_m, A_m, n_m, c_m, D_m, m_m, d_m, rfl, q5, b5⟩
  obtain ⟨V6, hV6, Bm, hb6⟩ := box0 45 w5 #[.bool s_m, .slice A_m n_m c_m, .slice D_m m_m d_m]
  have x6 : Below V.heap.size V V6 := bb x4 (bb b5 hb6)
  have HX6 := Lib.hid x6
  have HV6 := Lib.hid hV6
  have HBM := Lib.hid Bm
  have HQM := Lib.hid (q5.below hb6)
  have HB6 := Lib.hid (HB.out.below' x6)
  have HQC6 := Lib.hid (HQC.out.below (bb hb0 x6))
  have HQD6 := Lib.hid (HQD.out.below (bb hb0 x6))
  clear hV6 Bm q5 R0 HB HQC HQD x6
  go_upto_region 5 with (fail)
  rw [HV6.out]
  clear HV6
  go_wp2_with fail
  go_loopw [8, 55] (fun vv iv wr => ∃ (j : Nat), j ≤ kc ∧ iv = .int .i64 j ∧ Hid (OwnQ V6.heap.size wr vv (bothTo Cs Ds (z : Rat) j)) ∧ Below V6.heap.size V6 wr) (fun _ iv _ => kc - mes iv)
  case atStart => exact ⟨0, by omega, rfl, Lib.hid ⟨[], OwnC.nil, rfl, fun j x hx => by simp at hx⟩, Below.refl _ _⟩
  case round =>
  obtain ⟨j, hj, rfl, HO, hbr⟩ := hrel
  by_cases hj2 : j < kc
  · obtain ⟨b_c, o_c, s_c, A_c, n_c, c_c, D_c, m_c, d_c, rfl, l_c, k0_c, k1_c, k2_c, q_c⟩ := HQC6.out.at_ hj2
    obtain ⟨b_d, o_d, s_d, A_d, n_d, c_d, D_d, m_d, d_d, rfl, l_d, k0_d, k1_d, k2_d, q_d⟩ := HQD6.out.at_ hj2
    obtain ⟨A_v, c_v, ev⟩ := HO.out.form
    rw [bothTo_len] at ev
    subst ev
    have zc := (getD_sz HZC.out (by omega) j).mono (show 3 ≤ 8 by omega)
    have zd := (getD_sz HZD.out (by omega) j).mono (show 3 ≤ 16 by omega)
    have ML := ref_qmul ((q_c.below hbr).below (Below.refl _ wr).drew) ((HQM.out.below hbr).below (Below.refl _ wr).drew) zc (HZZ.out.mono (by omega)) (by omega)
    have AD := fun (w1 : World) (hb9 : Below wr.heap.size wr w1) (s8 : Bool) (A8 : Option Addr) (n8 c8 : Nat) (D8 : Option Addr) (m8 d8 : Nat) (q8 : Q w1 s8 A8 n8 c8 D8 m8 d8 (Cs.getD j 0 * (z : Rat))) => ref_qadd q8 ((q_d.below hbr).below hb9) ((zc.mul (HZZ.out.mono (show 1 ≤ 8 by omega))).mono (by omega)) zd (by omega)
    have zs : Sz (Cs.getD j 0 * (z : Rat) + Ds.getD j 0) 40 := (((zc.mul (HZZ.out.mono (show 1 ≤ 8 by omega))).add zd).mono (by omega))
    have hnx : bothTo Cs Ds (z : Rat) (j + 1) = bothTo Cs Ds (z : Rat) j ++ [Cs.getD j 0 * (z : Rat) + Ds.getD j 0] := bothTo_succ _ _ _ _
    have hS : ∀ w', Below V6.heap.size V6 w' → w'.cell? ⟨w5.heap.size, 0, none⟩ = some (.bool s_m) ∧ w'.cell? ⟨w5.heap.size, 1, none⟩ = some (.slice A_m n_m c_m) ∧ w'.cell? ⟨w5.heap.size, 2, none⟩ = some (.slice D_m m_m d_m) ∧ w'.cell? ⟨b_c, o_c + j * 3, none⟩ = some (.bool s_c) ∧ w'.cell? ⟨b_c, o_c + j * 3 + 1, none⟩ = some (.slice A_c n_c c_c) ∧ w'.cell? ⟨b_c, o_c + j * 3 + 2, none⟩ = some (.slice D_c m_c d_c) ∧ w'.cell? ⟨w.heap.size, 2, none⟩ = some (.slice (some ⟨b_d, o_d, none⟩) kc e) ∧ w'.cell? ⟨b_d, o_d + j * 3, none⟩ = some (.bool s_d) ∧ w'.cell? ⟨b_d, o_d + j * 3 + 1, none⟩ = some (.slice A_d n_d c_d) ∧ w'.cell? ⟨b_d, o_d + j * 3 + 2, none⟩ = some (.slice D_d m_d d_d) := fun w' hb9 => ⟨(HBM.out.below' hb9).three.1.1, (HBM.out.below' hb9).three.1.2.1, (HBM.out.below' hb9).three.1.2.2, (hb9.cell (p := ⟨b_c, o_c + j * 3, none⟩) l_c).trans k0_c, (hb9.cell (p := ⟨b_c, o_c + j * 3 + 1, none⟩) l_c).trans k1_c, (hb9.cell (p := ⟨b_c, o_c + j * 3 + 2, none⟩) l_c).trans k2_c, (HB6.out.below' hb9).four.2.2.1, (hb9.cell (p := ⟨b_d, o_d + j * 3, none⟩) l_d).trans k0_d, (hb9.cell (p := ⟨b_d, o_d + j * 3 + 1, none⟩) l_d).trans k1_d, (hb9.cell (p := ⟨b_d, o_d + j * 3 + 2, none⟩) l_d).trans k2_d⟩
    generalize Cs.getD j 0 * (z : Rat) = M1 at *
    generalize M1 + Ds.getD j 0 = S1 at *
    have HML := Lib.hid ML
    have HAD := Lib.hid AD
    have HS := Lib.hid hS
    have HZS := Lib.hid zs
    have HNX := Lib.hid hnx
    have HBR := Lib.hid hbr
    have hj3 : (j : Int) < (kc : Int) := by omega
    obtain ⟨a0, a1, a2, a3, a4, a5, a6, a7, a8, a9⟩ := HS.out _ hbr
    clear ML AD hS zc zd zs hnx q_c q_d
    go_wp2_with fail
    go_region_held3 (fun w' => w'.cell? ⟨w5.heap.size, 0, none⟩ = some (.bool s_m) ∧ w'.cell? ⟨w5.heap.size, 1, none⟩ = some (.slice A_m n_m c_m) ∧ w'.cell? ⟨w5.heap.size, 2, none⟩ = some (.slice D_m m_m d_m) ∧ w'.cell? ⟨b_c, o_c + j * 3, none⟩ = some (.bool s_c) ∧ w'.cell? ⟨b_c, o_c + j * 3 + 1, none⟩ = some (.slice A_c n_c c_c) ∧ w'.cell? ⟨b_c, o_c + j * 3 + 2, none⟩ = some (.slice D_c m_c d_c) ∧ w'.cell? ⟨w.heap.size, 2, none⟩ = some (.slice (some ⟨b_d, o_d, none⟩) kc e) ∧ w'.cell? ⟨b_d, o_d + j * 3, none⟩ = some (.bool s_d) ∧ w'.cell? ⟨b_d, o_d + j * 3 + 1, none⟩ = some (.slice A_d n_d c_d) ∧ w'.cell? ⟨b_d, o_d + j * 3 + 2, none⟩ = some (.slice D_d m_d d_d)) (first | exact HS.out _ HBR.out.drew | exact HS.out _ y10 | exact HS.out _ (y9a _) | exact HS.out _ y9 | exact HS.out _ y8 | fail)
      (first
        | (go_at_call 22; (with_reducible refine HML.out.mono ?_); rintro _ w8 ⟨s8, A8, n8, c8, D8, m8, d8, rfl, q8, b8⟩; have x1 : Below wr.heap.size wr w8 := Below.undrew b8; have y8 := bb HBR.out x1)
        | (go_at_call 21; (with_reducible refine (HAD.out _ x1 _ _ _ _ _ _ _ q8).mono ?_); rintro _ w9 ⟨s9, A9, n9, c9, D9, m9, d9, rfl, q9, b9⟩; have x2 : Below wr.heap.size wr w9 := bb x1 b9; have y9 := bb HBR.out x2; have y9a := fun o => y9.alloc y9.size o; (obtain ⟨vs, o1, o2, o3⟩ := HO.out.below x2); have hvs : vs.length = j := (by rw [o2, bothTo_len]); have hok9 := rqOf_ok q9 HZS.out (by omega); have HO1 := Lib.hid o1; have HO2 := Lib.hid o2; have HO3 := Lib.hid o3; have HVS := Lib.hid hvs; have HOK := Lib.hid hok9; clear o1 o2 o3 hvs hok9)
        | (rw [if_pos (by rfl)]; (refine wp_append_C _ _ _ 23 rfl V6.heap.size 45 i0 _ 56 Tryz.underlying23 hi0 hy0 hy1 hy2 rfl (by decide) zeroQ _ vs rfl (HO1.out.below (below_alloc _ _)) ⟨w9.heap.size, 0, none⟩ 1 (rqOf s9 A9 n9 c9 D9 m9 d9 S1) rfl rfl ?c1 (rq_one _) (rq_noW _) ?c3 ?c4 ?c5 ?_); (case c1 => exact news_new w9 _ _); (case c3 => have := HVS.out; unfold maxLen; omega); (case c4 => have := HVS.out; omega); (case c5 => have := y9.size; simp; omega); intro v' w10 hown hgrow; have y10 := (y9.alloc y9.size _).grown hgrow (by have := y9.size; simp; omega) (HO1.out.base); have HOQ := Lib.hid (OwnQ.append HO1.out HO2.out HO3.out HOK.out.1 HOK.out.2 hown hgrow); clear hown hgrow)
        | fail)
    all_goals
      rw [← HNX.out] at HOQ
      go_wp2_with fail
      go_roundw
      case rel => exact ⟨j + 1, by omega, by go_num, HOQ, y10⟩
      case measure => simp [mes, intOf]; omega
  · obtain rfl : j = kc := by omega
    obtain ⟨A_v, c_v, ev⟩ := HO.out.form
    rw [bothTo_len] at ev
    subst ev
    have x6 := bb hb0 HX6.out
    have hqv := HO.out.slq
    have y6 := bb HX6.out hbr
    have q1 := HQD6.out.below hbr
    have q2 := HQC6.out.below hbr
    have E1 := fun (w1 : World) (hb9 : Below wr.heap.size wr w1) => E'.out w1 (bb hb0 (bb y6 hb9)) _ _ 3 _ (q1.below hb9) HZD.out (by omega)
    have E2 := fun (w1 : World) (hb9 : Below wr.heap.size wr w1) => E'.out w1 (bb hb0 (bb y6 hb9)) _ _ 3 _ (q2.below hb9) HZC.out (by omega)
    have E3 := fun (w1 : World) (hb9 : Below wr.heap.size wr w1) => E'.out w1 (bb hb0 (bb y6 hb9)) _ _ 8 _ (hqv.below hb9) (hzz.out _) (by omega)
    have HE1 := Lib.hid E1
    have HE2 := Lib.hid E2
    have HE3 := Lib.hid E3
    have HBR := Lib.hid hbr
    have HY6 := Lib.hid y6
    have HX := Lib.hid x6
    have hm9 := fun v1 v2 v3 t1 t2 t3 => hmath'.out (bothTo Cs Ds (z : Rat) j) v1 v2 v3 t1 t2 t3 hat.out
    generalize bothTo Cs Ds (z : Rat) j = Bs at *
    have HM9 := Lib.hid hm9
    clear hm9 E1 E2 E3 q1 q2 hqv E' hmath' HO hat hzz hbr y6 x6 hj hj2
    obtain ⟨k0, k1, k2, k3⟩ := (HB6.out.below' HBR.out).four
    go_wp2_with fail
    with_reducible refine (HE1.out _ (Below.refl _ _)).mono ?_
    rintro _ w7 ⟨A1, n1, c1, B_1, r1, d1, i1, e1, rfl, G1, b7⟩
    obtain ⟨k0, k1, k2, k3⟩ := (HB6.out.below' (bb HBR.out b7)).four
    have HG1 := Lib.hid G1
    clear G1
    go_wp2_with fail
    with_reducible refine (HE2.out _ b7).mono ?_
    rintro _ w8 ⟨A2, n2, c2, B_2, r2, d2, i2, e2, rfl, G2, b8⟩
    obtain ⟨k0, k1, k2, k3⟩ := (HB6.out.below' (bb HBR.out (bb b7 b8))).four
    have HG2 := Lib.hid G2
    clear G2
    go_wp2_with fail
    with_reducible refine (HE3.out _ (bb b7 b8)).mono ?_
    rintro _ w9 ⟨A3, n3, c3, B_3, r3, d3, i3, e3, rfl, G3, b9⟩
    have HG3 := Lib.hid G3
    have x9 : Below w.heap.size w w9 := bb hb0 (bb HY6.out (bb b7 (bb b8 b9)))
    have HX9 := Lib.hid x9
    clear G3 HE1 HE2 HE3 HX x9 k0 k1 k2 k3
    by_cases z1 : e1 = 0
    case neg =>
      go_wp2_with fail
      with_reducible refine (same17 _).mono ?_
      rintro _ w10 ⟨rfl, b10⟩
      go_wp2_with fail
      go_ret
      exact ⟨rfl, bb HX9.out b10⟩
    by_cases z2 : e2 = 0
    case neg =>
      subst z1
      go_wp2_with fail
      with_reducible refine (same17 _).mono ?_
      rintro _ w10 ⟨rfl, b10⟩
      go_wp2_with fail
      go_ret
      exact ⟨rfl, bb HX9.out b10⟩
    by_cases z3 : e3 = 0
    case neg =>
      subst z1 z2
      go_wp2_with fail
      with_reducible refine (same17 _).mono ?_
      rintro _ w10 ⟨rfl, b10⟩
      go_wp2_with fail
      go_ret
      exact ⟨rfl, bb HX9.out b10⟩
    obtain ⟨v1, t1, g1, u1⟩ := HG1.out z1
    obtain ⟨v2, t2, g2, u2⟩ := HG2.out z2
    obtain ⟨v3, t3, g3, u3⟩ := HG3.out z3
    subst z1 z2 z3
    obtain ⟨l1, l2, l3, zt1, zt2, zt3, heq⟩ := HM9.out v1 v2 v3 t1 t2 t3 g1 g2 g3
    obtain rfl : n = r1 := by rw [u1.len, l1]
    obtain rfl : n = r2 := by rw [u2.len, l2]
    obtain rfl : n = r3 := by rw [u3.len, l3]
    have HU1 := Lib.hid (u1.below (bb b8 b9))
    have HU2 := Lib.hid (u2.below b9)
    have HU3 := Lib.hid u3
    have HZ1 := Lib.hid zt1
    have HZ2 := Lib.hid zt2
    have HZ3 := Lib.hid zt3
    have HEQ := Lib.hid heq
    have y9 := bb HBR.out (bb b7 (bb b8 b9))
    have HBM9 := Lib.hid (HBM.out.below' y9)
    have HQM9 := Lib.hid (HQM.out.below y9)
    have HB9 := Lib.hid (HB6.out.below' y9)
    obtain ⟨k0, k1, k2, k3⟩ := HB9.out.four
    clear u1 u2 u3 l1 l2 l3 zt1 zt2 zt3 heq g1 g2 g3 HG1 HG2 HG3 HM9 y9 HBM HQM HB6
    go_wp2_with fail
    go_loopw [149] (fun iv wr => ∃ i : Nat, i ≤ n ∧ iv = .int .i64 i ∧ Below w9.heap.size w9 wr) (fun iv _ => n - mes iv)
    case atStart => exact ⟨0, by omega, rfl, Below.refl _ _⟩
    case round =>
    clear k0 k1 k2 k3
    obtain ⟨i, hi, rfl, hbr⟩ := hrel
    by_cases hi2 : i < n
    · obtain ⟨b_1, o_1, s_1, A_1, n_1, c_1, D_1, m_1, d_1, rfl, l_1, k0_1, k1_1, k2_1, q_1⟩ := HU1.out.at_ hi2
      obtain ⟨b_2, o_2, s_2, A_2, n_2, c_2, D_2, m_2, d_2, rfl, l_2, k0_2, k1_2, k2_2, q_2⟩ := HU2.out.at_ hi2
      obtain ⟨b_3, o_3, s_3, A_3, n_3, c_3, D_3, m_3, d_3, rfl, l_3, k0_3, k1_3, k2_3, q_3⟩ := HU3.out.at_ hi2
      have z_1 := getD_sz HZ1.out (by omega) i
      have z_2 := getD_sz HZ2.out (by omega) i
      have z_3 := getD_sz HZ3.out (by omega) i
      have heq := HEQ.out i hi2
      have ML := rat_mul ((q_2.below hbr).below (Below.refl _ wr).drew) ((HQM9.out.below hbr).below (Below.refl _ wr).drew) z_2 (HZZ.out.mono (show 1 ≤ 64 by omega)) (by omega)
      have zm := (z_2.mul (HZZ.out.mono (show 1 ≤ 64 by omega)))
      have AD := fun (w1 : World) (hb9 : Below wr.heap.size wr w1) (s8 : Bool) (A8 : Option Addr) (n8 c8 : Nat) (D8 : Option Addr) (m8 d8 : Nat) (q8 : Q w1 s8 A8 n8 c8 D8 m8 d8 (t2.getD i 0 * (z : Rat))) => rat_add ((q_1.below hbr).below hb9) q8 (z_1.mono (by omega)) zm (by omega)
      have SM := fun (w1 : World) (hb9 : Below wr.heap.size wr w1) (s8 : Bool) (A8 : Option Addr) (n8 c8 : Nat) (D8 : Option Addr) (m8 d8 : Nat) (q8 : Q w1 s8 A8 n8 c8 D8 m8 d8 (t1.getD i 0 + t2.getD i 0 * (z : Rat))) => rat_sameE q8 ((q_3.below hbr).below hb9) ((z_1.add zm).mono (show _ ≤ 300 by omega)) (z_3.mono (by omega)) (by omega) true (decide_eq_true heq)
      have hS : ∀ w', Below w9.heap.size w9 w' → w'.cell? ⟨w5.heap.size, 0, none⟩ = some (.bool s_m) ∧ w'.cell? ⟨w5.heap.size, 1, none⟩ = some (.slice A_m n_m c_m) ∧ w'.cell? ⟨w5.heap.size, 2, none⟩ = some (.slice D_m m_m d_m) ∧ w'.cell? ⟨b_1, o_1 + i * 3, none⟩ = some (.bool s_1) ∧ w'.cell? ⟨b_1, o_1 + i * 3 + 1, none⟩ = some (.slice A_1 n_1 c_1) ∧ w'.cell? ⟨b_1, o_1 + i * 3 + 2, none⟩ = some (.slice D_1 m_1 d_1) ∧ w'.cell? ⟨b_2, o_2 + i * 3, none⟩ = some (.bool s_2) ∧ w'.cell? ⟨b_2, o_2 + i * 3 + 1, none⟩ = some (.slice A_2 n_2 c_2) ∧ w'.cell? ⟨b_2, o_2 + i * 3 + 2, none⟩ = some (.slice D_2 m_2 d_2) ∧ w'.cell? ⟨b_3, o_3 + i * 3, none⟩ = some (.bool s_3) ∧ w'.cell? ⟨b_3, o_3 + i * 3 + 1, none⟩ = some (.slice A_3 n_3 c_3) ∧ w'.cell? ⟨b_3, o_3 + i * 3 + 2, none⟩ = some (.slice D_3 m_3 d_3) := fun w' hb9 => ⟨(HBM9.out.below' hb9).three.1.1, (HBM9.out.below' hb9).three.1.2.1, (HBM9.out.below' hb9).three.1.2.2, (hb9.cell (p := ⟨b_1, o_1 + i * 3, none⟩) l_1).trans k0_1, (hb9.cell (p := ⟨b_1, o_1 + i * 3 + 1, none⟩) l_1).trans k1_1, (hb9.cell (p := ⟨b_1, o_1 + i * 3 + 2, none⟩) l_1).trans k2_1, (hb9.cell (p := ⟨b_2, o_2 + i * 3, none⟩) l_2).trans k0_2, (hb9.cell (p := ⟨b_2, o_2 + i * 3 + 1, none⟩) l_2).trans k1_2, (hb9.cell (p := ⟨b_2, o_2 + i * 3 + 2, none⟩) l_2).trans k2_2, (hb9.cell (p := ⟨b_3, o_3 + i * 3, none⟩) l_3).trans k0_3, (hb9.cell (p := ⟨b_3, o_3 + i * 3 + 1, none⟩) l_3).trans k1_3, (hb9.cell (p := ⟨b_3, o_3 + i * 3 + 2, none⟩) l_3).trans k2_3⟩
      generalize t1.getD i 0 + t2.getD i 0 * (z : Rat) = S9 at *
      generalize t2.getD i 0 * (z : Rat) = M9 at *
      have HML := Lib.hid ML
      have HAD := Lib.hid AD
      have HSM := Lib.hid SM
      have HS := Lib.hid hS
      have HBR2 := Lib.hid hbr
      have hi3 : (i : Int) < (n : Int) := by omega
      obtain ⟨a0, a1, a2, a3, a4, a5, a6, a7, a8, a9, a10, a11⟩ := HS.out _ hbr
      clear ML AD SM hS z_1 z_2 z_3 zm heq q_1 q_2 q_3
      go_wp2_with fail
      go_region_held3 (fun w' => w'.cell? ⟨w5.heap.size, 0, none⟩ = some (.bool s_m) ∧ w'.cell? ⟨w5.heap.size, 1, none⟩ = some (.slice A_m n_m c_m) ∧ w'.cell? ⟨w5.heap.size, 2, none⟩ = some (.slice D_m m_m d_m) ∧ w'.cell? ⟨b_1, o_1 + i * 3, none⟩ = some (.bool s_1) ∧ w'.cell? ⟨b_1, o_1 + i * 3 + 1, none⟩ = some (.slice A_1 n_1 c_1) ∧ w'.cell? ⟨b_1, o_1 + i * 3 + 2, none⟩ = some (.slice D_1 m_1 d_1) ∧ w'.cell? ⟨b_2, o_2 + i * 3, none⟩ = some (.bool s_2) ∧ w'.cell? ⟨b_2, o_2 + i * 3 + 1, none⟩ = some (.slice A_2 n_2 c_2) ∧ w'.cell? ⟨b_2, o_2 + i * 3 + 2, none⟩ = some (.slice D_2 m_2 d_2) ∧ w'.cell? ⟨b_3, o_3 + i * 3, none⟩ = some (.bool s_3) ∧ w'.cell? ⟨b_3, o_3 + i * 3 + 1, none⟩ = some (.slice A_3 n_3 c_3) ∧ w'.cell? ⟨b_3, o_3 + i * 3 + 2, none⟩ = some (.slice D_3 m_3 d_3)) (first | exact HS.out _ HBR2.out.drew | exact HS.out _ y12 | exact HS.out _ y11 | exact HS.out _ y10 | fail)
        (first
          | (go_at_call 19; (with_reducible refine HML.out.mono ?_); rintro _ w10 ⟨s8, A8, n8, c8, D8, m8, d8, rfl, q8, b10⟩; have x1 : Below wr.heap.size wr w10 := Below.undrew b10; have y10 := bb HBR2.out x1)
          | (go_at_call 18; (with_reducible refine (HAD.out _ x1 _ _ _ _ _ _ _ q8).mono ?_); rintro _ w11 ⟨s9, A9, n9, c9, D9, m9, d9, rfl, q9, b11⟩; have x2 : Below wr.heap.size wr w11 := bb x1 b11; have y11 := bb HBR2.out x2)
          | (go_at_call 20; (with_reducible refine (HSM.out _ x2 _ _ _ _ _ _ _ q9).mono ?_); rintro _ w12 ⟨rfl, b12⟩; have x3 : Below wr.heap.size wr w12 := bb x2 b12; have y12 := bb HBR2.out x3)
          | fail)
      all_goals
        go_wp2_with fail
        go_roundw
        case rel => exact ⟨i + 1, by omega, by go_num, y12⟩
        case measure => simp [mes, intOf]; omega
    · obtain rfl : i = n := by omega
      go_wp2_with fail
      with_reducible refine (same17 _).mono ?_
      rintro _ w10 ⟨rfl, b10⟩
      go_wp2_with fail
      go_ret
      exact ⟨rfl, bb HX9.out (bb hbr b10)⟩

theorem tangentLinear_row (A : Option Addr) (n c : Nat) (xs : List RI) (B : Option Addr) (m d : Nat) (is : List RQ) (D : Option Addr) (kd e : Nat) (ds : List RQ) (C : Option Addr) (k f : Nat) (fs : List RQ) (E : Option Addr) (kc cc : Nat) (cs : List RQ) (z : Int) (hz : (Lit.int .i32 z).wf = true) (w : World) (h : SlP w A n c xs) (hi : SlR w B m d is) (hd : SlR w D kd e ds) (hf : SlR w C k f fs) (hc : SlR w E kc cc cs) :
    Calls Tryz.prog 6 #[.agg #[.slice A n c, .slice B m d, .slice D kd e, .slice C k f], .slice E kc cc, .int .i32 z] w (RetBl true w) := by
  simp [Lit.wf, IntKind.min, IntKind.max, IntKind.signed, IntKind.bits] at hz
  exact tangentLinear_walk h hi hd hf hc (by omega) (by omega)

end Go.Proofs.YtfhihapgjiaobaaGreat
