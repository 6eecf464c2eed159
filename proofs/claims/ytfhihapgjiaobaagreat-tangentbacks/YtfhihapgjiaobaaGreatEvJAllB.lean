/-
  Two boxes of numbers that a call made, stored into one after the other. No Go function in sight. Conditions: as each lemma says.
-/
import Derived.Test.YtfhihapgjiaobaaGreatTgKAllB
import Derived.Test.YtfhihapgjiaobaaGreatTgNeAllB
import Derived.Lib.SmallJoins
import Derived.Test.YtfhihapgjiaobaaGreatTgMoreAllB
namespace Go.Proofs.YtfhihapgjiaobaaGreat
set_option maxRecDepth 100000
open Go.RowKit
set_option linter.unusedVariables false
set_option linter.unusedSimpArgs false

theorem SlC.new {k : Nat} {V : Type} {cells : V → List Value} {ok : World → V → Prop} (w : World) (arr : Array Value) (t : TypeId) (xs : List V) (hl : ∀ x ∈ xs, (cells x).length = k) (he : arr.toList = xs.flatMap cells) (hok : ∀ x ∈ xs, ok (w.alloc (.cells arr t)) x) (hn : xs.length ≤ maxLen) :
    SlC k cells ok (w.alloc (.cells arr t)) (some ⟨w.heap.size, 0, none⟩) xs.length xs.length xs := by
  refine ⟨⟨rfl, Nat.le_refl _, hn, fun x hx => ⟨hok x hx, hl x hx⟩⟩, fun h0 => ⟨w.heap.size, 0, rfl, by simp, fun j hj i hi => ?_⟩⟩
  rw [← flat_at xs hl j i hi, ← he, cell_of_row _ w.heap.size _ arr t (0, 0) (heap_alloc_new w _), Nat.zero_add]
  simp
theorem SlC.take {k : Nat} {V : Type} {cells : V → List Value} {ok : World → V → Prop} {w : World} {A : Option Addr} {n c m : Nat} {xs : List V} (h : SlC k cells ok w A n c xs) (hm : m ≤ n) : SlC k cells ok w A m c (xs.take m) := by
  refine ⟨⟨by rw [List.length_take, h.1.1]; omega, by have := h.1.2.1; omega, h.1.2.2.1, fun x hx => h.1.2.2.2 x (List.mem_of_mem_take hx)⟩, fun h0 => ?_⟩
  obtain ⟨b, off, e, hlt, hc⟩ := h.2 (by omega)
  refine ⟨b, off, e, hlt, fun j hj i hi => ?_⟩
  rw [hc j (by omega) i hi, List.getElem?_take, if_pos hj]
def ins0 (op : Int) : RI := ⟨op, 0, 0, ⟨false, none, 0, 0, [], none, 0, 0, []⟩⟩
theorem ins0_ok (w : World) {op : Int} (h : I64 op) : (ins0 op).ok w := ⟨h, by unfold I64; simp [ins0], by unfold I64; simp [ins0], Sl.nil _ _ _, Sl.nil _ _ _, by unfold maxLen; simp [ins0], by unfold maxLen; simp [ins0]⟩
theorem ins0_sh {l : List RI} (h : ∀ x ∈ l, ∃ op, x = ins0 op) {N : Nat} : Shrt N l := by
  intro x hx
  obtain ⟨op, rfl⟩ := h x hx
  exact ⟨Nat.zero_le _, Nat.zero_le _⟩
def L3 : List RI := [ins0 1, ins0 6, ins0 7]
def C3 : Array Value := #[.int .i64 1, .int .i64 0, .int .i64 0, .bool false, .slice none 0 0, .slice none 0 0, .int .i64 6, .int .i64 0, .int .i64 0, .bool false, .slice none 0 0, .slice none 0 0, .int .i64 7, .int .i64 0, .int .i64 0, .bool false, .slice none 0 0, .slice none 0 0]
theorem L3_sh (N : Nat) : Shrt N L3 := ins0_sh (fun x hx => by
  unfold L3 at hx
  simp only [List.mem_cons, List.not_mem_nil, or_false] at hx
  rcases hx with rfl | rfl | rfl <;> exact ⟨_, rfl⟩)
theorem L2_sh (N : Nat) : Shrt N (L3.take 2) := fun x hx => L3_sh N x (List.mem_of_mem_take hx)
theorem L2_prog : progB ((L3.take 2).map RI.pi) = true := by
  refine (progB_iff _).2 ⟨fun i hi => ?_, by decide⟩
  have hi' : i < 2 := hi
  have h3 : i = 0 ∨ i = 1 := by omega
  rcases h3 with rfl | rfl
  · show fits vq nq ⟨1, 0, 0, (false, [], [])⟩ 0
    simp [fits, nq]
  · show fits vq nq ⟨6, 0, 0, (false, [], [])⟩ 1
    simp [fits, nq, arity]
end Go.Proofs.YtfhihapgjiaobaaGreat

namespace Go.Proofs.YtfhihapgjiaobaaGreat
set_option maxRecDepth 100000
open Go.RowKit
set_option linter.unusedVariables false
set_option linter.unusedSimpArgs false

set_option maxRecDepth 100000 in
set_option maxHeartbeats 4000000 in
theorem law_three (w : World) : Calls Tryz.prog 24 #[] w (RetQ 3 w) := by
  obtain ⟨V, hW, Br, s1, s2, hb0⟩ := lits2 w #[.bool false, .slice (some ⟨w.heap.size + 1, 0, none⟩) 1 1, .slice (some ⟨w.heap.size + 1 + 1, 0, none⟩) 1 1] 3 1 (by unfold U; omega) U_1
  have q : Q V false (some ⟨w.heap.size + 1, 0, none⟩) 1 1 (some ⟨w.heap.size + 1 + 1, 0, none⟩) 1 1 3 := by
    refine ⟨by decide +kernel, ?_, ?_⟩
    · rw [show words (3 : Rat).num.natAbs = [3] by decide +kernel]; exact s1
    · rw [show words (3 : Rat).den = [1] by decide +kernel]; exact s2
  have HW := Lib.hid hW
  have HBr := Lib.hid Br
  have HQ := Lib.hid q
  clear hW Br q s1 s2
  obtain ⟨⟨r0, r1, r2⟩, f0, f1, f2⟩ := HBr.out.three
  go_enter Tryz.func24, Tryz.ntmps24
  go_wp2_with fail
  rw [HW.out]
  refine bodyPost_ret (v := .agg #[.bool false, .slice (some ⟨w.heap.size + 1, 0, none⟩) 1 1, .slice (some ⟨w.heap.size + 1 + 1, 0, none⟩) 1 1]) (by simp [results, Tryz.results24, go_sem, r0, r1, r2]) rfl ?_
  exact ⟨_, _, _, _, _, _, _, rfl, HQ.out, hb0⟩

end Go.Proofs.YtfhihapgjiaobaaGreat

namespace Go.Proofs.YtfhihapgjiaobaaGreat
set_option maxRecDepth 100000
open Go.RowKit
set_option linter.unusedVariables false
set_option linter.unusedSimpArgs false

def C2 : Array Value := #[.int .i64 1, .int .i64 0, .int .i64 0, .bool false, .slice none 0 0, .slice none 0 0, .int .i64 6, .int .i64 0, .int .i64 0, .bool false, .slice none 0 0, .slice none 0 0]
theorem L2_new (w : World) : SlP (w.alloc (.cells C2 52)) (some ⟨w.heap.size, 0, none⟩) 2 2 (L3.take 2) := by
  refine SlC.new w C2 52 (L3.take 2) (fun x _ => rfl) rfl (fun x hx => ?_) (by unfold maxLen; simp [L3])
  unfold L3 at hx
  simp only [List.take, List.mem_cons, List.not_mem_nil, or_false] at hx
  rcases hx with rfl | rfl <;> exact ins0_ok _ (by unfold I64; omega)
theorem one_new {w : World} {s : Bool} {A A' : Option Addr} {n c n' c' : Nat} {X : Rat} (q : Q w s A n c A' n' c' X) (zX : Sz X 64) : SlR (w.alloc (.cells #[.bool s, .slice A n c, .slice A' n' c'] 45)) (some ⟨w.heap.size, 0, none⟩) 1 1 [rqOf s A n c A' n' c' X] ∧ ∀ x ∈ [rqOf s A n c A' n' c' X], x.n ≤ 64 ∧ x.n' ≤ 64 := by
  refine ⟨SlC.new w _ _ [rqOf s A n c A' n' c' X] (fun x hx => by rw [List.mem_singleton.1 hx]; rfl) (by rfl) (fun x hx => ?_) (by unfold maxLen; simp), fun x hx => ?_⟩
  · rw [List.mem_singleton.1 hx]
    exact (rqOf_ok (q.below (below_alloc _ _)) zX (by omega)).1
  · rw [List.mem_singleton.1 hx]
    exact ⟨by have := q.2.1.small zX.1; exact this, by have := q.2.2.small zX.2; exact this⟩
theorem slr_none (w : World) : SlR w none 0 0 [] := ⟨⟨rfl, Nat.le_refl _, by unfold maxLen; omega, by simp⟩, fun h0 => absurd h0 (by omega)⟩
theorem one_is (w : World) : SlZ (w.alloc (.cells #[.int .i64 1] 3)) (some ⟨w.heap.size, 0, none⟩) 1 1 [1] := by
  refine SlC.new w _ _ [(1 : Int)] (fun x _ => rfl) (by rfl) (fun x hx => ?_) (by unfold maxLen; simp)
  rw [List.mem_singleton.1 hx]
  unfold I64; omega
theorem rq_3 {s : Bool} {A A' : Option Addr} {n c n' c' : Nat} (h : s = neg_ 3) : allR [rqOf s A n c A' n' c' 3] = true ∧ qvs [rqOf s A n c A' n' c' 3] = [3] := by
  subst h
  exact ⟨show (rightB (neg_ 3) (words (3 : Rat).num.natAbs) (words (3 : Rat).den) && true) = true by decide +kernel, show [rq (neg_ 3) (val (words (3 : Rat).num.natAbs)) (val (words (3 : Rat).den))] = [3] by decide +kernel⟩
theorem rq_1 {s : Bool} {A A' : Option Addr} {n c n' c' : Nat} (h : s = neg_ 1) : allR [rqOf s A n c A' n' c' 1] = true ∧ qvs [rqOf s A n c A' n' c' 1] = [1] := by
  subst h
  exact ⟨show (rightB (neg_ 1) (words (1 : Rat).num.natAbs) (words (1 : Rat).den) && true) = true by decide +kernel, show [rq (neg_ 1) (val (words (1 : Rat).num.natAbs)) (val (words (1 : Rat).den))] = [1] by decide +kernel⟩
theorem ex_sq : exAll ((L3.take 2).map RI.pi) true true [3] [] = .ok [3, 9] := by
  rw [exAll_yes L2_prog]
  kernel_rfl
theorem tg_sq : tgAll ((L3.take 2).map RI.pi) true true true true [3] [1] [] = .ok ([3, 9], [1, 6]) := by
  rw [tgAll_ok ex_sq]
  exact tgRun_ok (by kernel_rfl)
theorem bk_sq : bkAll ((L3.take 2).map RI.pi) true true true true [3] [] [1] [1] = .ok [6] := by
  rw [bkAll_ok ex_sq]
  exact bkRun_ok (s := ([6, 1], [6])) (by decide) (by kernel_rfl)

set_option maxRecDepth 100000 in
set_option maxHeartbeats 4000000 in
theorem same17 (w : World) : Calls Tryz.prog 8 #[] w (RetBl true w) := by
  have z3 : Sz (3 : Rat) 64 := ⟨by rw [show (3 : Rat).num.natAbs = 3 by decide +kernel]; exact Nat.lt_of_lt_of_le (by decide : 3 < W ^ 1) (Nat.pow_le_pow_right (by decide) (by omega)), by rw [show (3 : Rat).den = 1 by decide +kernel]; exact Nat.lt_of_lt_of_le (by decide : 1 < W ^ 1) (Nat.pow_le_pow_right (by decide) (by omega))⟩
  have z1 : Sz (1 : Rat) 64 := ⟨by rw [show (1 : Rat).num.natAbs = 1 by decide +kernel]; exact Nat.lt_of_lt_of_le (by decide : 1 < W ^ 1) (Nat.pow_le_pow_right (by decide) (by omega)), by rw [show (1 : Rat).den = 1 by decide +kernel]; exact Nat.lt_of_lt_of_le (by decide : 1 < W ^ 1) (Nat.pow_le_pow_right (by decide) (by omega))⟩
  have z6 : Sz (6 : Rat) 64 := ⟨by rw [show (6 : Rat).num.natAbs = 6 by decide +kernel]; exact Nat.lt_of_lt_of_le (by decide : 6 < W ^ 1) (Nat.pow_le_pow_right (by decide) (by omega)), by rw [show (6 : Rat).den = 1 by decide +kernel]; exact Nat.lt_of_lt_of_le (by decide : 1 < W ^ 1) (Nat.pow_le_pow_right (by decide) (by omega))⟩
  have T3 := law_three
  have O1 := fun w1 => ref_of 1 (by omega) (by omega) w1
  have O6 := fun w1 => ref_of 6 (by omega) (by omega) w1
  simp only [show ((1 : Int) : Rat) = 1 from rfl, show ((6 : Int) : Rat) = 6 from rfl] at O1 O6
  obtain ⟨V, hV⟩ : ∃ V, w.alloc (.cells C2 52) = V := ⟨_, rfl⟩
  have p0 := L2_new w
  have b0 := below_alloc w (.cells C2 52)
  rw [hV] at p0 b0
  unfold C2 at hV
  have HT3 := Lib.hid T3
  have HO1 := Lib.hid O1
  have HO6 := Lib.hid O6
  have HV := Lib.hid hV
  have Z3 := Lib.hid z3
  have Z1 := Lib.hid z1
  have Z6 := Lib.hid z6
  have HP := Lib.hid p0
  clear T3 O1 O6 hV z3 z1 z6 p0
  go_enter Tryz.func8, Tryz.ntmps8
  go_wp2_with fail
  rw [HV.out]
  with_reducible refine (HT3.out _).mono ?_
  rintro _ w1 ⟨s1, A1, n1, c1, D1, m1, d1, rfl, q1, b1⟩
  obtain ⟨V2, hV2⟩ : ∃ V2, w1.alloc (.cells #[.bool s1, .slice A1 n1 c1, .slice D1 m1 d1] 45) = V2 := ⟨_, rfl⟩
  have r1 := one_new q1 Z3.out
  have b2 := below_alloc w1 (.cells #[.bool s1, .slice A1 n1 c1, .slice D1 m1 d1] 45)
  rw [hV2] at r1 b2
  have HV2 := Lib.hid hV2
  have e1 := rq_3 (A := A1) (n := n1) (c := c1) (A' := D1) (n' := m1) (c' := d1) q1.1
  clear hV2
  go_wp2_with fail
  rw [HV2.out]
  with_reducible refine (HO1.out _).mono ?_
  rintro _ w3 ⟨s3, A3, n3, c3, D3, m3, d3, rfl, q3, b3⟩
  obtain ⟨V4, hV4⟩ : ∃ V2, w3.alloc (.cells #[.bool s3, .slice A3 n3 c3, .slice D3 m3 d3] 45) = V2 := ⟨_, rfl⟩
  have r3 := one_new q3 Z1.out
  have b4 := below_alloc w3 (.cells #[.bool s3, .slice A3 n3 c3, .slice D3 m3 d3] 45)
  rw [hV4] at r3 b4
  have HV4 := Lib.hid hV4
  have e3 := rq_1 (A := A3) (n := n3) (c := c3) (A' := D3) (n' := m3) (c' := d3) q3.1
  clear hV4
  have TO := tg_of (HP.out.below (bb b1 (bb b2 (bb b3 b4)))) (L2_sh 64) (r1.1.below (bb b3 b4)) r1.2 r3.1 r3.2 (slr_none V4) (by simp) (by omega) (by omega) (by omega) (by omega)
  rw [e1.1, e1.2, e3.1, e3.2, show allR [] = true from rfl, show qvs [] = [] from rfl, show decide (1 = 1) = true from rfl, tg_sq] at TO
  have HTO := Lib.hid TO
  clear TO
  go_wp2_with fail
  rw [HV4.out]
  with_reducible refine HTO.out.mono ?_
  rintro _ w5 ⟨⟨Av, nv, cv, At, nt, ct, rfl, qv, qt⟩, b5⟩
  have hnt : nt = 2 := qt.len
  subst hnt
  have HQT := Lib.hid qt
  clear qv qt e1 e3 r1 r3 q1 q3
  have y5 := bb b1 (bb b2 (bb b3 (bb b4 b5)))
  clear b1 b2 b3 b4 b5 HV2 HV4 HTO
  go_wp2_with fail
  with_reducible refine (HT3.out _).mono ?_
  rintro _ w6 ⟨s1, A1, n1, c1, D1, m1, d1, rfl, q1, b1⟩
  obtain ⟨V2, hV2⟩ : ∃ V2, w6.alloc (.cells #[.bool s1, .slice A1 n1 c1, .slice D1 m1 d1] 45) = V2 := ⟨_, rfl⟩
  have r1 := one_new q1 Z3.out
  have b2 := below_alloc w6 (.cells #[.bool s1, .slice A1 n1 c1, .slice D1 m1 d1] 45)
  rw [hV2] at r1 b2
  have HV2 := Lib.hid hV2
  obtain ⟨V3, hV3⟩ : ∃ V2', V2.alloc (.cells #[.int .i64 1] 3) = V2' := ⟨_, rfl⟩
  have ri := one_is V2
  have b2' := below_alloc V2 (.cells #[.int .i64 1] 3)
  rw [hV3] at ri b2'
  have hs2 : V2.heap.size = w6.heap.size + 1 := by rw [← HV2.out]; simp
  rw [hs2] at ri
  have HV3 := Lib.hid hV3
  have e1 := rq_3 (A := A1) (n := n1) (c := c1) (A' := D1) (n' := m1) (c' := d1) q1.1
  clear hV2 hV3
  go_wp2_with fail
  rw [HV2.out, HV3.out]
  with_reducible refine (HO1.out _).mono ?_
  rintro _ w7 ⟨s3, A3, n3, c3, D3, m3, d3, rfl, q3, b3⟩
  obtain ⟨V4, hV4⟩ : ∃ V2, w7.alloc (.cells #[.bool s3, .slice A3 n3 c3, .slice D3 m3 d3] 45) = V2 := ⟨_, rfl⟩
  have r3 := one_new q3 Z1.out
  have b4 := below_alloc w7 (.cells #[.bool s3, .slice A3 n3 c3, .slice D3 m3 d3] 45)
  rw [hV4] at r3 b4
  have HV4 := Lib.hid hV4
  have e3 := rq_1 (A := A3) (n := n3) (c := c3) (A' := D3) (n' := m3) (c' := d3) q3.1
  clear hV4
  have sz1 : ∀ x ∈ [rqOf s3 A3 n3 c3 D3 m3 d3 1], x.n ≤ 8 ∧ x.n' ≤ 8 := fun x hx => by
    rw [List.mem_singleton.1 hx]
    have g1 := q3.2.1.1
    have g2 := q3.2.2.1
    rw [show words (1 : Rat).num.natAbs = [1] by decide +kernel] at g1
    rw [show words (1 : Rat).den = [1] by decide +kernel] at g2
    have g3 : n3 ≤ 8 := by have := g1.1; simp at this; omega
    have g4 : m3 ≤ 8 := by have := g2.1; simp at this; omega
    exact ⟨g3, g4⟩
  have y6 := bb y5 (bb b1 (bb b2 (bb b2' (bb b3 b4))))
  have TB := tg_back (HP.out.below y6) (L2_sh 64) (r1.1.below (bb b2' (bb b3 b4))) r1.2 (slr_none V4) (by simp) (ri.below (bb b3 b4)) r3.1 sz1 (by omega) (by omega) (by omega) (by omega) (by omega)
  rw [e1.1, e1.2, e3.1, e3.2, show allR [] = true from rfl, show qvs [] = [] from rfl, show decide (1 = 1) = true from rfl, bk_sq] at TB
  have HTB := Lib.hid TB
  have x4 := bb b1 (bb b2 (bb b2' (bb b3 b4)))
  clear TB e1 e3 r1 r3 ri q1 q3 sz1 b1 b2 b2' b3 b4
  go_wp2_with fail
  rw [HV4.out]
  with_reducible refine HTB.out.mono ?_
  rintro _ w8 ⟨⟨Ab, nb, cb, rfl, qb⟩, b8⟩
  have hnb : nb = 1 := qb.len
  subst hnb
  have q8 := HQT.out.below (bb x4 b8)
  obtain ⟨bt, ot, s4, A4, n4, c4, D4, m4, d4, rfl, hlt, t0, t1, t2, q4⟩ := q8.at_ (show 1 < 2 by omega)
  obtain ⟨bb_, ob, s5, A5, n5, c5, D5, m5, d5, rfl, hlb, u0, u1, u2, q5⟩ := qb.at_ (show 0 < 1 by omega)
  have q4' : Q w8 s4 A4 n4 c4 D4 m4 d4 6 := q4
  have q5' : Q w8 s5 A5 n5 c5 D5 m5 d5 6 := q5
  have S1 := fun (w1 : World) (hb : Below w8.heap.size w8 w1) (s : Bool) (A A' : Option Addr) (n c n' c' : Nat) (q : Q w1 s A n c A' n' c' 6) => ref_sameQ (q4'.below hb) q Z6.out Z6.out (by omega)
  have S2 := fun (w1 : World) (hb : Below w8.heap.size w8 w1) (s : Bool) (A A' : Option Addr) (n c n' c' : Nat) (q : Q w1 s A n c A' n' c' 6) => ref_sameQ (q5'.below hb) q Z6.out Z6.out (by omega)
  simp only [show decide ((6 : Rat) = 6) = true from by simp] at S1 S2
  have hS : ∀ w', Below w8.heap.size w8 w' → (w'.cell? ⟨bt, ot + 1 * 3, none⟩ = some (.bool s4) ∧ w'.cell? ⟨bt, ot + 1 * 3 + 1, none⟩ = some (.slice A4 n4 c4) ∧ w'.cell? ⟨bt, ot + 1 * 3 + 2, none⟩ = some (.slice D4 m4 d4)) ∧ (w'.cell? ⟨bb_, ob + 0 * 3, none⟩ = some (.bool s5) ∧ w'.cell? ⟨bb_, ob + 0 * 3 + 1, none⟩ = some (.slice A5 n5 c5) ∧ w'.cell? ⟨bb_, ob + 0 * 3 + 2, none⟩ = some (.slice D5 m5 d5)) := fun w' hb =>
    ⟨⟨(hb.cell (p := ⟨bt, ot + 1 * 3, none⟩) hlt).trans t0, (hb.cell (p := ⟨bt, ot + 1 * 3 + 1, none⟩) hlt).trans t1, (hb.cell (p := ⟨bt, ot + 1 * 3 + 2, none⟩) hlt).trans t2⟩, (hb.cell (p := ⟨bb_, ob + 0 * 3, none⟩) hlb).trans u0, (hb.cell (p := ⟨bb_, ob + 0 * 3 + 1, none⟩) hlb).trans u1, (hb.cell (p := ⟨bb_, ob + 0 * 3 + 2, none⟩) hlb).trans u2⟩
  simp only [Nat.one_mul, Nat.zero_mul, Nat.add_zero, Nat.add_assoc, Nat.reduceAdd] at hS t0 t1 t2 u0 u1 u2
  have HS := Lib.hid hS
  have HS1 := Lib.hid S1
  have HS2 := Lib.hid S2
  have y8 := bb y6 b8
  clear hS S1 S2 q4 q5 q4' q5' q8 qb HQT HTB HT3 HO1
  go_wp2_with fail
  go_region_held3 (fun w' => (w'.cell? ⟨bt, ot + 3, none⟩ = some (.bool s4) ∧ w'.cell? ⟨bt, ot + 4, none⟩ = some (.slice A4 n4 c4) ∧ w'.cell? ⟨bt, ot + 5, none⟩ = some (.slice D4 m4 d4)) ∧ (w'.cell? ⟨bb_, ob, none⟩ = some (.bool s5) ∧ w'.cell? ⟨bb_, ob + 1, none⟩ = some (.slice A5 n5 c5) ∧ w'.cell? ⟨bb_, ob + 2, none⟩ = some (.slice D5 m5 d5))) (first | with_reducible exact HS.out _ (Below.refl _ w8).drew | with_reducible exact HS.out _ x9 | with_reducible exact HS.out _ x10 | with_reducible exact HS.out _ x11 | with_reducible exact HS.out _ x12 | fail)
    (first
      | (go_at_call 17; (fail_if_success have hh := x9); (with_reducible refine (HO6.out _).mono ?_); rintro _ w9 ⟨s9, A9, n9, c9, D9, m9, d9, rfl, q9, b9⟩; have x9 : Below w8.heap.size w8 w9 := Below.undrew b9)
      | (go_at_call 25; (fail_if_success have hh := x10); (with_reducible refine (HS1.out _ x9 _ _ _ _ _ _ _ q9).mono ?_); rintro _ w10 ⟨rfl, b10⟩; have x10 : Below w8.heap.size w8 w10 := bb x9 b10)
      | (go_at_call 17; (with_reducible refine (HO6.out _).mono ?_); rintro _ w11 ⟨s11, A11, n11, c11, D11, m11, d11, rfl, q11, b11⟩; have x11 : Below w8.heap.size w8 w11 := bb x10 b11)
      | (go_at_call 25; (with_reducible refine (HS2.out _ x11 _ _ _ _ _ _ _ q11).mono ?_); rintro _ w12 ⟨rfl, b12⟩; have x12 : Below w8.heap.size w8 w12 := bb x11 b12))
  all_goals
    go_wp2_with fail
    go_ret
    exact ⟨rfl, bb b0 (bb y8 x12)⟩

end Go.Proofs.YtfhihapgjiaobaaGreat

namespace Go.Proofs.YtfhihapgjiaobaaGreat
set_option maxRecDepth 100000
open Go.RowKit Go.Joins
set_option linter.unusedVariables false
set_option linter.unusedSimpArgs false

section
variable {H : Type} {enc : TypeId × Value → H} {w : World} {base : Nat} {held : Bool} {r : Reach} {b0 : Nat} {v : Value} {d : DataW H} {p : List MemPlace}
theorem arg_case (hv : Value.okWide Tryz.prog w r b0 25 v) (h : DataW.Trod enc Tryz.prog w base (fun _ => true) held 25 v d p) : ∃ A n c xs B m d k D kd e ds C kf f fs, v = .agg #[.slice A n c, .slice B m d, .slice D kd e, .slice C kf f] ∧ SlP w A n c xs ∧ SlR w B m d k ∧ SlR w D kd e ds ∧ SlR w C kf f fs := by
  obtain ⟨v0, v1, v2, v3, y0, y1, y2, y3, n, rfl, _, _, h0, h1, h2, h3⟩ := open_agg4 Tryz.underlying25 (by kernel_rfl) (show Tryz.prog.cellsOf 25 = 4 by kernel_rfl) hv h
  obtain ⟨A, n, c, xs, rfl, g0⟩ := open_slp Tryz.underlying22 ins_ty h0
  obtain ⟨B, m, d, is, rfl, g1⟩ := open_slr Tryz.underlying23 rat_ty h1
  obtain ⟨D, kd, e, ds, rfl, g2⟩ := open_slr Tryz.underlying23 rat_ty h2
  obtain ⟨C, kf, f, fs, rfl, g3⟩ := open_slr Tryz.underlying23 rat_ty h3
  exact ⟨_, _, _, _, _, _, _, _, _, _, _, _, _, _, _, _, rfl, g0, g1, g2, g3⟩
end

end Go.Proofs.YtfhihapgjiaobaaGreat

namespace Go.Proofs.YtfhihapgjiaobaaGreat
set_option maxRecDepth 100000
open Go.RowKit
set_option linter.unusedVariables false
set_option linter.unusedSimpArgs false

theorem Box.four {t : TypeId} {w : World} {g : Nat} {v0 v1 v2 v3 : Value} (h : Box t w g #[v0, v1, v2, v3]) :
    (w.cell? ⟨g, 0, none⟩ = some v0 ∧ w.cell? ⟨g, 1, none⟩ = some v1 ∧ w.cell? ⟨g, 2, none⟩ = some v2 ∧ w.cell? ⟨g, 3, none⟩ = some v3) :=
  ⟨h.cell 0, h.cell 1, h.cell 2, h.cell 3⟩
def FewD (n m kd k : Nat) (xs : List RI) (is ds fs : List RQ) : Prop := FewP n m k xs is fs ∧ kd ≤ 30 ∧ anyR 3 ds = false
set_option maxRecDepth 100000 in
set_option maxHeartbeats 4000000 in
theorem law_few17 {w : World} {A B D C : Option Addr} {n c m d kd e k f : Nat} {xs : List RI} {is ds fs : List RQ} (h : SlP w A n c xs) (hi : SlR w B m d is) (hd : SlR w D kd e ds) (hf : SlR w C k f fs) :
    ∃ b : Bool, (b = true ↔ FewD n m kd k xs is ds fs) ∧ Calls Tryz.prog 7 #[.agg #[.slice A n c, .slice B m d, .slice D kd e, .slice C k f]] w (RetBl b w) := by
  obtain ⟨V, hV, Bx, hb0⟩ := box0 25 w #[.slice A n c, .slice B m d, .slice D kd e, .slice C k f]
  obtain ⟨b, hb, FW⟩ := law_few (h.below hb0) (hi.below hb0) (hf.below hb0)
  have L1 := fun (w1 : World) (hb : Below w.heap.size w w1) => plain_longer (hd.below hb) 3
  have H1 := Lib.hid L1
  have HF := Lib.hid FW
  have HV := Lib.hid hV
  have HB := Lib.hid Bx
  clear L1 FW h hi hf hd hV Bx
  unfold FewD
  rw [← hb]
  clear hb
  generalize anyR 3 ds = q at *
  obtain ⟨k0, k1, k2, k3⟩ := HB.out.four
  cases b
  case false =>
    refine ⟨false, by simp, ?_⟩
    go_enter Tryz.func7, Tryz.ntmps7
    go_wp2_with fail
    rw [HV.out]
    with_reducible refine HF.out.mono ?_
    rintro _ w1 ⟨rfl, b1⟩
    go_wp2_with fail
    go_ret
    exact ⟨rfl, bb hb0 b1⟩
  case true =>
  by_cases h1 : kd ≤ 30
  case neg =>
    have e1 : decide ((kd : Int) ≤ 30) = false := decide_eq_false (by omega)
    have e2 : decide (kd ≤ 30) = false := decide_eq_false (by omega)
    refine ⟨false, by simp [h1], ?_⟩
    go_enter Tryz.func7, Tryz.ntmps7
    go_wp2_with fail
    rw [HV.out]
    with_reducible refine HF.out.mono ?_
    rintro _ w1 ⟨rfl, b1⟩
    obtain ⟨k0, k1, k2, k3⟩ := (HB.out.below' b1).four
    go_wp2_with fail
    go_ret
    exact ⟨rfl, bb hb0 b1⟩
  case pos =>
  cases q
  case true =>
    refine ⟨false, by simp, ?_⟩
    go_enter Tryz.func7, Tryz.ntmps7
    go_wp2_with fail
    rw [HV.out]
    with_reducible refine HF.out.mono ?_
    rintro _ w1 ⟨rfl, b1⟩
    obtain ⟨k0, k1, k2, k3⟩ := (HB.out.below' b1).four
    go_wp2_with fail
    with_reducible refine (H1.out _ (bb hb0 b1)).mono ?_
    rintro _ w2 ⟨rfl, b2⟩
    go_wp2_with fail
    go_ret
    exact ⟨rfl, bb hb0 (bb b1 b2)⟩
  case false =>
    refine ⟨true, by simp [h1], ?_⟩
    go_enter Tryz.func7, Tryz.ntmps7
    go_wp2_with fail
    rw [HV.out]
    with_reducible refine HF.out.mono ?_
    rintro _ w1 ⟨rfl, b1⟩
    obtain ⟨k0, k1, k2, k3⟩ := (HB.out.below' b1).four
    go_wp2_with fail
    with_reducible refine (H1.out _ (bb hb0 b1)).mono ?_
    rintro _ w2 ⟨rfl, b2⟩
    go_wp2_with fail
    go_ret
    exact ⟨rfl, bb hb0 (bb b1 b2)⟩

theorem few_short {n m kd k : Nat} {xs : List RI} {is ds fs : List RQ} (hb : FewD n m kd k xs is ds fs) : n ≤ 60 ∧ m ≤ 30 ∧ kd ≤ 30 ∧ k ≤ 60 ∧ Shrt 8 xs ∧ (∀ x ∈ is, x.n ≤ 3 ∧ x.n' ≤ 3) ∧ (∀ x ∈ ds, x.n ≤ 3 ∧ x.n' ≤ 3) ∧ (∀ x ∈ fs, x.n ≤ 3 ∧ x.n' ≤ 3) := by
  obtain ⟨⟨m1, m2, m3, m4, m5, m6⟩, m7, m8⟩ := hb
  unfold manyB at m1
  rw [Bool.or_eq_false_iff] at m1
  exact ⟨m2, m3, m7, m4, anyI_short m1.1, anyR_short (k := 3) m5, anyR_short (k := 3) m8, anyR_short (k := 3) m6⟩
end Go.Proofs.YtfhihapgjiaobaaGreat

namespace Go.Proofs.YtfhihapgjiaobaaGreat
set_option maxRecDepth 100000
open Go.RowKit
set_option linter.unusedVariables false
set_option linter.unusedSimpArgs false

theorem bk_oks {l : List PI} {p q r s : Bool} {is fs cs b : List Rat} {outs : List Int} (h : bkAll l p q r s is fs outs cs = .ok b) : p = true ∧ q = true ∧ r = true ∧ s = true ∧ ∃ v u, exAll l p q is fs = .ok v ∧ outs.all (outB l.length) = true ∧ giveTo v l l.length (seedTo outs cs l.length outs.length, List.replicate (inputsTo l l.length).toNat 0) = .ok u ∧ b = u.2 := by
  unfold bkAll at h
  split at h
  · rename_i hrs
    split at h
    · cases h
    · rename_i v hv
      unfold bkRun at h
      split at h
      · rename_i ho
        split at h
        · rename_i u hu
          injection h with h
          exact ⟨(exAll_ok hv).2.1, (exAll_ok hv).2.2.1, hrs.2, hrs.1, v, u, hv, ho, hu, h.symm⟩
        · cases h
      · cases h
  · cases h
theorem inputs_le {l : List PI} {M : Nat} : ∀ n, (∀ i, i < n → (l.getD i PI.nil).op = 1 → (l.getD i PI.nil).a < M) → inputsTo l n ≤ M := by
  intro n
  induction n with
  | zero => intro _; show (0 : Int) ≤ M; omega
  | succ n ih =>
    intro h
    have i1 := ih (fun i hi => h i (by omega))
    obtain ⟨x, hx⟩ : ∃ x, l.getD n PI.nil = x := ⟨_, rfl⟩
    have h2 := h n (by omega)
    rw [hx] at h2
    obtain ⟨op, a, b, q⟩ := x
    rw [inputs_at hx]
    simp only at h2
    split
    · rename_i h3
      have := h2 h3.1
      omega
    · exact i1
theorem give_len {v : List Rat} {l : List PI} : ∀ n (s s' : List Rat × List Rat), giveTo v l n s = .ok s' → s'.2.length = s.2.length := by
  intro n
  induction n with
  | zero => intro s s' h; injection h with h; rw [h]
  | succ n ih =>
    intro s s' h
    cases hg : giveSt v n (l.getD n PI.nil) s with
    | error e => rw [giveTo_err hg] at h; cases h
    | ok s1 =>
      rw [giveTo_ok hg] at h
      rw [ih s1 s' h]
      unfold giveSt at hg
      split at hg
      · cases hg
      split at hg
      · injection hg with hg; rw [← hg]; exact addAt_len _ _ _
      split at hg
      · injection hg with hg; rw [← hg]
      split at hg
      · cases hg
      injection hg with hg; rw [← hg]
theorem sumTo_le {N : Nat → Nat} {k m : Nat} (h : k ≤ m) : sumTo N k ≤ sumTo N m := by
  induction m with
  | zero => have e : k = 0 := by omega
            rw [e]; exact Nat.le_refl _
  | succ m ih =>
    by_cases e : k = m + 1
    · rw [e]; exact Nat.le_refl _
    · have := ih (by omega)
      show _ ≤ sumTo N m + N m
      omega
end Go.Proofs.YtfhihapgjiaobaaGreat

namespace Go.Proofs.YtfhihapgjiaobaaGreat
set_option maxRecDepth 100000
open Go.RowKit
set_option linter.unusedVariables false
set_option linter.unusedSimpArgs false

/-- a number as a struct that lies -/
structure NV where
  s : Bool
  A : Option Addr
  n : Nat
  c : Nat
  D : Option Addr
  m : Nat
  d : Nat
def NV.box (w : World) (g : Nat) (x : NV) : Prop := Box 45 w g #[.bool x.s, .slice x.A x.n x.c, .slice x.D x.m x.d]
def NV.q (w : World) (x : NV) (X : Rat) : Prop := Q w x.s x.A x.n x.c x.D x.m x.d X
/-- blocks gx and gy hold X and Y; below B nothing has turned since V -/
def Two (B : Nat) (V : World) (gx gy : Nat) (x : NV) (X : Rat) (y : NV) (Y : Rat) (w : World) : Prop :=
  x.box w gx ∧ x.q w X ∧ y.box w gy ∧ y.q w Y ∧ Below B V w
section
variable {B : Nat} {V w w' : World} {gx gy : Nat} {x y z : NV} {X Y Z : Rat}
theorem Two.below (h : Two B V gx gy x X y Y w) (hb : Below w.heap.size w w') (hB : B ≤ V.heap.size) : Two B V gx gy x X y Y w' :=
  ⟨h.1.below' hb, h.2.1.below hb, h.2.2.1.below' hb, h.2.2.2.1.below hb, h.2.2.2.2.trans (hb.mono (Nat.le_trans hB h.2.2.2.2.size))⟩
end

end Go.Proofs.YtfhihapgjiaobaaGreat
