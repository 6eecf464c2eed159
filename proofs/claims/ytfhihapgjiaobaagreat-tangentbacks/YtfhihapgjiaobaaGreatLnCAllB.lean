/-
  Slices of exact numbers that read as numbers; what evals.copied, clone, element, allRight and line.copied, and the document's Rats, return. Conditions: as each lemma says.
-/
import Derived.Test.YtfhihapgjiaobaaGreatRatRightAllB
import Derived.Test.YtfhihapgjiaobaaGreatRatMulAllB
namespace Go.Proofs.YtfhihapgjiaobaaGreat
set_option maxRecDepth 100000
open Go.RowKit
set_option linter.unusedVariables false
set_option linter.unusedSimpArgs false

/-- the six cells of a box of an instruction -/
theorem Box.six {t : TypeId} {w : World} {g : Nat} {v0 v1 v2 v3 v4 v5 : Value} (h : Box t w g #[v0, v1, v2, v3, v4, v5]) :
    (w.cell? ⟨g, 0, none⟩ = some v0 ∧ w.cell? ⟨g, 1, none⟩ = some v1 ∧ w.cell? ⟨g, 2, none⟩ = some v2 ∧ w.cell? ⟨g, 3, none⟩ = some v3 ∧ w.cell? ⟨g, 4, none⟩ = some v4 ∧ w.cell? ⟨g, 5, none⟩ = some v5) ∧
    (w.frozen? ⟨g, 0, none⟩ = false ∧ w.frozen? ⟨g, 1, none⟩ = false ∧ w.frozen? ⟨g, 2, none⟩ = false ∧ w.frozen? ⟨g, 3, none⟩ = false ∧ w.frozen? ⟨g, 4, none⟩ = false ∧ w.frozen? ⟨g, 5, none⟩ = false) :=
  ⟨⟨h.cell 0, h.cell 1, h.cell 2, h.cell 3, h.cell 4, h.cell 5⟩, h.free 0, h.free 1, h.free 2, h.free 3, h.free 4, h.free 5⟩

theorem line_empty {w : World} {q : RQ} (h : q.ok w) :
    Calls Tryz.prog 123 #[.agg #[.bool q.s, .slice q.A q.n q.c, .slice q.A' q.n' q.c']] w (RetBl (nq (q.s, q.z, q.z')) w) := by
  rw [nq_len h]
  obtain ⟨s, A, n, c, z, A', n', c', z'⟩ := q
  simp only
  clear h
  cases s
  case true =>
    rw [decide_eq_false (by simp)]
    go_enter Tryz.func123, Tryz.ntmps123
    go_wp2
    go_ret
    exact ⟨rfl, below_alloc _ _⟩
  case false =>
    by_cases h1 : n = 0
    · subst h1
      by_cases h2 : n' = 0
      · subst h2
        rw [decide_eq_true ⟨rfl, rfl, rfl⟩]
        go_enter Tryz.func123, Tryz.ntmps123
        go_wp2
        go_ret
        exact ⟨rfl, below_alloc _ _⟩
      · have e1 : ((n' : Int) == 0) = false := by simp; omega
        have e2 : decide (n' = 0) = false := decide_eq_false h2
        rw [decide_eq_false (fun hh => h2 hh.2.2)]
        go_enter Tryz.func123, Tryz.ntmps123
        go_wp2
        go_ret
        exact ⟨rfl, below_alloc _ _⟩
    · have e1 : ((n : Int) == 0) = false := by simp; omega
      have e2 : decide (n = 0) = false := decide_eq_false h1
      rw [decide_eq_false (fun hh => h1 hh.2.1)]
      go_enter Tryz.func123, Tryz.ntmps123
      go_wp2
      go_ret
      exact ⟨rfl, below_alloc _ _⟩
theorem ref_none {w : World} {q : RQ} (h : q.ok w) (hn : q.n ≤ 1000) (hn' : q.n' ≤ 1000) :
    Calls Tryz.prog 107 #[.agg #[.bool q.s, .slice q.A q.n q.c, .slice q.A' q.n' q.c']] w (RetBl (nq (q.s, q.z, q.z')) w) := by
  obtain ⟨s, A, n, c, z, A', n', c', z'⟩ := q
  simp only at hn hn' ⊢
  obtain ⟨V, hW, Ba, hb0⟩ := box0 45 w #[.bool s, .slice A n c, .slice A' n' c']
  have S := ref_same (s := s) (t := false) (h.1.below hb0) (h.2.1.below hb0) (Sl.nil V none 0) (Sl.nil V none 0) (show n ≤ 1000000 by omega) (show n' ≤ 1000000 by omega) (by omega) (by omega)
  have e : nq (s, z, z') = decide (s = false ∧ z = [] ∧ z' = []) := rfl
  simp only at S
  rw [← e] at S
  obtain ⟨k0, k1, k2⟩ := Ba.three.1
  have HS := Lib.hid S
  have HW := Lib.hid hW
  clear S hW h e Ba
  go_enter Tryz.func107, Tryz.ntmps107
  go_wp2_with fail
  rw [HW.out]
  go_wp2_with fail
  refine HS.out.mono ?_
  rintro _ w2 ⟨rfl, b2⟩
  go_wp2_with fail
  go_ret
  exact ⟨rfl, bb hb0 b2⟩

set_option maxRecDepth 100000 in
set_option maxHeartbeats 8000000 in
theorem line_fits {w : World} {x : RI} (hx : x.ok w) {N : Nat} (hn : x.q.n ≤ N) (hn' : x.q.n' ≤ N) (hN : N ≤ 1000) (i : Nat) :
    Calls Tryz.prog 96 #[.agg #[.int .i64 x.op, .int .i64 x.a, .int .i64 x.b, .bool x.q.s, .slice x.q.A x.q.n x.q.c, .slice x.q.A' x.q.n' x.q.c'], .int .i64 (i : Int)] w (RetBl (fitsB x.pi i) w) := by
  obtain ⟨op, a, b, q⟩ := x
  obtain ⟨_, _, _, hq⟩ := hx
  simp only at hn hn' hq
  show Calls _ _ #[.agg #[.int .i64 op, .int .i64 a, .int .i64 b, .bool q.s, .slice q.A q.n q.c, .slice q.A' q.n' q.c'], .int .i64 (i : Int)] w (RetBl (fitsB ⟨op, a, b, (q.s, q.z, q.z')⟩ i) w)
  obtain ⟨V, hW, Ba, hb0⟩ := box0 52 w #[.int .i64 op, .int .i64 a, .int .i64 b, .bool q.s, .slice q.A q.n q.c, .slice q.A' q.n' q.c']
  have R := rat_right (s := q.s) (hq.1.below hb0) (hq.2.1.below hb0) hn hn' hN
  have E := fun (w1 : World) (hb : Below V.heap.size V w1) => line_empty (RQ.below hq (bb hb0 hb))
  have AR := fun (w1 : World) => Lib.hid (line_arity op w1)
  have hS : ∀ w', Below V.heap.size V w' → w'.cell? ⟨w.heap.size, 0, none⟩ = some (.int .i64 op) ∧ w'.cell? ⟨w.heap.size, 1, none⟩ = some (.int .i64 a) ∧ w'.cell? ⟨w.heap.size, 2, none⟩ = some (.int .i64 b) ∧ w'.cell? ⟨w.heap.size, 3, none⟩ = some (.bool q.s) ∧ w'.cell? ⟨w.heap.size, 4, none⟩ = some (.slice q.A q.n q.c) ∧ w'.cell? ⟨w.heap.size, 5, none⟩ = some (.slice q.A' q.n' q.c') := fun w' hb => (Ba.below' hb).six.1
  have hv : rightB q.s q.z q.z' = vq (q.s, q.z, q.z') := rfl
  rw [hv] at R
  obtain ⟨s, A, n, c, z, A', n', c', z'⟩ := q
  simp only at R E hS hW ⊢
  have f2 := @fits_const a b (s, z, z') i
  have f0 := fun h2 h => @fits_full op a b (s, z, z') i h2 h
  have f1 := fun h => @fits_input a b (s, z, z') i h
  have fa := fun h2 h1 ha h => @fits_one op a b (s, z, z') i h2 h1 ha h
  have fb := fun h2 h1 ha h => @fits_two op a b (s, z, z') i h2 h1 ha h
  have fn := fun h2 h1 ha => @fits_none op a b (s, z, z') i h2 h1 ha
  generalize vq (s, z, z') = v at *
  generalize nq (s, z, z') = u at *
  have HR := Lib.hid R
  have HE := Lib.hid E
  have HS := Lib.hid hS
  have HW := Lib.hid hW
  clear R E hS hW Ba hq hn hn' hN hv
  by_cases h2 : op = 2
  · subst h2
    clear f0 fa fb fn f1 HE AR
    by_cases ha : a = 0
    · subst ha
      by_cases hb : b = 0
      · subst hb
        rw [f2, decide_eq_true (rfl : (0 : Int) = 0), Bool.true_and, Bool.true_and]
        clear f2
        go_enter Tryz.func96, Tryz.ntmps96
        go_wp2_with fail
        rw [HW.out]
        obtain ⟨k0, k1, k2, k3, k4, k5⟩ := HS.out V (Below.refl _ V)
        go_wp2_with fail
        refine HR.out.mono ?_
        rintro _ w2 ⟨rfl, b2⟩
        go_wp2_with fail
        go_ret
        exact ⟨rfl, bb hb0 b2⟩
      · have e1 : (b == 0) = false := by simpa using hb
        rw [f2, decide_eq_false hb, Bool.false_and, Bool.and_false]
        clear f2 HR
        go_enter Tryz.func96, Tryz.ntmps96
        go_wp2_with fail
        rw [HW.out]
        obtain ⟨k0, k1, k2, k3, k4, k5⟩ := HS.out V (Below.refl _ V)
        go_wp2_with fail
        go_ret
        exact ⟨rfl, hb0⟩
    · have e1 : (a == 0) = false := by simpa using ha
      rw [f2, decide_eq_false ha, Bool.false_and]
      clear f2 HR
      go_enter Tryz.func96, Tryz.ntmps96
      go_wp2_with fail
      rw [HW.out]
      obtain ⟨k0, k1, k2, k3, k4, k5⟩ := HS.out V (Below.refl _ V)
      go_wp2_with fail
      go_ret
      exact ⟨rfl, hb0⟩
  · clear f2 HR
    have e2 : (op == 2) = false := by simpa using h2
    cases u
    case false =>
      rw [f0 h2 rfl]
      clear f0 fa fb fn f1 AR
      go_enter Tryz.func96, Tryz.ntmps96
      go_wp2_with fail
      rw [HW.out]
      obtain ⟨k0, k1, k2, k3, k4, k5⟩ := HS.out V (Below.refl _ V)
      go_wp2_with fail
      refine (HE.out V (Below.refl _ V)).mono ?_
      rintro _ w2 ⟨rfl, b2⟩
      clear k0 k1 k2 k3 k4 k5
      obtain ⟨k0, k1, k2, k3, k4, k5⟩ := HS.out w2 b2
      go_wp2_with fail
      go_ret
      exact ⟨rfl, bb hb0 b2⟩
    case true =>
      clear f0
      by_cases h1 : op = 1
      · subst h1
        rw [f1 rfl]
        clear f1 fa fb fn AR
        by_cases ha : 0 ≤ a ∧ a < 65536
        · rw [decide_eq_true ha, Bool.true_and]
          by_cases hb : b = 0
          · subst hb
            rw [decide_eq_true (rfl : (0 : Int) = 0)]
            go_enter Tryz.func96, Tryz.ntmps96
            go_wp2_with fail
            rw [HW.out]
            obtain ⟨k0, k1, k2, k3, k4, k5⟩ := HS.out V (Below.refl _ V)
            go_wp2_with fail
            refine (HE.out V (Below.refl _ V)).mono ?_
            rintro _ w2 ⟨rfl, b2⟩
            clear k0 k1 k2 k3 k4 k5
            obtain ⟨k0, k1, k2, k3, k4, k5⟩ := HS.out w2 b2
            go_wp2_with fail
            refine (line_below a 65536 _).mono ?_
            rintro _ w3 ⟨rfl, rfl⟩
            rw [decide_eq_true ha]
            go_wp2_with fail
            go_ret
            exact ⟨rfl, bb hb0 b2⟩
          · have e1 : (b == 0) = false := by simpa using hb
            rw [decide_eq_false hb]
            go_enter Tryz.func96, Tryz.ntmps96
            go_wp2_with fail
            rw [HW.out]
            obtain ⟨k0, k1, k2, k3, k4, k5⟩ := HS.out V (Below.refl _ V)
            go_wp2_with fail
            refine (HE.out V (Below.refl _ V)).mono ?_
            rintro _ w2 ⟨rfl, b2⟩
            clear k0 k1 k2 k3 k4 k5
            obtain ⟨k0, k1, k2, k3, k4, k5⟩ := HS.out w2 b2
            go_wp2_with fail
            refine (line_below a 65536 _).mono ?_
            rintro _ w3 ⟨rfl, rfl⟩
            rw [decide_eq_true ha]
            go_wp2_with fail
            go_ret
            exact ⟨rfl, bb hb0 b2⟩
        · rw [decide_eq_false ha, Bool.false_and]
          go_enter Tryz.func96, Tryz.ntmps96
          go_wp2_with fail
          rw [HW.out]
          obtain ⟨k0, k1, k2, k3, k4, k5⟩ := HS.out V (Below.refl _ V)
          go_wp2_with fail
          refine (HE.out V (Below.refl _ V)).mono ?_
          rintro _ w2 ⟨rfl, b2⟩
          clear k0 k1 k2 k3 k4 k5
          obtain ⟨k0, k1, k2, k3, k4, k5⟩ := HS.out w2 b2
          go_wp2_with fail
          refine (line_below a 65536 _).mono ?_
          rintro _ w3 ⟨rfl, rfl⟩
          rw [decide_eq_false ha]
          go_wp2_with fail
          go_ret
          exact ⟨rfl, bb hb0 b2⟩
      · have e1 : (op == 1) = false := by simpa using h1
        clear f1
        rcases ar_op h2 h1 with har | har | har
        · rw [fa h2 h1 har rfl]
          clear fa fb fn
          rw [har] at AR
          clear har
          by_cases ha : 0 ≤ a ∧ a < (i : Int)
          · rw [decide_eq_true ha, Bool.true_and]
            by_cases hb : b = 0
            · subst hb
              rw [decide_eq_true (rfl : (0 : Int) = 0)]
              go_enter Tryz.func96, Tryz.ntmps96
              go_wp2_with fail
              rw [HW.out]
              obtain ⟨k0, k1, k2, k3, k4, k5⟩ := HS.out V (Below.refl _ V)
              go_wp2_with fail
              refine (HE.out V (Below.refl _ V)).mono ?_
              rintro _ w2 ⟨rfl, b2⟩
              clear k0 k1 k2 k3 k4 k5
              obtain ⟨k0, k1, k2, k3, k4, k5⟩ := HS.out w2 b2
              go_wp2_with fail
              refine ((AR _).out).mono ?_
              rintro _ w3 ⟨rfl, rfl⟩
              go_wp2_with fail
              refine (line_below a (i : Int) _).mono ?_
              rintro _ w3 ⟨rfl, rfl⟩
              rw [decide_eq_true ha]
              go_wp2_with fail
              go_ret
              exact ⟨rfl, bb hb0 b2⟩
            · have e1 : (b == 0) = false := by simpa using hb
              rw [decide_eq_false hb]
              go_enter Tryz.func96, Tryz.ntmps96
              go_wp2_with fail
              rw [HW.out]
              obtain ⟨k0, k1, k2, k3, k4, k5⟩ := HS.out V (Below.refl _ V)
              go_wp2_with fail
              refine (HE.out V (Below.refl _ V)).mono ?_
              rintro _ w2 ⟨rfl, b2⟩
              clear k0 k1 k2 k3 k4 k5
              obtain ⟨k0, k1, k2, k3, k4, k5⟩ := HS.out w2 b2
              go_wp2_with fail
              refine ((AR _).out).mono ?_
              rintro _ w3 ⟨rfl, rfl⟩
              go_wp2_with fail
              refine (line_below a (i : Int) _).mono ?_
              rintro _ w3 ⟨rfl, rfl⟩
              rw [decide_eq_true ha]
              go_wp2_with fail
              go_ret
              exact ⟨rfl, bb hb0 b2⟩
          · rw [decide_eq_false ha, Bool.false_and]
            go_enter Tryz.func96, Tryz.ntmps96
            go_wp2_with fail
            rw [HW.out]
            obtain ⟨k0, k1, k2, k3, k4, k5⟩ := HS.out V (Below.refl _ V)
            go_wp2_with fail
            refine (HE.out V (Below.refl _ V)).mono ?_
            rintro _ w2 ⟨rfl, b2⟩
            clear k0 k1 k2 k3 k4 k5
            obtain ⟨k0, k1, k2, k3, k4, k5⟩ := HS.out w2 b2
            go_wp2_with fail
            refine ((AR _).out).mono ?_
            rintro _ w3 ⟨rfl, rfl⟩
            go_wp2_with fail
            refine (line_below a (i : Int) _).mono ?_
            rintro _ w3 ⟨rfl, rfl⟩
            rw [decide_eq_false ha]
            go_wp2_with fail
            go_ret
            exact ⟨rfl, bb hb0 b2⟩
        · rw [fb h2 h1 har rfl]
          clear fa fb fn
          rw [har] at AR
          clear har
          by_cases ha : 0 ≤ a ∧ a < (i : Int)
          · rw [decide_eq_true ha, Bool.true_and]
            by_cases hb : 0 ≤ b ∧ b < (i : Int)
            · rw [decide_eq_true hb]
              go_enter Tryz.func96, Tryz.ntmps96
              go_wp2_with fail
              rw [HW.out]
              obtain ⟨k0, k1, k2, k3, k4, k5⟩ := HS.out V (Below.refl _ V)
              go_wp2_with fail
              refine (HE.out V (Below.refl _ V)).mono ?_
              rintro _ w2 ⟨rfl, b2⟩
              clear k0 k1 k2 k3 k4 k5
              obtain ⟨k0, k1, k2, k3, k4, k5⟩ := HS.out w2 b2
              go_wp2_with fail
              refine ((AR _).out).mono ?_
              rintro _ w3 ⟨rfl, rfl⟩
              go_wp2_with fail
              refine (line_below a (i : Int) _).mono ?_
              rintro _ w3 ⟨rfl, rfl⟩
              rw [decide_eq_true ha]
              go_wp2_with fail
              refine (line_below b (i : Int) _).mono ?_
              rintro _ w3 ⟨rfl, rfl⟩
              rw [decide_eq_true hb]
              go_wp2_with fail
              go_ret
              exact ⟨rfl, bb hb0 b2⟩
            · rw [decide_eq_false hb]
              go_enter Tryz.func96, Tryz.ntmps96
              go_wp2_with fail
              rw [HW.out]
              obtain ⟨k0, k1, k2, k3, k4, k5⟩ := HS.out V (Below.refl _ V)
              go_wp2_with fail
              refine (HE.out V (Below.refl _ V)).mono ?_
              rintro _ w2 ⟨rfl, b2⟩
              clear k0 k1 k2 k3 k4 k5
              obtain ⟨k0, k1, k2, k3, k4, k5⟩ := HS.out w2 b2
              go_wp2_with fail
              refine ((AR _).out).mono ?_
              rintro _ w3 ⟨rfl, rfl⟩
              go_wp2_with fail
              refine (line_below a (i : Int) _).mono ?_
              rintro _ w3 ⟨rfl, rfl⟩
              rw [decide_eq_true ha]
              go_wp2_with fail
              refine (line_below b (i : Int) _).mono ?_
              rintro _ w3 ⟨rfl, rfl⟩
              rw [decide_eq_false hb]
              go_wp2_with fail
              go_ret
              exact ⟨rfl, bb hb0 b2⟩
          · rw [decide_eq_false ha, Bool.false_and]
            go_enter Tryz.func96, Tryz.ntmps96
            go_wp2_with fail
            rw [HW.out]
            obtain ⟨k0, k1, k2, k3, k4, k5⟩ := HS.out V (Below.refl _ V)
            go_wp2_with fail
            refine (HE.out V (Below.refl _ V)).mono ?_
            rintro _ w2 ⟨rfl, b2⟩
            clear k0 k1 k2 k3 k4 k5
            obtain ⟨k0, k1, k2, k3, k4, k5⟩ := HS.out w2 b2
            go_wp2_with fail
            refine ((AR _).out).mono ?_
            rintro _ w3 ⟨rfl, rfl⟩
            go_wp2_with fail
            refine (line_below a (i : Int) _).mono ?_
            rintro _ w3 ⟨rfl, rfl⟩
            rw [decide_eq_false ha]
            go_wp2_with fail
            go_ret
            exact ⟨rfl, bb hb0 b2⟩
        · rw [fn h2 h1 har]
          clear fa fb fn
          rw [har] at AR
          clear har
          go_enter Tryz.func96, Tryz.ntmps96
          go_wp2_with fail
          rw [HW.out]
          obtain ⟨k0, k1, k2, k3, k4, k5⟩ := HS.out V (Below.refl _ V)
          go_wp2_with fail
          refine (HE.out V (Below.refl _ V)).mono ?_
          rintro _ w2 ⟨rfl, b2⟩
          clear k0 k1 k2 k3 k4 k5
          obtain ⟨k0, k1, k2, k3, k4, k5⟩ := HS.out w2 b2
          go_wp2_with fail
          refine ((AR _).out).mono ?_
          rintro _ w3 ⟨rfl, rfl⟩
          go_wp2_with fail
          go_ret
          exact ⟨rfl, bb hb0 b2⟩

set_option maxRecDepth 100000 in
set_option maxHeartbeats 8000000 in
theorem ref_fits {w : World} {x : RI} (hx : x.ok w) {N : Nat} (hn : x.q.n ≤ N) (hn' : x.q.n' ≤ N) (hN : N ≤ 1000) (i : Nat) :
    Calls Tryz.prog 75 #[.agg #[.int .i64 x.op, .int .i64 x.a, .int .i64 x.b, .bool x.q.s, .slice x.q.A x.q.n x.q.c, .slice x.q.A' x.q.n' x.q.c'], .int .i64 (i : Int)] w (RetBl (fitsB x.pi i) w) := by
  obtain ⟨op, a, b, q⟩ := x
  obtain ⟨_, _, _, hq⟩ := hx
  simp only at hn hn' hq
  show Calls _ _ #[.agg #[.int .i64 op, .int .i64 a, .int .i64 b, .bool q.s, .slice q.A q.n q.c, .slice q.A' q.n' q.c'], .int .i64 (i : Int)] w (RetBl (fitsB ⟨op, a, b, (q.s, q.z, q.z')⟩ i) w)
  obtain ⟨V, hW, Ba, hb0⟩ := box0 52 w #[.int .i64 op, .int .i64 a, .int .i64 b, .bool q.s, .slice q.A q.n q.c, .slice q.A' q.n' q.c']
  have R := ref_ratRight (s := q.s) (hq.1.below hb0) (hq.2.1.below hb0) hn hn' hN
  have E := fun (w1 : World) (hb : Below V.heap.size V w1) => ref_none (RQ.below hq (bb hb0 hb)) (Nat.le_trans hn hN) (Nat.le_trans hn' hN)
  have AR := fun (w1 : World) => Lib.hid (ref_arity op w1)
  have hS : ∀ w', Below V.heap.size V w' → w'.cell? ⟨w.heap.size, 0, none⟩ = some (.int .i64 op) ∧ w'.cell? ⟨w.heap.size, 1, none⟩ = some (.int .i64 a) ∧ w'.cell? ⟨w.heap.size, 2, none⟩ = some (.int .i64 b) ∧ w'.cell? ⟨w.heap.size, 3, none⟩ = some (.bool q.s) ∧ w'.cell? ⟨w.heap.size, 4, none⟩ = some (.slice q.A q.n q.c) ∧ w'.cell? ⟨w.heap.size, 5, none⟩ = some (.slice q.A' q.n' q.c') := fun w' hb => (Ba.below' hb).six.1
  have hv : rightB q.s q.z q.z' = vq (q.s, q.z, q.z') := rfl
  rw [hv] at R
  obtain ⟨s, A, n, c, z, A', n', c', z'⟩ := q
  simp only at R E hS hW ⊢
  have f2 := @fits_const a b (s, z, z') i
  have f0 := fun h2 h => @fits_full op a b (s, z, z') i h2 h
  have f1 := fun h => @fits_input a b (s, z, z') i h
  have fa := fun h2 h1 ha h => @fits_one op a b (s, z, z') i h2 h1 ha h
  have fb := fun h2 h1 ha h => @fits_two op a b (s, z, z') i h2 h1 ha h
  have fn := fun h2 h1 ha => @fits_none op a b (s, z, z') i h2 h1 ha
  generalize vq (s, z, z') = v at *
  generalize nq (s, z, z') = u at *
  have HR := Lib.hid R
  have HE := Lib.hid E
  have HS := Lib.hid hS
  have HW := Lib.hid hW
  clear R E hS hW Ba hq hn hn' hN hv
  by_cases h2 : op = 2
  · subst h2
    clear f0 fa fb fn f1 HE AR
    by_cases ha : a = 0
    · subst ha
      by_cases hb : b = 0
      · subst hb
        rw [f2, decide_eq_true (rfl : (0 : Int) = 0), Bool.true_and, Bool.true_and]
        clear f2
        go_enter Tryz.func75, Tryz.ntmps75
        go_wp2_with fail
        rw [HW.out]
        obtain ⟨k0, k1, k2, k3, k4, k5⟩ := HS.out V (Below.refl _ V)
        go_wp2_with fail
        refine HR.out.mono ?_
        rintro _ w2 ⟨rfl, b2⟩
        go_wp2_with fail
        go_ret
        exact ⟨rfl, bb hb0 b2⟩
      · have e1 : (b == 0) = false := by simpa using hb
        rw [f2, decide_eq_false hb, Bool.false_and, Bool.and_false]
        clear f2 HR
        go_enter Tryz.func75, Tryz.ntmps75
        go_wp2_with fail
        rw [HW.out]
        obtain ⟨k0, k1, k2, k3, k4, k5⟩ := HS.out V (Below.refl _ V)
        go_wp2_with fail
        go_ret
        exact ⟨rfl, hb0⟩
    · have e1 : (a == 0) = false := by simpa using ha
      rw [f2, decide_eq_false ha, Bool.false_and]
      clear f2 HR
      go_enter Tryz.func75, Tryz.ntmps75
      go_wp2_with fail
      rw [HW.out]
      obtain ⟨k0, k1, k2, k3, k4, k5⟩ := HS.out V (Below.refl _ V)
      go_wp2_with fail
      go_ret
      exact ⟨rfl, hb0⟩
  · clear f2 HR
    have e2 : (op == 2) = false := by simpa using h2
    cases u
    case false =>
      rw [f0 h2 rfl]
      clear f0 fa fb fn f1 AR
      go_enter Tryz.func75, Tryz.ntmps75
      go_wp2_with fail
      rw [HW.out]
      obtain ⟨k0, k1, k2, k3, k4, k5⟩ := HS.out V (Below.refl _ V)
      go_wp2_with fail
      refine (HE.out V (Below.refl _ V)).mono ?_
      rintro _ w2 ⟨rfl, b2⟩
      clear k0 k1 k2 k3 k4 k5
      obtain ⟨k0, k1, k2, k3, k4, k5⟩ := HS.out w2 b2
      go_wp2_with fail
      go_ret
      exact ⟨rfl, bb hb0 b2⟩
    case true =>
      clear f0
      by_cases h1 : op = 1
      · subst h1
        rw [f1 rfl]
        clear f1 fa fb fn AR
        by_cases ha : 0 ≤ a ∧ a < 65536
        · rw [decide_eq_true ha, Bool.true_and]
          by_cases hb : b = 0
          · subst hb
            rw [decide_eq_true (rfl : (0 : Int) = 0)]
            obtain ⟨ha1, ha2⟩ := ha
            go_enter Tryz.func75, Tryz.ntmps75
            go_wp2_with fail
            rw [HW.out]
            obtain ⟨k0, k1, k2, k3, k4, k5⟩ := HS.out V (Below.refl _ V)
            go_wp2_with fail
            refine (HE.out V (Below.refl _ V)).mono ?_
            rintro _ w2 ⟨rfl, b2⟩
            clear k0 k1 k2 k3 k4 k5
            obtain ⟨k0, k1, k2, k3, k4, k5⟩ := HS.out w2 b2
            go_wp2_with fail
            go_ret
            exact ⟨rfl, bb hb0 b2⟩
          · have e1 : (b == 0) = false := by simpa using hb
            rw [decide_eq_false hb]
            obtain ⟨ha1, ha2⟩ := ha
            go_enter Tryz.func75, Tryz.ntmps75
            go_wp2_with fail
            rw [HW.out]
            obtain ⟨k0, k1, k2, k3, k4, k5⟩ := HS.out V (Below.refl _ V)
            go_wp2_with fail
            refine (HE.out V (Below.refl _ V)).mono ?_
            rintro _ w2 ⟨rfl, b2⟩
            clear k0 k1 k2 k3 k4 k5
            obtain ⟨k0, k1, k2, k3, k4, k5⟩ := HS.out w2 b2
            go_wp2_with fail
            go_ret
            exact ⟨rfl, bb hb0 b2⟩
        · rw [decide_eq_false ha, Bool.false_and]
          have ha3 : a < 0 ∨ (0 ≤ a ∧ (65536 : Int) ≤ a) := by omega
          rcases ha3 with ha3 | ⟨ha3, ha4⟩
          · have e5 : decide (0 ≤ a) = false := decide_eq_false (by omega)
            go_enter Tryz.func75, Tryz.ntmps75
            go_wp2_with fail
            rw [HW.out]
            obtain ⟨k0, k1, k2, k3, k4, k5⟩ := HS.out V (Below.refl _ V)
            go_wp2_with fail
            refine (HE.out V (Below.refl _ V)).mono ?_
            rintro _ w2 ⟨rfl, b2⟩
            clear k0 k1 k2 k3 k4 k5
            obtain ⟨k0, k1, k2, k3, k4, k5⟩ := HS.out w2 b2
            go_wp2_with fail
            go_ret
            exact ⟨rfl, bb hb0 b2⟩
          · have e5 : decide (a < (65536 : Int)) = false := decide_eq_false (by omega)
            go_enter Tryz.func75, Tryz.ntmps75
            go_wp2_with fail
            rw [HW.out]
            obtain ⟨k0, k1, k2, k3, k4, k5⟩ := HS.out V (Below.refl _ V)
            go_wp2_with fail
            refine (HE.out V (Below.refl _ V)).mono ?_
            rintro _ w2 ⟨rfl, b2⟩
            clear k0 k1 k2 k3 k4 k5
            obtain ⟨k0, k1, k2, k3, k4, k5⟩ := HS.out w2 b2
            go_wp2_with fail
            go_ret
            exact ⟨rfl, bb hb0 b2⟩
      · have e1 : (op == 1) = false := by simpa using h1
        clear f1
        rcases ar_op h2 h1 with har | har | har
        · rw [fa h2 h1 har rfl]
          clear fa fb fn
          rw [har] at AR
          clear har
          by_cases ha : 0 ≤ a ∧ a < (i : Int)
          · rw [decide_eq_true ha, Bool.true_and]
            by_cases hb : b = 0
            · subst hb
              rw [decide_eq_true (rfl : (0 : Int) = 0)]
              obtain ⟨ha1, ha2⟩ := ha
              go_enter Tryz.func75, Tryz.ntmps75
              go_wp2_with fail
              rw [HW.out]
              obtain ⟨k0, k1, k2, k3, k4, k5⟩ := HS.out V (Below.refl _ V)
              go_wp2_with fail
              refine (HE.out V (Below.refl _ V)).mono ?_
              rintro _ w2 ⟨rfl, b2⟩
              clear k0 k1 k2 k3 k4 k5
              obtain ⟨k0, k1, k2, k3, k4, k5⟩ := HS.out w2 b2
              go_wp2_with fail
              refine ((AR _).out).mono ?_
              rintro _ w3 ⟨rfl, rfl⟩
              go_wp2_with fail
              go_ret
              exact ⟨rfl, bb hb0 b2⟩
            · have e1 : (b == 0) = false := by simpa using hb
              rw [decide_eq_false hb]
              obtain ⟨ha1, ha2⟩ := ha
              go_enter Tryz.func75, Tryz.ntmps75
              go_wp2_with fail
              rw [HW.out]
              obtain ⟨k0, k1, k2, k3, k4, k5⟩ := HS.out V (Below.refl _ V)
              go_wp2_with fail
              refine (HE.out V (Below.refl _ V)).mono ?_
              rintro _ w2 ⟨rfl, b2⟩
              clear k0 k1 k2 k3 k4 k5
              obtain ⟨k0, k1, k2, k3, k4, k5⟩ := HS.out w2 b2
              go_wp2_with fail
              refine ((AR _).out).mono ?_
              rintro _ w3 ⟨rfl, rfl⟩
              go_wp2_with fail
              go_ret
              exact ⟨rfl, bb hb0 b2⟩
          · rw [decide_eq_false ha, Bool.false_and]
            have ha3 : a < 0 ∨ (0 ≤ a ∧ (i : Int) ≤ a) := by omega
            rcases ha3 with ha3 | ⟨ha3, ha4⟩
            · have e5 : decide (0 ≤ a) = false := decide_eq_false (by omega)
              go_enter Tryz.func75, Tryz.ntmps75
              go_wp2_with fail
              rw [HW.out]
              obtain ⟨k0, k1, k2, k3, k4, k5⟩ := HS.out V (Below.refl _ V)
              go_wp2_with fail
              refine (HE.out V (Below.refl _ V)).mono ?_
              rintro _ w2 ⟨rfl, b2⟩
              clear k0 k1 k2 k3 k4 k5
              obtain ⟨k0, k1, k2, k3, k4, k5⟩ := HS.out w2 b2
              go_wp2_with fail
              refine ((AR _).out).mono ?_
              rintro _ w3 ⟨rfl, rfl⟩
              go_wp2_with fail
              go_ret
              exact ⟨rfl, bb hb0 b2⟩
            · have e5 : decide (a < (i : Int)) = false := decide_eq_false (by omega)
              go_enter Tryz.func75, Tryz.ntmps75
              go_wp2_with fail
              rw [HW.out]
              obtain ⟨k0, k1, k2, k3, k4, k5⟩ := HS.out V (Below.refl _ V)
              go_wp2_with fail
              refine (HE.out V (Below.refl _ V)).mono ?_
              rintro _ w2 ⟨rfl, b2⟩
              clear k0 k1 k2 k3 k4 k5
              obtain ⟨k0, k1, k2, k3, k4, k5⟩ := HS.out w2 b2
              go_wp2_with fail
              refine ((AR _).out).mono ?_
              rintro _ w3 ⟨rfl, rfl⟩
              go_wp2_with fail
              go_ret
              exact ⟨rfl, bb hb0 b2⟩
        · rw [fb h2 h1 har rfl]
          clear fa fb fn
          rw [har] at AR
          clear har
          by_cases ha : 0 ≤ a ∧ a < (i : Int)
          · rw [decide_eq_true ha, Bool.true_and]
            by_cases hb : 0 ≤ b ∧ b < (i : Int)
            · rw [decide_eq_true hb]
              obtain ⟨ha1, ha2⟩ := ha
              obtain ⟨hb1, hb2⟩ := hb
              go_enter Tryz.func75, Tryz.ntmps75
              go_wp2_with fail
              rw [HW.out]
              obtain ⟨k0, k1, k2, k3, k4, k5⟩ := HS.out V (Below.refl _ V)
              go_wp2_with fail
              refine (HE.out V (Below.refl _ V)).mono ?_
              rintro _ w2 ⟨rfl, b2⟩
              clear k0 k1 k2 k3 k4 k5
              obtain ⟨k0, k1, k2, k3, k4, k5⟩ := HS.out w2 b2
              go_wp2_with fail
              refine ((AR _).out).mono ?_
              rintro _ w3 ⟨rfl, rfl⟩
              go_wp2_with fail
              refine ((AR _).out).mono ?_
              rintro _ w3 ⟨rfl, rfl⟩
              go_wp2_with fail
              go_ret
              exact ⟨rfl, bb hb0 b2⟩
            · rw [decide_eq_false hb]
              obtain ⟨ha1, ha2⟩ := ha
              have hb3 : b < 0 ∨ (0 ≤ b ∧ (i : Int) ≤ b) := by omega
              rcases hb3 with hb3 | ⟨hb3, hb4⟩
              · have e5 : decide (0 ≤ b) = false := decide_eq_false (by omega)
                go_enter Tryz.func75, Tryz.ntmps75
                go_wp2_with fail
                rw [HW.out]
                obtain ⟨k0, k1, k2, k3, k4, k5⟩ := HS.out V (Below.refl _ V)
                go_wp2_with fail
                refine (HE.out V (Below.refl _ V)).mono ?_
                rintro _ w2 ⟨rfl, b2⟩
                clear k0 k1 k2 k3 k4 k5
                obtain ⟨k0, k1, k2, k3, k4, k5⟩ := HS.out w2 b2
                go_wp2_with fail
                refine ((AR _).out).mono ?_
                rintro _ w3 ⟨rfl, rfl⟩
                go_wp2_with fail
                refine ((AR _).out).mono ?_
                rintro _ w3 ⟨rfl, rfl⟩
                go_wp2_with fail
                go_ret
                exact ⟨rfl, bb hb0 b2⟩
              · have e5 : decide (b < (i : Int)) = false := decide_eq_false (by omega)
                go_enter Tryz.func75, Tryz.ntmps75
                go_wp2_with fail
                rw [HW.out]
                obtain ⟨k0, k1, k2, k3, k4, k5⟩ := HS.out V (Below.refl _ V)
                go_wp2_with fail
                refine (HE.out V (Below.refl _ V)).mono ?_
                rintro _ w2 ⟨rfl, b2⟩
                clear k0 k1 k2 k3 k4 k5
                obtain ⟨k0, k1, k2, k3, k4, k5⟩ := HS.out w2 b2
                go_wp2_with fail
                refine ((AR _).out).mono ?_
                rintro _ w3 ⟨rfl, rfl⟩
                go_wp2_with fail
                refine ((AR _).out).mono ?_
                rintro _ w3 ⟨rfl, rfl⟩
                go_wp2_with fail
                go_ret
                exact ⟨rfl, bb hb0 b2⟩
          · rw [decide_eq_false ha, Bool.false_and]
            have ha3 : a < 0 ∨ (0 ≤ a ∧ (i : Int) ≤ a) := by omega
            rcases ha3 with ha3 | ⟨ha3, ha4⟩
            · have e5 : decide (0 ≤ a) = false := decide_eq_false (by omega)
              go_enter Tryz.func75, Tryz.ntmps75
              go_wp2_with fail
              rw [HW.out]
              obtain ⟨k0, k1, k2, k3, k4, k5⟩ := HS.out V (Below.refl _ V)
              go_wp2_with fail
              refine (HE.out V (Below.refl _ V)).mono ?_
              rintro _ w2 ⟨rfl, b2⟩
              clear k0 k1 k2 k3 k4 k5
              obtain ⟨k0, k1, k2, k3, k4, k5⟩ := HS.out w2 b2
              go_wp2_with fail
              refine ((AR _).out).mono ?_
              rintro _ w3 ⟨rfl, rfl⟩
              go_wp2_with fail
              refine ((AR _).out).mono ?_
              rintro _ w3 ⟨rfl, rfl⟩
              go_wp2_with fail
              go_ret
              exact ⟨rfl, bb hb0 b2⟩
            · have e5 : decide (a < (i : Int)) = false := decide_eq_false (by omega)
              go_enter Tryz.func75, Tryz.ntmps75
              go_wp2_with fail
              rw [HW.out]
              obtain ⟨k0, k1, k2, k3, k4, k5⟩ := HS.out V (Below.refl _ V)
              go_wp2_with fail
              refine (HE.out V (Below.refl _ V)).mono ?_
              rintro _ w2 ⟨rfl, b2⟩
              clear k0 k1 k2 k3 k4 k5
              obtain ⟨k0, k1, k2, k3, k4, k5⟩ := HS.out w2 b2
              go_wp2_with fail
              refine ((AR _).out).mono ?_
              rintro _ w3 ⟨rfl, rfl⟩
              go_wp2_with fail
              refine ((AR _).out).mono ?_
              rintro _ w3 ⟨rfl, rfl⟩
              go_wp2_with fail
              go_ret
              exact ⟨rfl, bb hb0 b2⟩
        · rw [fn h2 h1 har]
          clear fa fb fn
          rw [har] at AR
          clear har
          go_enter Tryz.func75, Tryz.ntmps75
          go_wp2_with fail
          rw [HW.out]
          obtain ⟨k0, k1, k2, k3, k4, k5⟩ := HS.out V (Below.refl _ V)
          go_wp2_with fail
          refine (HE.out V (Below.refl _ V)).mono ?_
          rintro _ w2 ⟨rfl, b2⟩
          clear k0 k1 k2 k3 k4 k5
          obtain ⟨k0, k1, k2, k3, k4, k5⟩ := HS.out w2 b2
          go_wp2_with fail
          refine ((AR _).out).mono ?_
          rintro _ w3 ⟨rfl, rfl⟩
          go_wp2_with fail
          refine ((AR _).out).mono ?_
          rintro _ w3 ⟨rfl, rfl⟩
          go_wp2_with fail
          go_ret
          exact ⟨rfl, bb hb0 b2⟩

set_option maxHeartbeats 2000000 in
theorem line_right {w : World} {A : Option Addr} {n c N : Nat} {xs : List RI} (h : SlP w A n c xs) (hs : Shrt N xs) (hN : N ≤ 1000) (hn : n ≤ 65536) :
    Calls Tryz.prog 59 #[.slice A n c] w (RetBl (progB (xs.map RI.pi)) w) := by
  have hlen : (xs.map RI.pi).length = n := by rw [List.length_map]; exact h.1.1
  go_enter Tryz.func59, Tryz.ntmps59
  go_wp2_with fail
  go_loopw [10] (fun iv wr => ∃ k : Nat, k ≤ n ∧ iv = .int .i64 k ∧ Below w.heap.size w wr ∧ Hid (∀ i, i < k → fits vq nq ((xs.map RI.pi).getD i PI.nil) i)) (fun iv _ => n - mes iv)
  case atStart => exact ⟨0, by omega, rfl, Below.refl _ _, Lib.hid (fun i hi => absurd hi (by omega))⟩
  case round =>
    obtain ⟨k, hk, rfl, hb, HF⟩ := hrel
    by_cases hk2 : k < n
    · obtain ⟨b0, off, x, rfl, hlt, hxk, hok, c0, c1, c2, c3, c4, c5⟩ := (h.below hb).at_ hk2
      obtain ⟨hx1, hx2⟩ := hs x (mem_at hxk)
      have hp := pi_at hxk
      have F := fun (w1 : World) (hb1 : Below wr.heap.size wr w1) => line_fits (RI.below hok hb1) hx1 hx2 hN k
      have hfi := fitsB_iff x.pi k
      generalize fitsB x.pi k = r at F hfi
      rw [← hp] at hfi
      have HX := Lib.hid F
      clear F hp hok hx1 hx2
      cases r
      case false =>
        have hno : progB (xs.map RI.pi) = false := progB_false fun hh => by
          have := hfi.2 (hh.1 k (by omega))
          cases this
        rw [hno]
        clear hno hfi
        go_wp2_with fail
        refine (HX.out _ (below_alloc _ _)).mono ?_
        rintro _ w2 ⟨rfl, b2⟩
        go_wp2_with fail
        go_ret
        exact ⟨rfl, bb (hb.alloc hb.size _) b2⟩
      case true =>
        have hyes := hfi.1 rfl
        have HY := Lib.hid hyes
        clear hfi hyes
        go_wp2_with fail
        refine (HX.out _ (below_alloc _ _)).mono ?_
        rintro _ w2 ⟨rfl, b2⟩
        go_wp2_with fail
        go_roundw
        case rel => exact ⟨k + 1, by omega, by go_num, bb (hb.alloc hb.size _) b2, Lib.hid (fun i hi => by
          rcases Nat.lt_or_eq_of_le (Nat.le_of_lt_succ hi) with h9 | h9
          · exact HF.out i h9
          · rw [h9]; exact HY.out)⟩
        case measure => simp [mes, intOf]; omega
    · obtain rfl : k = n := by omega
      have hyes : progB (xs.map RI.pi) = true := (progB_iff _).2 ⟨fun i hi => HF.out i (by omega), by omega⟩
      go_wp2_with fail
      go_ret
      exact ⟨by rw [hyes]; rfl, hb⟩

set_option maxHeartbeats 2000000 in
theorem ref_right15 {w : World} {A : Option Addr} {n c N : Nat} {xs : List RI} (h : SlP w A n c xs) (hs : Shrt N xs) (hN : N ≤ 1000) (hn : n ≤ 65536) :
    Calls Tryz.prog 38 #[.slice A n c] w (RetBl (progB (xs.map RI.pi)) w) := by
  have hlen : (xs.map RI.pi).length = n := by rw [List.length_map]; exact h.1.1
  go_enter Tryz.func38, Tryz.ntmps38
  go_wp2_with fail
  go_loopw [6] (fun iv wr => ∃ k : Nat, k ≤ n ∧ iv = .int .i64 k ∧ Below w.heap.size w wr ∧ Hid (∀ i, i < k → fits vq nq ((xs.map RI.pi).getD i PI.nil) i)) (fun iv _ => n - mes iv)
  case atStart => exact ⟨0, by omega, rfl, Below.refl _ _, Lib.hid (fun i hi => absurd hi (by omega))⟩
  case round =>
    obtain ⟨k, hk, rfl, hb, HF⟩ := hrel
    by_cases hk2 : k < n
    · obtain ⟨b0, off, x, rfl, hlt, hxk, hok, c0, c1, c2, c3, c4, c5⟩ := (h.below hb).at_ hk2
      obtain ⟨hx1, hx2⟩ := hs x (mem_at hxk)
      have hp := pi_at hxk
      have F := fun (w1 : World) (hb1 : Below wr.heap.size wr w1) => ref_fits (RI.below hok hb1) hx1 hx2 hN k
      have hfi := fitsB_iff x.pi k
      generalize fitsB x.pi k = r at F hfi
      rw [← hp] at hfi
      have HX := Lib.hid F
      clear F hp hok hx1 hx2
      cases r
      case false =>
        have hno : progB (xs.map RI.pi) = false := progB_false fun hh => by
          have := hfi.2 (hh.1 k (by omega))
          cases this
        rw [hno]
        clear hno hfi
        go_wp2_with fail
        refine (HX.out _ (Below.refl _ _)).mono ?_
        rintro _ w2 ⟨rfl, b2⟩
        go_wp2_with fail
        go_ret
        exact ⟨rfl, bb hb b2⟩
      case true =>
        have hyes := hfi.1 rfl
        have HY := Lib.hid hyes
        clear hfi hyes
        go_wp2_with fail
        refine (HX.out _ (Below.refl _ _)).mono ?_
        rintro _ w2 ⟨rfl, b2⟩
        go_wp2_with fail
        go_roundw
        case rel => exact ⟨k + 1, by omega, by go_num, bb hb b2, Lib.hid (fun i hi => by
          rcases Nat.lt_or_eq_of_le (Nat.le_of_lt_succ hi) with h9 | h9
          · exact HF.out i h9
          · rw [h9]; exact HY.out)⟩
        case measure => simp [mes, intOf]; omega
    · obtain rfl : k = n := by omega
      have hyes : progB (xs.map RI.pi) = true := (progB_iff _).2 ⟨fun i hi => HF.out i (by omega), by omega⟩
      go_wp2_with fail
      go_ret
      exact ⟨by rw [hyes]; simp; omega, hb⟩

end Go.Proofs.YtfhihapgjiaobaaGreat

namespace Go.Proofs.YtfhihapgjiaobaaGreat
set_option maxRecDepth 100000
open Go.RowKit
set_option linter.unusedVariables false
set_option linter.unusedSimpArgs false

/-- an exact number as it lies reads as X -/
def RQ.is (w : World) (x : RQ) (X : Rat) : Prop := Q w x.s x.A x.n x.c x.A' x.n' x.c' X
def allR (xs : List RQ) : Bool := xs.all fun x => rightB x.s x.z x.z'
/-- a slice of exact numbers that read as Xs -/
def SlQ (w : World) (A : Option Addr) (n c : Nat) (Xs : List Rat) : Prop := ∃ xs : List RQ, SlR w A n c xs ∧ xs.length = Xs.length ∧ ∀ (j : Nat) (x : RQ), xs[j]? = some x → x.is w (Xs.getD j 0)
theorem SlQ.below {w w' : World} {A : Option Addr} {n c : Nat} {Xs : List Rat} (h : SlQ w A n c Xs) (hb : Below w.heap.size w w') : SlQ w' A n c Xs := by
  obtain ⟨xs, h1, h2, h3⟩ := h
  exact ⟨xs, h1.below hb, h2, fun j x hx => (h3 j x hx).below hb⟩
theorem SlQ.len {w : World} {A : Option Addr} {n c : Nat} {Xs : List Rat} (h : SlQ w A n c Xs) : n = Xs.length := by
  obtain ⟨xs, h1, h2, _⟩ := h
  rw [← h2]; exact h1.1.1.symm
theorem SlQ.at_ {w : World} {A : Option Addr} {n c : Nat} {Xs : List Rat} (h : SlQ w A n c Xs) {j : Nat} (hj : j < n) : ∃ b off s A1 n1 c1 A2 n2 c2, A = some ⟨b, off, none⟩ ∧ b < w.heap.size ∧
    w.cell? ⟨b, off + j * 3, none⟩ = some (.bool s) ∧ w.cell? ⟨b, off + j * 3 + 1, none⟩ = some (.slice A1 n1 c1) ∧ w.cell? ⟨b, off + j * 3 + 2, none⟩ = some (.slice A2 n2 c2) ∧ Q w s A1 n1 c1 A2 n2 c2 (Xs.getD j 0) := by
  obtain ⟨xs, h1, h2, h3⟩ := h
  obtain ⟨b, off, x, e, hlt, hx, hok, c0, c1, c2⟩ := h1.at_ hj
  exact ⟨b, off, x.s, x.A, x.n, x.c, x.A', x.n', x.c', e, hlt, c0, c1, c2, h3 j x hx⟩
theorem SlQ.nil (w : World) : SlQ w none 0 0 [] := ⟨[], ⟨⟨rfl, Nat.le_refl _, by unfold maxLen; omega, by simp⟩, fun h0 => absurd h0 (by omega)⟩, rfl, fun j x hx => by simp at hx⟩
/-- a row of exact numbers that the call made -/
def OwnQ (B : Nat) (w : World) (v : Value) (Xs : List Rat) : Prop := ∃ xs : List RQ, OwnC 3 RQ.cells 45 B w v xs ∧ xs.length = Xs.length ∧ ∀ (j : Nat) (x : RQ), xs[j]? = some x → x.ok w ∧ x.is w (Xs.getD j 0)
theorem OwnQ.slq {B : Nat} {w : World} {A : Option Addr} {n c : Nat} {Xs : List Rat} (h : OwnQ B w (.slice A n c) Xs) : SlQ w A n c Xs := by
  obtain ⟨xs, h1, h2, h3⟩ := h
  refine ⟨xs, h1.slc (fun x hx => ?_), h2, fun j x hx => (h3 j x hx).2⟩
  obtain ⟨j, hj⟩ := List.mem_iff_getElem?.1 hx
  exact (h3 j x hj).1
theorem OwnQ.form {B : Nat} {w : World} {v : Value} {Xs : List Rat} (h : OwnQ B w v Xs) : ∃ A c, v = .slice A Xs.length c := by
  obtain ⟨xs, h1, h2, _⟩ := h
  obtain ⟨A, c, e, _⟩ := h1.form
  exact ⟨A, c, by rw [e, h2]⟩
theorem OwnQ.below {B : Nat} {w w' : World} {v : Value} {Xs : List Rat} (h : OwnQ B w v Xs) (hb : Below w.heap.size w w') : OwnQ B w' v Xs := by
  obtain ⟨xs, h1, h2, h3⟩ := h
  exact ⟨xs, h1.below hb, h2, fun j x hx => ⟨RQ.below (h3 j x hx).1 hb, (h3 j x hx).2.below hb⟩⟩
theorem Q.grownC {w w1 : World} {r : Option Nat} {s : Bool} {A A' : Option Addr} {n c n' c' : Nat} {X : Rat} (h : Q w s A n c A' n' c' X) (hg : w.grownBy w1 r) (hr : ∀ g, r = some g → NoWAt w g) : Q w1 s A n c A' n' c' X := ⟨h.1, h.2.1.grownC hg hr, h.2.2.grownC hg hr⟩
theorem NoW_bool (b : Bool) : NoW (.bool b) := fun x h => by cases h
theorem NoW_slice (A : Option Addr) (n c : Nat) : NoW (.slice A n c) := fun x h => by cases h
theorem NoW_i64 (z : Int) : NoW (.int .i64 z) := fun x h => by injection h with h; cases h
theorem rq_noW (x : RQ) : ∀ u ∈ x.cells, NoW u := by
  intro u hu
  unfold RQ.cells at hu
  simp only [List.mem_cons, List.not_mem_nil, or_false] at hu
  rcases hu with rfl | rfl | rfl
  · exact NoW_bool _
  · exact NoW_slice _ _ _
  · exact NoW_slice _ _ _
theorem rq_one (x : RQ) : ∀ u ∈ x.cells, u.oneCell' = true := by
  intro u hu
  unfold RQ.cells at hu
  simp only [List.mem_cons, List.not_mem_nil, or_false] at hu
  rcases hu with rfl | rfl | rfl <;> rfl
theorem infoQ : (Tryz.prog.info? 45).map (fun i => (i.zero, i.size, i.bytes)) = some (some (.agg #[.bool false, .slice none 0 0, .slice none 0 0]), 3, 56) := by kernel_rfl
theorem zeroQ : ∀ u ∈ (Value.agg #[.bool false, .slice none 0 0, .slice none 0 0]).cells.toList, NoW u := by
  intro u hu
  have e : (Value.agg #[.bool false, .slice none 0 0, .slice none 0 0]).cells.toList = [.bool false, .slice none 0 0, .slice none 0 0] := rfl
  rw [e] at hu
  simp only [List.mem_cons, List.not_mem_nil, or_false] at hu
  rcases hu with rfl | rfl | rfl
  · exact NoW_bool _
  · exact NoW_slice _ _ _
  · exact NoW_slice _ _ _
/-- append of an exact number -/
theorem OwnQ.append {B : Nat} {w w' : World} {v v' : Value} {Xs : List Rat} {xs : List RQ} {x : RQ} {X : Rat} {o : Obj} (h1 : OwnC 3 RQ.cells 45 B w v xs) (h2 : xs.length = Xs.length) (h3 : ∀ (j : Nat) (x : RQ), xs[j]? = some x → x.ok w ∧ x.is w (Xs.getD j 0))
    (hx : x.ok w) (hX : x.is w X) (ho : OwnC 3 RQ.cells 45 B w' v' (xs ++ [x])) (hg : (w.alloc o).grownBy w' v.ownBlock) : OwnQ B w' v' (Xs ++ [X]) := by
  have ba := below_alloc w o
  have hn := (h1.below ba).noW
  refine ⟨xs ++ [x], ho, by simp [h2], fun j y hy => ?_⟩
  rcases Nat.lt_or_ge j xs.length with hj | hj
  · rw [List.getElem?_append_left hj] at hy
    obtain ⟨g1, g2⟩ := h3 j y hy
    rw [getD_app_left Xs [X] (by omega)]
    exact ⟨RQ.grownC (RQ.below g1 ba) hg hn, Q.grownC (g2.below ba) hg hn⟩
  · have hj2 : j = xs.length := by
      rw [List.getElem?_append_right hj] at hy
      rcases Nat.eq_zero_or_pos (j - xs.length) with h0 | h0
      · omega
      · rw [List.getElem?_eq_none (by simp; omega)] at hy; cases hy
    subst hj2
    rw [List.getElem?_append_right (Nat.le_refl _), Nat.sub_self] at hy
    have e : x = y := by simpa using hy
    subst e
    rw [getD_app_end Xs X h2.symm]
    exact ⟨RQ.grownC (RQ.below hx ba) hg hn, Q.grownC (hX.below ba) hg hn⟩
/-- make([]T, 0, n) -/
theorem make_C {V : Type} {k : Nat} {cells : V → List Value} (t e : TypeId) (z : Value) (bytes : Nat) (ht : Tryz.prog.underlying t = some (.slice e)) (hi : (Tryz.prog.info? e).map (fun i => (i.zero, i.size, i.bytes)) = some (some z, k, bytes)) (hzw : ∀ u ∈ z.cells.toList, NoW u) (hzs : z.cells.size = k) (hk : 0 < k)
    (w : World) (n : Nat) (hn : n ≤ 1000000) (hby : bytes ≤ 1000) : ∃ w1, (Instr.makeSlice t (.int .i64 0) (.int .i64 (n : Int))).run Tryz.prog w = .ok (.slice (some ⟨w.heap.size, 0, none⟩) 0 n) w1 ∧ OwnC k cells e w.heap.size w1 (.slice (some ⟨w.heap.size, 0, none⟩) 0 n) [] ∧ Below w.heap.size w w1 := by
  obtain ⟨i, h1, h2, h3, h4⟩ := info_parts hi
  have hb : (i.bytes : Int) * (n : Int) ≤ 281474976710656 := by
    have : bytes * n ≤ 1000 * 1000000 := Nat.mul_le_mul hby hn
    rw [h4]
    have e2 : ((bytes * n : Nat) : Int) ≤ 1000 * 1000000 := by omega
    rw [Int.natCast_mul] at e2
    omega
  have hr := run_make (P := Tryz.prog) w t e i z ht h1 h2 .i64 .i64 0 n (by omega) (by omega) hb (by omega)
  simp only [Int.toNat_natCast, Int.toNat_zero, h3] at hr
  refine ⟨_, hr, ⟨by simp, .inr ⟨w.heap.size, n, _, rfl, Nat.le_refl _, heap_alloc_new w _, Nat.zero_le _, by unfold maxLen; omega, size_madeCells _ _, by simp, ?_⟩⟩, below_alloc _ _⟩
  intro u hu
  unfold madeCells at hu
  simp only [Array.toList_map, List.mem_map] at hu
  obtain ⟨i, _, rfl⟩ := hu
  have hlt := Nat.mod_lt i (show 0 < z.cells.size by omega)
  rw [getElem!_pos z.cells (i % z.cells.size) hlt]
  exact hzw _ (by simp)
/-- append of nothing onto nothing -/
theorem run_append_zero (w : World) (t ty e : TypeId) (i : TypeInfo) (ht : Tryz.prog.underlying t = some (.slice e)) (hi : Tryz.prog.info? e = some i) (A : Option Addr) (c : Nat) :
    (Builtin.append_ #[t, t] ty #[.slice none 0 0, .slice A 0 c]).run Tryz.prog w = .ok (.slice none 0 0) w := by
  cases A <;> simp [Builtin.append_, run_underlying ht, sizeOf, typeInfo, hi, Builtin.lenOf, Builtin.firstCells, loadCells, loadCellsFrom]
theorem wpList_append_zero (w : World) {ops : Array Oper} {rest : List Oper} {o : Oper} {a : Act} {Q : Exit → Act → World → Prop} (hgd : o.guard = none) (s x : Operand) (t : TypeId)
    (ho : o.op = .call { callee := .builtin .append, args := #[s, x], argTypes := #[t, t] }) (e : TypeId) (i : TypeInfo) (ht : Tryz.prog.underlying t = some (.slice e)) (hi : Tryz.prog.info? e = some i)
    (A : Option Addr) (c : Nat) (hs : a.eval s = .slice none 0 0) (hx : a.eval x = .slice A 0 c)
    (h : wpList Tryz.prog ops Q rest (a.put o.dst (.slice none 0 0)) w) : wpList Tryz.prog ops Q (o :: rest) a w := by
  refine wpList_plain hgd fun K hK => ?_
  unfold Oper.wp execOp
  simp only [ho, resolve, invoke, builtin, Sem.run_bind, Sem.run_pure, Result.andThen_ok, List.map_toArray, List.map_cons, List.map_nil, hs, hx, run_append_zero w t o.type e i ht hi A c]
  exact hK _ _ h

theorem ev_copied {w : World} {A : Option Addr} {n c : Nat} {xs : List Int} (h : Sl w A n c xs) (hn : n ≤ 1000000) :
    Calls Tryz.prog 125 #[.slice A n c] w (RetSl xs w) := by
  obtain ⟨i0, hi, hz0, hz1, hz2⟩ := info_parts infoW
  have hlen := h.len
  by_cases h0 : n = 0
  · subst h0
    obtain rfl : xs = [] := List.eq_nil_of_length_eq_zero hlen.symm
    clear hlen h hn
    go_enter Tryz.func125, Tryz.ntmps125
    go_wp2_with (at_builtin; refine wpList_append_zero _ rfl _ _ 43 rfl 76 i0 Tryz.underlying43 hi A c rfl rfl ?_)
    go_ret
    exact ⟨none, 0, 0, rfl, Sl.nil _ _ _, Below.refl _ _⟩
  · obtain ⟨b, off, rfl, hlt, hc⟩ := h.2 (by omega)
    have hu := h.us
    have hnews : ∀ (j : Nat) (u : Value), (vs xs)[j]? = some u → w.cell? ((⟨b, off, none⟩ : Addr).add j) = some u := by
      intro j u hj
      have hjl : j < xs.length := by
        rcases Nat.lt_or_ge j xs.length with h9 | h9
        · exact h9
        · rw [List.getElem?_eq_none (by rw [vs_length]; omega)] at hj; cases hj
      have e1 : (⟨b, off, none⟩ : Addr).add j = ⟨b, off + j, none⟩ := by
        unfold Addr.add; split
        · rename_i h9; rw [h9, Nat.add_zero]
        · rfl
      rw [e1, hc j (by omega)]
      unfold vs at hj
      rw [List.getElem?_map, List.getElem?_eq_getElem hjl] at hj
      rw [List.getD_eq_getElem?_getD, List.getElem?_eq_getElem hjl]
      exact hj
    have HN := Lib.hid hnews
    clear hnews hc
    go_enter Tryz.func125, Tryz.ntmps125
    go_wp2_with (at_builtin; refine wpList_append_own _ rfl _ _ 43 rfl w.heap.size 76 i0 (.int .u64 0) 1 8 Tryz.underlying43 hi hz0 hz1 hz2 rfl (by decide) _ _ _ rfl (World.ownsRow_nil _ _ _ _) ⟨b, off, none⟩ n c (vs xs) rfl ?c0 ?c1 ?c2 ?c3 ?c4 ?c5 ?_)
    case c0 => rw [vs_length]; omega
    case c1 => exact HN.out
    case c2 => intro u hu; unfold vs at hu; obtain ⟨z, _, rfl⟩ := List.mem_map.1 hu; rfl
    case c3 => unfold maxLen; omega
    case c4 => omega
    case c5 => exact Nat.le_refl _
    intro v' w1 hown hgrow _
    have hown2 : Own 76 w.heap.size w1 v' xs := hown
    have hb1 : Below w.heap.size w w1 := (Below.refl _ w).grown hgrow (Nat.le_refl _) (fun k e => by cases e)
    have HO := Lib.hid hown2
    clear hown hown2 hgrow
    go_wp2_with fail
    go_ret
    exact retSl_own HO.out hu hb1

set_option maxRecDepth 100000 in
set_option maxHeartbeats 4000000 in
theorem ev_clone {w : World} {s : Bool} {A A' : Option Addr} {n n' c c' N : Nat} {X : Rat} (h : Q w s A n c A' n' c' X) (hX : Sz X N) (hN : N ≤ 1000) :
    Calls Tryz.prog 98 #[.agg #[.bool s, .slice A n c, .slice A' n' c']] w (RetQ X w) := by
  obtain ⟨V, hW, Ba, Br, hb0⟩ := boxes1 45 w #[.bool s, .slice A n c, .slice A' n' c'] #[.bool false, .slice none 0 0, .slice none 0 0]
  have l1 : n ≤ N := h.2.1.small hX.1
  have l2 : n' ≤ N := h.2.2.small hX.2
  have C1 := fun w1 (hb : Below V.heap.size V w1) => ev_copied (h.2.1.below (bb hb0 hb)) (by omega)
  have C2 := fun w1 (hb : Below V.heap.size V w1) => ev_copied (h.2.2.below (bb hb0 hb)) (by omega)
  have hs := h.1
  have hS : ∀ w', Below V.heap.size V w' → w'.cell? ⟨w.heap.size, 0, none⟩ = some (.bool s) ∧ w'.cell? ⟨w.heap.size, 1, none⟩ = some (.slice A n c) ∧ w'.cell? ⟨w.heap.size, 2, none⟩ = some (.slice A' n' c') := fun w' hb => (Ba.below' hb).three.1
  have HC1 := Lib.hid C1
  have HC2 := Lib.hid C2
  have HS := Lib.hid hS
  have HBa := Lib.hid Ba
  have HBr := Lib.hid Br
  have HW := Lib.hid hW
  have HQ := Lib.hid hs
  clear C1 C2 hS Ba Br hW h hX hs
  go_enter Tryz.func98, Tryz.ntmps98
  go_wp2_with fail
  rw [HW.out]
  obtain ⟨k0, k1, k2⟩ := HS.out _ (Below.refl _ V)
  go_region_held3 (fun w' => w'.cell? ⟨w.heap.size, 0, none⟩ = some (.bool s) ∧ w'.cell? ⟨w.heap.size, 1, none⟩ = some (.slice A n c) ∧ w'.cell? ⟨w.heap.size, 2, none⟩ = some (.slice A' n' c')) (first | exact HS.out _ (Below.refl _ V).drew | exact HS4.out | exact HS.out _ x2 | exact HS.out _ x1 | fail)
    (first
      | (go_at_call 125; (with_reducible refine (HC1.out _ ?hb1).mono ?_); (case hb1 => exact (Below.refl _ V).drew); rintro _ w1 ⟨A1, n1, c1, rfl, t1, b1⟩; have x1 : Below V.heap.size V w1 := Below.undrew b1)
      | (go_at_call 125; (with_reducible refine (HC2.out _ x1).mono ?_); rintro _ w2 ⟨A2, n2, c2, rfl, t2, b2⟩; have x2 : Below V.heap.size V w2 := bb x1 b2; have HS4 := Lib.hid ((HBa.out.below' x2).put3 (show w.heap.size ≠ w.heap.size + 1 by omega) (.bool s) (.slice A1 n1 c1) (.slice A2 n2 c2)).three.1; have B9 := HBr.out.below' x2; obtain ⟨⟨r0, r1, r2⟩, f0, f1, f2⟩ := B9.three))
  all_goals
    go_wp2_with fail
    refine bodyPost_ret (v := .agg #[.bool s, .slice A1 n1 c1, .slice A2 n2 c2]) (by simp [results, Tryz.results98, go_sem, r0, r1, r2]) rfl ?_
    have q3 : Q w2 s A1 n1 c1 A2 n2 c2 X := ⟨HQ.out, t1.below b2, t2⟩
    exact ⟨_, _, _, _, _, _, _, rfl, q3.put3 ⟨_, _, _, _, _, _, _, B9⟩, below_put3 (bb hb0 x2) (by omega) (Nat.le_refl _) _ _ _⟩

set_option maxHeartbeats 2000000 in
theorem ev_allRight {w : World} {A : Option Addr} {n c N : Nat} {xs : List RQ} (h : SlR w A n c xs) (hs : ∀ x ∈ xs, x.n ≤ N ∧ x.n' ≤ N) (hN : N ≤ 1000) (hn : n ≤ 65536) :
    Calls Tryz.prog 60 #[.slice A n c] w (RetBl (allR xs) w) := by
  have hlen : xs.length = n := h.1.1
  go_enter Tryz.func60, Tryz.ntmps60
  go_wp2_with fail
  go_loopw [7] (fun iv wr => ∃ k : Nat, k ≤ n ∧ iv = .int .i64 k ∧ Below w.heap.size w wr ∧ Hid (∀ i x, i < k → xs[i]? = some x → rightB x.s x.z x.z' = true)) (fun iv _ => n - mes iv)
  case atStart => exact ⟨0, by omega, rfl, Below.refl _ _, Lib.hid (fun i x hi => absurd hi (by omega))⟩
  case round =>
    obtain ⟨k, hk, rfl, hb, HF⟩ := hrel
    by_cases hk2 : k < n
    · obtain ⟨b0, off, x, rfl, hlt, hxk, hok, c0, c1, c2⟩ := (h.below hb).at_ hk2
      obtain ⟨hx1, hx2⟩ := hs x (mem_at hxk)
      have F := fun (w1 : World) (hb1 : Below wr.heap.size wr w1) => rat_right (s := x.s) (hok.1.below hb1) (hok.2.1.below hb1) hx1 hx2 hN
      obtain ⟨r, hr⟩ : ∃ r, rightB x.s x.z x.z' = r := ⟨_, rfl⟩
      simp only [hr] at F
      have HR := Lib.hid hr
      have HX := Lib.hid F
      clear F hok hx1 hx2 hr
      cases r
      case false =>
        have hno : allR xs = false := by
          unfold allR
          rw [Bool.eq_false_iff]
          intro hh
          have := List.all_eq_true.1 hh x (mem_at hxk)
          rw [HR.out] at this
          cases this
        rw [hno]
        clear hno
        go_wp2_with fail
        refine (HX.out _ (below_alloc _ _)).mono ?_
        rintro _ w2 ⟨rfl, b2⟩
        go_wp2_with fail
        go_ret
        exact ⟨rfl, bb (hb.alloc hb.size _) b2⟩
      case true =>
        go_wp2_with fail
        refine (HX.out _ (below_alloc _ _)).mono ?_
        rintro _ w2 ⟨rfl, b2⟩
        go_wp2_with fail
        go_roundw
        case rel => exact ⟨k + 1, by omega, by go_num, bb (hb.alloc hb.size _) b2, Lib.hid (fun i y hi hy => by
          rcases Nat.lt_or_eq_of_le (Nat.le_of_lt_succ hi) with h9 | h9
          · exact HF.out i y h9 hy
          · rw [h9, hxk] at hy; cases hy; exact HR.out)⟩
        case measure => simp [mes, intOf]; omega
    · obtain rfl : k = n := by omega
      have hyes : allR xs = true := List.all_eq_true.2 fun x hx => by
        obtain ⟨j, hj⟩ := List.mem_iff_getElem?.1 hx
        have hj2 : j < xs.length := by
          rcases Nat.lt_or_ge j xs.length with h9 | h9
          · exact h9
          · rw [List.getElem?_eq_none h9] at hj; cases hj
        exact HF.out j x (by omega) hj
      go_wp2_with fail
      go_ret
      exact ⟨by rw [hyes]; rfl, hb⟩

set_option maxHeartbeats 2000000 in
theorem ref_rats {w : World} {A : Option Addr} {n c N : Nat} {xs : List RQ} (h : SlR w A n c xs) (hs : ∀ x ∈ xs, x.n ≤ N ∧ x.n' ≤ N) (hN : N ≤ 1000) (hn : n ≤ 65536) :
    Calls Tryz.prog 14 #[.slice A n c] w (RetBl (allR xs) w) := by
  have hlen : xs.length = n := h.1.1
  go_enter Tryz.func14, Tryz.ntmps14
  go_wp2_with fail
  go_loopw [6] (fun iv wr => ∃ k : Nat, k ≤ n ∧ iv = .int .i64 k ∧ Below w.heap.size w wr ∧ Hid (∀ i x, i < k → xs[i]? = some x → rightB x.s x.z x.z' = true)) (fun iv _ => n - mes iv)
  case atStart => exact ⟨0, by omega, rfl, Below.refl _ _, Lib.hid (fun i x hi => absurd hi (by omega))⟩
  case round =>
    obtain ⟨k, hk, rfl, hb, HF⟩ := hrel
    by_cases hk2 : k < n
    · obtain ⟨b0, off, x, rfl, hlt, hxk, hok, c0, c1, c2⟩ := (h.below hb).at_ hk2
      obtain ⟨hx1, hx2⟩ := hs x (mem_at hxk)
      have F := fun (w1 : World) (hb1 : Below wr.heap.size wr w1) => ref_ratRight (s := x.s) (hok.1.below hb1) (hok.2.1.below hb1) hx1 hx2 hN
      obtain ⟨r, hr⟩ : ∃ r, rightB x.s x.z x.z' = r := ⟨_, rfl⟩
      simp only [hr] at F
      have HR := Lib.hid hr
      have HX := Lib.hid F
      clear F hok hx1 hx2 hr
      cases r
      case false =>
        have hno : allR xs = false := by
          unfold allR
          rw [Bool.eq_false_iff]
          intro hh
          have := List.all_eq_true.1 hh x (mem_at hxk)
          rw [HR.out] at this
          cases this
        rw [hno]
        clear hno
        go_wp2_with fail
        refine (HX.out _ (Below.refl _ _)).mono ?_
        rintro _ w2 ⟨rfl, b2⟩
        go_wp2_with fail
        go_ret
        exact ⟨rfl, bb hb b2⟩
      case true =>
        go_wp2_with fail
        refine (HX.out _ (Below.refl _ _)).mono ?_
        rintro _ w2 ⟨rfl, b2⟩
        go_wp2_with fail
        go_roundw
        case rel => exact ⟨k + 1, by omega, by go_num, bb hb b2, Lib.hid (fun i y hi hy => by
          rcases Nat.lt_or_eq_of_le (Nat.le_of_lt_succ hi) with h9 | h9
          · exact HF.out i y h9 hy
          · rw [h9, hxk] at hy; cases hy; exact HR.out)⟩
        case measure => simp [mes, intOf]; omega
    · obtain rfl : k = n := by omega
      have hyes : allR xs = true := List.all_eq_true.2 fun x hx => by
        obtain ⟨j, hj⟩ := List.mem_iff_getElem?.1 hx
        have hj2 : j < xs.length := by
          rcases Nat.lt_or_ge j xs.length with h9 | h9
          · exact h9
          · rw [List.getElem?_eq_none h9] at hj; cases hj
        exact HF.out j x (by omega) hj
      go_wp2_with fail
      go_ret
      exact ⟨by rw [hyes]; rfl, hb⟩

def qvs (xs : List RQ) : List Rat := xs.map fun x => rq x.s (val x.z) (val x.z')
theorem slq_of {w : World} {A : Option Addr} {n c N : Nat} {xs : List RQ} (h : SlR w A n c xs) (hs : ∀ x ∈ xs, x.n ≤ N ∧ x.n' ≤ N) (ha : allR xs = true) : SlQ w A n c (qvs xs) ∧ AllSz N (qvs xs) := by
  have each : ∀ x ∈ xs, x.is w (rq x.s (val x.z) (val x.z')) ∧ Sz (rq x.s (val x.z) (val x.z')) N := by
    intro x hx
    obtain ⟨hok, _⟩ := h.1.2.2.2 x hx
    obtain ⟨X, h1, h2, h3⟩ := right_Q hok.1 hok.2.1 (hs x hx).1 (hs x hx).2 (List.all_eq_true.1 ha x hx)
    rw [← h3]
    exact ⟨h1, h2⟩
  refine ⟨⟨xs, h, by unfold qvs; simp, fun j x hx => ?_⟩, fun X hX => ?_⟩
  · have e : (qvs xs).getD j 0 = rq x.s (val x.z) (val x.z') := by
      unfold qvs
      rw [List.getD_eq_getElem?_getD, List.getElem?_map, hx]; rfl
    rw [e]
    exact (each x (mem_at hx)).1
  · unfold qvs at hX
    obtain ⟨x, hx, rfl⟩ := List.mem_map.1 hX
    exact (each x hx).2
theorem ev_element {w : World} {A : Option Addr} {n c N : Nat} {Xs : List Rat} (h : SlQ w A n c Xs) (hz : AllSz N Xs) (hN : N ≤ 1000) {i : Nat} (hi : i < n) (e : Int) (hn : n ≤ 65536) :
    Calls Tryz.prog 97 #[.slice A n c, .int .i64 (i : Int), .int .i64 e] w (RetQE (Xs.getD i 0) 0 w) := by
  obtain ⟨V, hW, Ba, hb0⟩ := box0 45 w #[.bool false, .slice none 0 0, .slice none 0 0]
  obtain ⟨b, off, s, A1, n1, c1, A2, n2, c2, rfl, hlt, k0, k1, k2, q⟩ := h.at_ hi
  have hlen := h.len
  have C := ev_clone (q.below hb0) (hz.at_ (by omega)) hN
  have HC := Lib.hid C
  have HBa := Lib.hid Ba
  have HW := Lib.hid hW
  clear C Ba hW h hz q hlen
  go_enter Tryz.func97, Tryz.ntmps97
  go_wp2_with fail
  rw [HW.out]
  refine HC.out.mono ?_
  rintro _ w1 ⟨s1, A3, n3, c3, A4, n4, c4, rfl, q3, b1⟩
  have B9 := HBa.out.below' b1
  obtain ⟨⟨r0, r1, r2⟩, f0, f1, f2⟩ := B9.three
  go_wp2_with fail
  refine bodyPost_ret (v := .tuple #[.agg #[.bool s1, .slice A3 n3 c3, .slice A4 n4 c4], .int .i64 0]) (by simp [results, Tryz.results97, go_sem, r0, r1, r2]) rfl ?_
  exact ⟨_, _, _, _, _, _, _, rfl, q3.put3 ⟨_, _, _, _, _, _, _, B9⟩, below_put3 (bb hb0 b1) (Nat.le_refl _) (Nat.le_refl _) _ _ _⟩
theorem ev_element_no {w : World} {A : Option Addr} {n c : Nat} {i : Nat} (hi : ¬ i < n) (e : Int) :
    Calls Tryz.prog 97 #[.slice A n c, .int .i64 (i : Int), .int .i64 e] w (RetNo e w) := by
  go_enter Tryz.func97, Tryz.ntmps97
  go_wp2_with fail
  refine bodyPost_ret (v := .tuple #[.agg #[.bool false, .slice none 0 0, .slice none 0 0], .int .i64 e]) (by simp [results, Tryz.results97, go_sem]) rfl ?_
  exact ⟨rfl, below_alloc _ _⟩

end Go.Proofs.YtfhihapgjiaobaaGreat
