/-
  The operands of an instruction (line.operands). No condition but that they are ints.
-/
import Derived.Test.YtibgpeaplmcogaaGreatDoorGcdLawsAllS
import Derived.Test.YtibgpeaplmcogaaGreatDoorLnMemAllS
import Derived.Laws.AppendOwn
namespace Go.Proofs.YtibgpeaplmcogaaGreatDoor
set_option maxRecDepth 100000
open Go.RowKit
set_option linter.unusedVariables false
set_option linter.unusedSimpArgs false

/-- the six cells of a box of an instruction -/
theorem Box.six {t : TypeId} {w : World} {g : Nat} {v0 v1 v2 v3 v4 v5 : Value} (h : Box t w g #[v0, v1, v2, v3, v4, v5]) :
    (w.cell? ⟨g, 0, none⟩ = some v0 ∧ w.cell? ⟨g, 1, none⟩ = some v1 ∧ w.cell? ⟨g, 2, none⟩ = some v2 ∧ w.cell? ⟨g, 3, none⟩ = some v3 ∧ w.cell? ⟨g, 4, none⟩ = some v4 ∧ w.cell? ⟨g, 5, none⟩ = some v5) ∧
    (w.frozen? ⟨g, 0, none⟩ = false ∧ w.frozen? ⟨g, 1, none⟩ = false ∧ w.frozen? ⟨g, 2, none⟩ = false ∧ w.frozen? ⟨g, 3, none⟩ = false ∧ w.frozen? ⟨g, 4, none⟩ = false ∧ w.frozen? ⟨g, 5, none⟩ = false) :=
  ⟨⟨h.cell 0, h.cell 1, h.cell 2, h.cell 3, h.cell 4, h.cell 5⟩, h.free 0, h.free 1, h.free 2, h.free 3, h.free 4, h.free 5⟩

theorem line_empty {w : World} {q : RQ} (h : q.ok w) :
    Calls Tryz.prog 69 #[.agg #[.bool q.s, .slice q.A q.n q.c, .slice q.A' q.n' q.c']] w (RetBl (nq (q.s, q.z, q.z')) w) := by
  rw [nq_len h]
  obtain ⟨s, A, n, c, z, A', n', c', z'⟩ := q
  simp only
  clear h
  cases s
  case true =>
    rw [decide_eq_false (by simp)]
    go_enter Tryz.func69, Tryz.ntmps69
    go_wp2
    go_ret
    exact ⟨rfl, below_alloc _ _⟩
  case false =>
    by_cases h1 : n = 0
    · subst h1
      by_cases h2 : n' = 0
      · subst h2
        rw [decide_eq_true ⟨rfl, rfl, rfl⟩]
        go_enter Tryz.func69, Tryz.ntmps69
        go_wp2
        go_ret
        exact ⟨rfl, below_alloc _ _⟩
      · have e1 : ((n' : Int) == 0) = false := by simp; omega
        have e2 : decide (n' = 0) = false := decide_eq_false h2
        rw [decide_eq_false (fun hh => h2 hh.2.2)]
        go_enter Tryz.func69, Tryz.ntmps69
        go_wp2
        go_ret
        exact ⟨rfl, below_alloc _ _⟩
    · have e1 : ((n : Int) == 0) = false := by simp; omega
      have e2 : decide (n = 0) = false := decide_eq_false h1
      rw [decide_eq_false (fun hh => h1 hh.2.1)]
      go_enter Tryz.func69, Tryz.ntmps69
      go_wp2
      go_ret
      exact ⟨rfl, below_alloc _ _⟩
theorem ref_none {w : World} {q : RQ} (h : q.ok w) (hn : q.n ≤ 1000) (hn' : q.n' ≤ 1000) :
    Calls Tryz.prog 70 #[.agg #[.bool q.s, .slice q.A q.n q.c, .slice q.A' q.n' q.c']] w (RetBl (nq (q.s, q.z, q.z')) w) := by
  obtain ⟨s, A, n, c, z, A', n', c', z'⟩ := q
  simp only at hn hn' ⊢
  obtain ⟨V, hW, Ba, hb0⟩ := box0 25 w #[.bool s, .slice A n c, .slice A' n' c']
  have S := ref_same (s := s) (t := false) (h.1.below hb0) (h.2.1.below hb0) (Sl.nil V none 0) (Sl.nil V none 0) (show n ≤ 1000000 by omega) (show n' ≤ 1000000 by omega) (by omega) (by omega)
  have e : nq (s, z, z') = decide (s = false ∧ z = [] ∧ z' = []) := rfl
  simp only at S
  rw [← e] at S
  obtain ⟨k0, k1, k2⟩ := Ba.three.1
  have HS := Lib.hid S
  have HW := Lib.hid hW
  clear S hW h e Ba
  go_enter Tryz.func70, Tryz.ntmps70
  go_wp2_with fail
  rw [HW.out]
  go_wp2_with fail
  refine HS.out.mono ?_
  rintro _ w2 ⟨rfl, b2⟩
  go_wp2_with fail
  go_ret
  exact ⟨rfl, bb hb0 b2⟩

set_option maxRecDepth 100000 in
set_option maxHeartbeats 8000000 in
theorem line_fits {w : World} {x : RI} (hx : x.ok w) {N : Nat} (hn : x.q.n ≤ N) (hn' : x.q.n' ≤ N) (hN : N ≤ 1000) (i : Nat) :
    Calls Tryz.prog 44 #[.agg #[.int .i64 x.op, .int .i64 x.a, .int .i64 x.b, .bool x.q.s, .slice x.q.A x.q.n x.q.c, .slice x.q.A' x.q.n' x.q.c'], .int .i64 (i : Int)] w (RetBl (fitsB x.pi i) w) := by
  obtain ⟨op, a, b, q⟩ := x
  obtain ⟨_, _, _, hq⟩ := hx
  simp only at hn hn' hq
  show Calls _ _ #[.agg #[.int .i64 op, .int .i64 a, .int .i64 b, .bool q.s, .slice q.A q.n q.c, .slice q.A' q.n' q.c'], .int .i64 (i : Int)] w (RetBl (fitsB ⟨op, a, b, (q.s, q.z, q.z')⟩ i) w)
  obtain ⟨V, hW, Ba, hb0⟩ := box0 27 w #[.int .i64 op, .int .i64 a, .int .i64 b, .bool q.s, .slice q.A q.n q.c, .slice q.A' q.n' q.c']
  have R := rat_right (s := q.s) (hq.1.below hb0) (hq.2.1.below hb0) hn hn' hN
  have E := fun (w1 : World) (hb : Below V.heap.size V w1) => line_empty (RQ.below hq (bb hb0 hb))
  have AR := fun (w1 : World) => Lib.hid (line_arity op w1)
  have hS : ∀ w', Below V.heap.size V w' → w'.cell? ⟨w.heap.size, 0, none⟩ = some (.int .i64 op) ∧ w'.cell? ⟨w.heap.size, 1, none⟩ = some (.int .i64 a) ∧ w'.cell? ⟨w.heap.size, 2, none⟩ = some (.int .i64 b) ∧ w'.cell? ⟨w.heap.size, 3, none⟩ = some (.bool q.s) ∧ w'.cell? ⟨w.heap.size, 4, none⟩ = some (.slice q.A q.n q.c) ∧ w'.cell? ⟨w.heap.size, 5, none⟩ = some (.slice q.A' q.n' q.c') := fun w' hb => (Ba.below' hb).six.1
  have hv : rightB q.s q.z q.z' = vq (q.s, q.z, q.z') := rfl
  rw [hv] at R
  obtain ⟨s, A, n, c, z, A', n', c', z'⟩ := q
  simp only at R E hS hW ⊢
  have f2 := @fits_const a b (s, z, z') i
  have f0 := fun h2 h => @fits_full op a b (s, z, z') i h2 h
  have f1 := fun h => @fits_input a b (s, z, z') i h
  have fa := fun h2 h1 ha h => @fits_one op a b (s, z, z') i h2 h1 ha h
  have fb := fun h2 h1 ha h => @fits_two op a b (s, z, z') i h2 h1 ha h
  have fn := fun h2 h1 ha => @fits_none op a b (s, z, z') i h2 h1 ha
  generalize vq (s, z, z') = v at *
  generalize nq (s, z, z') = u at *
  have HR := Lib.hid R
  have HE := Lib.hid E
  have HS := Lib.hid hS
  have HW := Lib.hid hW
  clear R E hS hW Ba hq hn hn' hN hv
  by_cases h2 : op = 2
  · subst h2
    clear f0 fa fb fn f1 HE AR
    by_cases ha : a = 0
    · subst ha
      by_cases hb : b = 0
      · subst hb
        rw [f2, decide_eq_true (rfl : (0 : Int) = 0), Bool.true_and, Bool.true_and]
        clear f2
        go_enter Tryz.func44, Tryz.ntmps44
        go_wp2_with fail
        rw [HW.out]
        obtain ⟨k0, k1, k2, k3, k4, k5⟩ := HS.out V (Below.refl _ V)
        go_wp2_with fail
        refine HR.out.mono ?_
        rintro _ w2 ⟨rfl, b2⟩
        go_wp2_with fail
        go_ret
        exact ⟨rfl, bb hb0 b2⟩
      · have e1 : (b == 0) = false := by simpa using hb
        rw [f2, decide_eq_false hb, Bool.false_and, Bool.and_false]
        clear f2 HR
        go_enter Tryz.func44, Tryz.ntmps44
        go_wp2_with fail
        rw [HW.out]
        obtain ⟨k0, k1, k2, k3, k4, k5⟩ := HS.out V (Below.refl _ V)
        go_wp2_with fail
        go_ret
        exact ⟨rfl, hb0⟩
    · have e1 : (a == 0) = false := by simpa using ha
      rw [f2, decide_eq_false ha, Bool.false_and]
      clear f2 HR
      go_enter Tryz.func44, Tryz.ntmps44
      go_wp2_with fail
      rw [HW.out]
      obtain ⟨k0, k1, k2, k3, k4, k5⟩ := HS.out V (Below.refl _ V)
      go_wp2_with fail
      go_ret
      exact ⟨rfl, hb0⟩
  · clear f2 HR
    have e2 : (op == 2) = false := by simpa using h2
    cases u
    case false =>
      rw [f0 h2 rfl]
      clear f0 fa fb fn f1 AR
      go_enter Tryz.func44, Tryz.ntmps44
      go_wp2_with fail
      rw [HW.out]
      obtain ⟨k0, k1, k2, k3, k4, k5⟩ := HS.out V (Below.refl _ V)
      go_wp2_with fail
      refine (HE.out V (Below.refl _ V)).mono ?_
      rintro _ w2 ⟨rfl, b2⟩
      clear k0 k1 k2 k3 k4 k5
      obtain ⟨k0, k1, k2, k3, k4, k5⟩ := HS.out w2 b2
      go_wp2_with fail
      go_ret
      exact ⟨rfl, bb hb0 b2⟩
    case true =>
      clear f0
      by_cases h1 : op = 1
      · subst h1
        rw [f1 rfl]
        clear f1 fa fb fn AR
        by_cases ha : 0 ≤ a ∧ a < 65536
        · rw [decide_eq_true ha, Bool.true_and]
          by_cases hb : b = 0
          · subst hb
            rw [decide_eq_true (rfl : (0 : Int) = 0)]
            go_enter Tryz.func44, Tryz.ntmps44
            go_wp2_with fail
            rw [HW.out]
            obtain ⟨k0, k1, k2, k3, k4, k5⟩ := HS.out V (Below.refl _ V)
            go_wp2_with fail
            refine (HE.out V (Below.refl _ V)).mono ?_
            rintro _ w2 ⟨rfl, b2⟩
            clear k0 k1 k2 k3 k4 k5
            obtain ⟨k0, k1, k2, k3, k4, k5⟩ := HS.out w2 b2
            go_wp2_with fail
            refine (line_below a 65536 _).mono ?_
            rintro _ w3 ⟨rfl, rfl⟩
            rw [decide_eq_true ha]
            go_wp2_with fail
            go_ret
            exact ⟨rfl, bb hb0 b2⟩
          · have e1 : (b == 0) = false := by simpa using hb
            rw [decide_eq_false hb]
            go_enter Tryz.func44, Tryz.ntmps44
            go_wp2_with fail
            rw [HW.out]
            obtain ⟨k0, k1, k2, k3, k4, k5⟩ := HS.out V (Below.refl _ V)
            go_wp2_with fail
            refine (HE.out V (Below.refl _ V)).mono ?_
            rintro _ w2 ⟨rfl, b2⟩
            clear k0 k1 k2 k3 k4 k5
            obtain ⟨k0, k1, k2, k3, k4, k5⟩ := HS.out w2 b2
            go_wp2_with fail
            refine (line_below a 65536 _).mono ?_
            rintro _ w3 ⟨rfl, rfl⟩
            rw [decide_eq_true ha]
            go_wp2_with fail
            go_ret
            exact ⟨rfl, bb hb0 b2⟩
        · rw [decide_eq_false ha, Bool.false_and]
          go_enter Tryz.func44, Tryz.ntmps44
          go_wp2_with fail
          rw [HW.out]
          obtain ⟨k0, k1, k2, k3, k4, k5⟩ := HS.out V (Below.refl _ V)
          go_wp2_with fail
          refine (HE.out V (Below.refl _ V)).mono ?_
          rintro _ w2 ⟨rfl, b2⟩
          clear k0 k1 k2 k3 k4 k5
          obtain ⟨k0, k1, k2, k3, k4, k5⟩ := HS.out w2 b2
          go_wp2_with fail
          refine (line_below a 65536 _).mono ?_
          rintro _ w3 ⟨rfl, rfl⟩
          rw [decide_eq_false ha]
          go_wp2_with fail
          go_ret
          exact ⟨rfl, bb hb0 b2⟩
      · have e1 : (op == 1) = false := by simpa using h1
        clear f1
        rcases ar_op h2 h1 with har | har | har
        · rw [fa h2 h1 har rfl]
          clear fa fb fn
          rw [har] at AR
          clear har
          by_cases ha : 0 ≤ a ∧ a < (i : Int)
          · rw [decide_eq_true ha, Bool.true_and]
            by_cases hb : b = 0
            · subst hb
              rw [decide_eq_true (rfl : (0 : Int) = 0)]
              go_enter Tryz.func44, Tryz.ntmps44
              go_wp2_with fail
              rw [HW.out]
              obtain ⟨k0, k1, k2, k3, k4, k5⟩ := HS.out V (Below.refl _ V)
              go_wp2_with fail
              refine (HE.out V (Below.refl _ V)).mono ?_
              rintro _ w2 ⟨rfl, b2⟩
              clear k0 k1 k2 k3 k4 k5
              obtain ⟨k0, k1, k2, k3, k4, k5⟩ := HS.out w2 b2
              go_wp2_with fail
              refine ((AR _).out).mono ?_
              rintro _ w3 ⟨rfl, rfl⟩
              go_wp2_with fail
              refine (line_below a (i : Int) _).mono ?_
              rintro _ w3 ⟨rfl, rfl⟩
              rw [decide_eq_true ha]
              go_wp2_with fail
              go_ret
              exact ⟨rfl, bb hb0 b2⟩
            · have e1 : (b == 0) = false := by simpa using hb
              rw [decide_eq_false hb]
              go_enter Tryz.func44, Tryz.ntmps44
              go_wp2_with fail
              rw [HW.out]
              obtain ⟨k0, k1, k2, k3, k4, k5⟩ := HS.out V (Below.refl _ V)
              go_wp2_with fail
              refine (HE.out V (Below.refl _ V)).mono ?_
              rintro _ w2 ⟨rfl, b2⟩
              clear k0 k1 k2 k3 k4 k5
              obtain ⟨k0, k1, k2, k3, k4, k5⟩ := HS.out w2 b2
              go_wp2_with fail
              refine ((AR _).out).mono ?_
              rintro _ w3 ⟨rfl, rfl⟩
              go_wp2_with fail
              refine (line_below a (i : Int) _).mono ?_
              rintro _ w3 ⟨rfl, rfl⟩
              rw [decide_eq_true ha]
              go_wp2_with fail
              go_ret
              exact ⟨rfl, bb hb0 b2⟩
          · rw [decide_eq_false ha, Bool.false_and]
            go_enter Tryz.func44, Tryz.ntmps44
            go_wp2_with fail
            rw [HW.out]
            obtain ⟨k0, k1, k2, k3, k4, k5⟩ := HS.out V (Below.refl _ V)
            go_wp2_with fail
            refine (HE.out V (Below.refl _ V)).mono ?_
            rintro _ w2 ⟨rfl, b2⟩
            clear k0 k1 k2 k3 k4 k5
            obtain ⟨k0, k1, k2, k3, k4, k5⟩ := HS.out w2 b2
            go_wp2_with fail
            refine ((AR _).out).mono ?_
            rintro _ w3 ⟨rfl, rfl⟩
            go_wp2_with fail
            refine (line_below a (i : Int) _).mono ?_
            rintro _ w3 ⟨rfl, rfl⟩
            rw [decide_eq_false ha]
            go_wp2_with fail
            go_ret
            exact ⟨rfl, bb hb0 b2⟩
        · rw [fb h2 h1 har rfl]
          clear fa fb fn
          rw [har] at AR
          clear har
          by_cases ha : 0 ≤ a ∧ a < (i : Int)
          · rw [decide_eq_true ha, Bool.true_and]
            by_cases hb : 0 ≤ b ∧ b < (i : Int)
            · rw [decide_eq_true hb]
              go_enter Tryz.func44, Tryz.ntmps44
              go_wp2_with fail
              rw [HW.out]
              obtain ⟨k0, k1, k2, k3, k4, k5⟩ := HS.out V (Below.refl _ V)
              go_wp2_with fail
              refine (HE.out V (Below.refl _ V)).mono ?_
              rintro _ w2 ⟨rfl, b2⟩
              clear k0 k1 k2 k3 k4 k5
              obtain ⟨k0, k1, k2, k3, k4, k5⟩ := HS.out w2 b2
              go_wp2_with fail
              refine ((AR _).out).mono ?_
              rintro _ w3 ⟨rfl, rfl⟩
              go_wp2_with fail
              refine (line_below a (i : Int) _).mono ?_
              rintro _ w3 ⟨rfl, rfl⟩
              rw [decide_eq_true ha]
              go_wp2_with fail
              refine (line_below b (i : Int) _).mono ?_
              rintro _ w3 ⟨rfl, rfl⟩
              rw [decide_eq_true hb]
              go_wp2_with fail
              go_ret
              exact ⟨rfl, bb hb0 b2⟩
            · rw [decide_eq_false hb]
              go_enter Tryz.func44, Tryz.ntmps44
              go_wp2_with fail
              rw [HW.out]
              obtain ⟨k0, k1, k2, k3, k4, k5⟩ := HS.out V (Below.refl _ V)
              go_wp2_with fail
              refine (HE.out V (Below.refl _ V)).mono ?_
              rintro _ w2 ⟨rfl, b2⟩
              clear k0 k1 k2 k3 k4 k5
              obtain ⟨k0, k1, k2, k3, k4, k5⟩ := HS.out w2 b2
              go_wp2_with fail
              refine ((AR _).out).mono ?_
              rintro _ w3 ⟨rfl, rfl⟩
              go_wp2_with fail
              refine (line_below a (i : Int) _).mono ?_
              rintro _ w3 ⟨rfl, rfl⟩
              rw [decide_eq_true ha]
              go_wp2_with fail
              refine (line_below b (i : Int) _).mono ?_
              rintro _ w3 ⟨rfl, rfl⟩
              rw [decide_eq_false hb]
              go_wp2_with fail
              go_ret
              exact ⟨rfl, bb hb0 b2⟩
          · rw [decide_eq_false ha, Bool.false_and]
            go_enter Tryz.func44, Tryz.ntmps44
            go_wp2_with fail
            rw [HW.out]
            obtain ⟨k0, k1, k2, k3, k4, k5⟩ := HS.out V (Below.refl _ V)
            go_wp2_with fail
            refine (HE.out V (Below.refl _ V)).mono ?_
            rintro _ w2 ⟨rfl, b2⟩
            clear k0 k1 k2 k3 k4 k5
            obtain ⟨k0, k1, k2, k3, k4, k5⟩ := HS.out w2 b2
            go_wp2_with fail
            refine ((AR _).out).mono ?_
            rintro _ w3 ⟨rfl, rfl⟩
            go_wp2_with fail
            refine (line_below a (i : Int) _).mono ?_
            rintro _ w3 ⟨rfl, rfl⟩
            rw [decide_eq_false ha]
            go_wp2_with fail
            go_ret
            exact ⟨rfl, bb hb0 b2⟩
        · rw [fn h2 h1 har]
          clear fa fb fn
          rw [har] at AR
          clear har
          go_enter Tryz.func44, Tryz.ntmps44
          go_wp2_with fail
          rw [HW.out]
          obtain ⟨k0, k1, k2, k3, k4, k5⟩ := HS.out V (Below.refl _ V)
          go_wp2_with fail
          refine (HE.out V (Below.refl _ V)).mono ?_
          rintro _ w2 ⟨rfl, b2⟩
          clear k0 k1 k2 k3 k4 k5
          obtain ⟨k0, k1, k2, k3, k4, k5⟩ := HS.out w2 b2
          go_wp2_with fail
          refine ((AR _).out).mono ?_
          rintro _ w3 ⟨rfl, rfl⟩
          go_wp2_with fail
          go_ret
          exact ⟨rfl, bb hb0 b2⟩

set_option maxRecDepth 100000 in
set_option maxHeartbeats 8000000 in
theorem ref_fits {w : World} {x : RI} (hx : x.ok w) {N : Nat} (hn : x.q.n ≤ N) (hn' : x.q.n' ≤ N) (hN : N ≤ 1000) (i : Nat) :
    Calls Tryz.prog 45 #[.agg #[.int .i64 x.op, .int .i64 x.a, .int .i64 x.b, .bool x.q.s, .slice x.q.A x.q.n x.q.c, .slice x.q.A' x.q.n' x.q.c'], .int .i64 (i : Int)] w (RetBl (fitsB x.pi i) w) := by
  obtain ⟨op, a, b, q⟩ := x
  obtain ⟨_, _, _, hq⟩ := hx
  simp only at hn hn' hq
  show Calls _ _ #[.agg #[.int .i64 op, .int .i64 a, .int .i64 b, .bool q.s, .slice q.A q.n q.c, .slice q.A' q.n' q.c'], .int .i64 (i : Int)] w (RetBl (fitsB ⟨op, a, b, (q.s, q.z, q.z')⟩ i) w)
  obtain ⟨V, hW, Ba, hb0⟩ := box0 27 w #[.int .i64 op, .int .i64 a, .int .i64 b, .bool q.s, .slice q.A q.n q.c, .slice q.A' q.n' q.c']
  have R := ref_ratRight (s := q.s) (hq.1.below hb0) (hq.2.1.below hb0) hn hn' hN
  have E := fun (w1 : World) (hb : Below V.heap.size V w1) => ref_none (RQ.below hq (bb hb0 hb)) (Nat.le_trans hn hN) (Nat.le_trans hn' hN)
  have AR := fun (w1 : World) => Lib.hid (ref_arity op w1)
  have hS : ∀ w', Below V.heap.size V w' → w'.cell? ⟨w.heap.size, 0, none⟩ = some (.int .i64 op) ∧ w'.cell? ⟨w.heap.size, 1, none⟩ = some (.int .i64 a) ∧ w'.cell? ⟨w.heap.size, 2, none⟩ = some (.int .i64 b) ∧ w'.cell? ⟨w.heap.size, 3, none⟩ = some (.bool q.s) ∧ w'.cell? ⟨w.heap.size, 4, none⟩ = some (.slice q.A q.n q.c) ∧ w'.cell? ⟨w.heap.size, 5, none⟩ = some (.slice q.A' q.n' q.c') := fun w' hb => (Ba.below' hb).six.1
  have hv : rightB q.s q.z q.z' = vq (q.s, q.z, q.z') := rfl
  rw [hv] at R
  obtain ⟨s, A, n, c, z, A', n', c', z'⟩ := q
  simp only at R E hS hW ⊢
  have f2 := @fits_const a b (s, z, z') i
  have f0 := fun h2 h => @fits_full op a b (s, z, z') i h2 h
  have f1 := fun h => @fits_input a b (s, z, z') i h
  have fa := fun h2 h1 ha h => @fits_one op a b (s, z, z') i h2 h1 ha h
  have fb := fun h2 h1 ha h => @fits_two op a b (s, z, z') i h2 h1 ha h
  have fn := fun h2 h1 ha => @fits_none op a b (s, z, z') i h2 h1 ha
  generalize vq (s, z, z') = v at *
  generalize nq (s, z, z') = u at *
  have HR := Lib.hid R
  have HE := Lib.hid E
  have HS := Lib.hid hS
  have HW := Lib.hid hW
  clear R E hS hW Ba hq hn hn' hN hv
  by_cases h2 : op = 2
  · subst h2
    clear f0 fa fb fn f1 HE AR
    by_cases ha : a = 0
    · subst ha
      by_cases hb : b = 0
      · subst hb
        rw [f2, decide_eq_true (rfl : (0 : Int) = 0), Bool.true_and, Bool.true_and]
        clear f2
        go_enter Tryz.func45, Tryz.ntmps45
        go_wp2_with fail
        rw [HW.out]
        obtain ⟨k0, k1, k2, k3, k4, k5⟩ := HS.out V (Below.refl _ V)
        go_wp2_with fail
        refine HR.out.mono ?_
        rintro _ w2 ⟨rfl, b2⟩
        go_wp2_with fail
        go_ret
        exact ⟨rfl, bb hb0 b2⟩
      · have e1 : (b == 0) = false := by simpa using hb
        rw [f2, decide_eq_false hb, Bool.false_and, Bool.and_false]
        clear f2 HR
        go_enter Tryz.func45, Tryz.ntmps45
        go_wp2_with fail
        rw [HW.out]
        obtain ⟨k0, k1, k2, k3, k4, k5⟩ := HS.out V (Below.refl _ V)
        go_wp2_with fail
        go_ret
        exact ⟨rfl, hb0⟩
    · have e1 : (a == 0) = false := by simpa using ha
      rw [f2, decide_eq_false ha, Bool.false_and]
      clear f2 HR
      go_enter Tryz.func45, Tryz.ntmps45
      go_wp2_with fail
      rw [HW.out]
      obtain ⟨k0, k1, k2, k3, k4, k5⟩ := HS.out V (Below.refl _ V)
      go_wp2_with fail
      go_ret
      exact ⟨rfl, hb0⟩
  · clear f2 HR
    have e2 : (op == 2) = false := by simpa using h2
    cases u
    case false =>
      rw [f0 h2 rfl]
      clear f0 fa fb fn f1 AR
      go_enter Tryz.func45, Tryz.ntmps45
      go_wp2_with fail
      rw [HW.out]
      obtain ⟨k0, k1, k2, k3, k4, k5⟩ := HS.out V (Below.refl _ V)
      go_wp2_with fail
      refine (HE.out V (Below.refl _ V)).mono ?_
      rintro _ w2 ⟨rfl, b2⟩
      clear k0 k1 k2 k3 k4 k5
      obtain ⟨k0, k1, k2, k3, k4, k5⟩ := HS.out w2 b2
      go_wp2_with fail
      go_ret
      exact ⟨rfl, bb hb0 b2⟩
    case true =>
      clear f0
      by_cases h1 : op = 1
      · subst h1
        rw [f1 rfl]
        clear f1 fa fb fn AR
        by_cases ha : 0 ≤ a ∧ a < 65536
        · rw [decide_eq_true ha, Bool.true_and]
          by_cases hb : b = 0
          · subst hb
            rw [decide_eq_true (rfl : (0 : Int) = 0)]
            obtain ⟨ha1, ha2⟩ := ha
            go_enter Tryz.func45, Tryz.ntmps45
            go_wp2_with fail
            rw [HW.out]
            obtain ⟨k0, k1, k2, k3, k4, k5⟩ := HS.out V (Below.refl _ V)
            go_wp2_with fail
            refine (HE.out V (Below.refl _ V)).mono ?_
            rintro _ w2 ⟨rfl, b2⟩
            clear k0 k1 k2 k3 k4 k5
            obtain ⟨k0, k1, k2, k3, k4, k5⟩ := HS.out w2 b2
            go_wp2_with fail
            go_ret
            exact ⟨rfl, bb hb0 b2⟩
          · have e1 : (b == 0) = false := by simpa using hb
            rw [decide_eq_false hb]
            obtain ⟨ha1, ha2⟩ := ha
            go_enter Tryz.func45, Tryz.ntmps45
            go_wp2_with fail
            rw [HW.out]
            obtain ⟨k0, k1, k2, k3, k4, k5⟩ := HS.out V (Below.refl _ V)
            go_wp2_with fail
            refine (HE.out V (Below.refl _ V)).mono ?_
            rintro _ w2 ⟨rfl, b2⟩
            clear k0 k1 k2 k3 k4 k5
            obtain ⟨k0, k1, k2, k3, k4, k5⟩ := HS.out w2 b2
            go_wp2_with fail
            go_ret
            exact ⟨rfl, bb hb0 b2⟩
        · rw [decide_eq_false ha, Bool.false_and]
          have ha3 : a < 0 ∨ (0 ≤ a ∧ (65536 : Int) ≤ a) := by omega
          rcases ha3 with ha3 | ⟨ha3, ha4⟩
          · have e5 : decide (0 ≤ a) = false := decide_eq_false (by omega)
            go_enter Tryz.func45, Tryz.ntmps45
            go_wp2_with fail
            rw [HW.out]
            obtain ⟨k0, k1, k2, k3, k4, k5⟩ := HS.out V (Below.refl _ V)
            go_wp2_with fail
            refine (HE.out V (Below.refl _ V)).mono ?_
            rintro _ w2 ⟨rfl, b2⟩
            clear k0 k1 k2 k3 k4 k5
            obtain ⟨k0, k1, k2, k3, k4, k5⟩ := HS.out w2 b2
            go_wp2_with fail
            go_ret
            exact ⟨rfl, bb hb0 b2⟩
          · have e5 : decide (a < (65536 : Int)) = false := decide_eq_false (by omega)
            go_enter Tryz.func45, Tryz.ntmps45
            go_wp2_with fail
            rw [HW.out]
            obtain ⟨k0, k1, k2, k3, k4, k5⟩ := HS.out V (Below.refl _ V)
            go_wp2_with fail
            refine (HE.out V (Below.refl _ V)).mono ?_
            rintro _ w2 ⟨rfl, b2⟩
            clear k0 k1 k2 k3 k4 k5
            obtain ⟨k0, k1, k2, k3, k4, k5⟩ := HS.out w2 b2
            go_wp2_with fail
            go_ret
            exact ⟨rfl, bb hb0 b2⟩
      · have e1 : (op == 1) = false := by simpa using h1
        clear f1
        rcases ar_op h2 h1 with har | har | har
        · rw [fa h2 h1 har rfl]
          clear fa fb fn
          rw [har] at AR
          clear har
          by_cases ha : 0 ≤ a ∧ a < (i : Int)
          · rw [decide_eq_true ha, Bool.true_and]
            by_cases hb : b = 0
            · subst hb
              rw [decide_eq_true (rfl : (0 : Int) = 0)]
              obtain ⟨ha1, ha2⟩ := ha
              go_enter Tryz.func45, Tryz.ntmps45
              go_wp2_with fail
              rw [HW.out]
              obtain ⟨k0, k1, k2, k3, k4, k5⟩ := HS.out V (Below.refl _ V)
              go_wp2_with fail
              refine (HE.out V (Below.refl _ V)).mono ?_
              rintro _ w2 ⟨rfl, b2⟩
              clear k0 k1 k2 k3 k4 k5
              obtain ⟨k0, k1, k2, k3, k4, k5⟩ := HS.out w2 b2
              go_wp2_with fail
              refine ((AR _).out).mono ?_
              rintro _ w3 ⟨rfl, rfl⟩
              go_wp2_with fail
              go_ret
              exact ⟨rfl, bb hb0 b2⟩
            · have e1 : (b == 0) = false := by simpa using hb
              rw [decide_eq_false hb]
              obtain ⟨ha1, ha2⟩ := ha
              go_enter Tryz.func45, Tryz.ntmps45
              go_wp2_with fail
              rw [HW.out]
              obtain ⟨k0, k1, k2, k3, k4, k5⟩ := HS.out V (Below.refl _ V)
              go_wp2_with fail
              refine (HE.out V (Below.refl _ V)).mono ?_
              rintro _ w2 ⟨rfl, b2⟩
              clear k0 k1 k2 k3 k4 k5
              obtain ⟨k0, k1, k2, k3, k4, k5⟩ := HS.out w2 b2
              go_wp2_with fail
              refine ((AR _).out).mono ?_
              rintro _ w3 ⟨rfl, rfl⟩
              go_wp2_with fail
              go_ret
              exact ⟨rfl, bb hb0 b2⟩
          · rw [decide_eq_false ha, Bool.false_and]
            have ha3 : a < 0 ∨ (0 ≤ a ∧ (i : Int) ≤ a) := by omega
            rcases ha3 with ha3 | ⟨ha3, ha4⟩
            · have e5 : decide (0 ≤ a) = false := decide_eq_false (by omega)
              go_enter Tryz.func45, Tryz.ntmps45
              go_wp2_with fail
              rw [HW.out]
              obtain ⟨k0, k1, k2, k3, k4, k5⟩ := HS.out V (Below.refl _ V)
              go_wp2_with fail
              refine (HE.out V (Below.refl _ V)).mono ?_
              rintro _ w2 ⟨rfl, b2⟩
              clear k0 k1 k2 k3 k4 k5
              obtain ⟨k0, k1, k2, k3, k4, k5⟩ := HS.out w2 b2
              go_wp2_with fail
              refine ((AR _).out).mono ?_
              rintro _ w3 ⟨rfl, rfl⟩
              go_wp2_with fail
              go_ret
              exact ⟨rfl, bb hb0 b2⟩
            · have e5 : decide (a < (i : Int)) = false := decide_eq_false (by omega)
              go_enter Tryz.func45, Tryz.ntmps45
              go_wp2_with fail
              rw [HW.out]
              obtain ⟨k0, k1, k2, k3, k4, k5⟩ := HS.out V (Below.refl _ V)
              go_wp2_with fail
              refine (HE.out V (Below.refl _ V)).mono ?_
              rintro _ w2 ⟨rfl, b2⟩
              clear k0 k1 k2 k3 k4 k5
              obtain ⟨k0, k1, k2, k3, k4, k5⟩ := HS.out w2 b2
              go_wp2_with fail
              refine ((AR _).out).mono ?_
              rintro _ w3 ⟨rfl, rfl⟩
              go_wp2_with fail
              go_ret
              exact ⟨rfl, bb hb0 b2⟩
        · rw [fb h2 h1 har rfl]
          clear fa fb fn
          rw [har] at AR
          clear har
          by_cases ha : 0 ≤ a ∧ a < (i : Int)
          · rw [decide_eq_true ha, Bool.true_and]
            by_cases hb : 0 ≤ b ∧ b < (i : Int)
            · rw [decide_eq_true hb]
              obtain ⟨ha1, ha2⟩ := ha
              obtain ⟨hb1, hb2⟩ := hb
              go_enter Tryz.func45, Tryz.ntmps45
              go_wp2_with fail
              rw [HW.out]
              obtain ⟨k0, k1, k2, k3, k4, k5⟩ := HS.out V (Below.refl _ V)
              go_wp2_with fail
              refine (HE.out V (Below.refl _ V)).mono ?_
              rintro _ w2 ⟨rfl, b2⟩
              clear k0 k1 k2 k3 k4 k5
              obtain ⟨k0, k1, k2, k3, k4, k5⟩ := HS.out w2 b2
              go_wp2_with fail
              refine ((AR _).out).mono ?_
              rintro _ w3 ⟨rfl, rfl⟩
              go_wp2_with fail
              refine ((AR _).out).mono ?_
              rintro _ w3 ⟨rfl, rfl⟩
              go_wp2_with fail
              go_ret
              exact ⟨rfl, bb hb0 b2⟩
            · rw [decide_eq_false hb]
              obtain ⟨ha1, ha2⟩ := ha
              have hb3 : b < 0 ∨ (0 ≤ b ∧ (i : Int) ≤ b) := by omega
              rcases hb3 with hb3 | ⟨hb3, hb4⟩
              · have e5 : decide (0 ≤ b) = false := decide_eq_false (by omega)
                go_enter Tryz.func45, Tryz.ntmps45
                go_wp2_with fail
                rw [HW.out]
                obtain ⟨k0, k1, k2, k3, k4, k5⟩ := HS.out V (Below.refl _ V)
                go_wp2_with fail
                refine (HE.out V (Below.refl _ V)).mono ?_
                rintro _ w2 ⟨rfl, b2⟩
                clear k0 k1 k2 k3 k4 k5
                obtain ⟨k0, k1, k2, k3, k4, k5⟩ := HS.out w2 b2
                go_wp2_with fail
                refine ((AR _).out).mono ?_
                rintro _ w3 ⟨rfl, rfl⟩
                go_wp2_with fail
                refine ((AR _).out).mono ?_
                rintro _ w3 ⟨rfl, rfl⟩
                go_wp2_with fail
                go_ret
                exact ⟨rfl, bb hb0 b2⟩
              · have e5 : decide (b < (i : Int)) = false := decide_eq_false (by omega)
                go_enter Tryz.func45, Tryz.ntmps45
                go_wp2_with fail
                rw [HW.out]
                obtain ⟨k0, k1, k2, k3, k4, k5⟩ := HS.out V (Below.refl _ V)
                go_wp2_with fail
                refine (HE.out V (Below.refl _ V)).mono ?_
                rintro _ w2 ⟨rfl, b2⟩
                clear k0 k1 k2 k3 k4 k5
                obtain ⟨k0, k1, k2, k3, k4, k5⟩ := HS.out w2 b2
                go_wp2_with fail
                refine ((AR _).out).mono ?_
                rintro _ w3 ⟨rfl, rfl⟩
                go_wp2_with fail
                refine ((AR _).out).mono ?_
                rintro _ w3 ⟨rfl, rfl⟩
                go_wp2_with fail
                go_ret
                exact ⟨rfl, bb hb0 b2⟩
          · rw [decide_eq_false ha, Bool.false_and]
            have ha3 : a < 0 ∨ (0 ≤ a ∧ (i : Int) ≤ a) := by omega
            rcases ha3 with ha3 | ⟨ha3, ha4⟩
            · have e5 : decide (0 ≤ a) = false := decide_eq_false (by omega)
              go_enter Tryz.func45, Tryz.ntmps45
              go_wp2_with fail
              rw [HW.out]
              obtain ⟨k0, k1, k2, k3, k4, k5⟩ := HS.out V (Below.refl _ V)
              go_wp2_with fail
              refine (HE.out V (Below.refl _ V)).mono ?_
              rintro _ w2 ⟨rfl, b2⟩
              clear k0 k1 k2 k3 k4 k5
              obtain ⟨k0, k1, k2, k3, k4, k5⟩ := HS.out w2 b2
              go_wp2_with fail
              refine ((AR _).out).mono ?_
              rintro _ w3 ⟨rfl, rfl⟩
              go_wp2_with fail
              refine ((AR _).out).mono ?_
              rintro _ w3 ⟨rfl, rfl⟩
              go_wp2_with fail
              go_ret
              exact ⟨rfl, bb hb0 b2⟩
            · have e5 : decide (a < (i : Int)) = false := decide_eq_false (by omega)
              go_enter Tryz.func45, Tryz.ntmps45
              go_wp2_with fail
              rw [HW.out]
              obtain ⟨k0, k1, k2, k3, k4, k5⟩ := HS.out V (Below.refl _ V)
              go_wp2_with fail
              refine (HE.out V (Below.refl _ V)).mono ?_
              rintro _ w2 ⟨rfl, b2⟩
              clear k0 k1 k2 k3 k4 k5
              obtain ⟨k0, k1, k2, k3, k4, k5⟩ := HS.out w2 b2
              go_wp2_with fail
              refine ((AR _).out).mono ?_
              rintro _ w3 ⟨rfl, rfl⟩
              go_wp2_with fail
              refine ((AR _).out).mono ?_
              rintro _ w3 ⟨rfl, rfl⟩
              go_wp2_with fail
              go_ret
              exact ⟨rfl, bb hb0 b2⟩
        · rw [fn h2 h1 har]
          clear fa fb fn
          rw [har] at AR
          clear har
          go_enter Tryz.func45, Tryz.ntmps45
          go_wp2_with fail
          rw [HW.out]
          obtain ⟨k0, k1, k2, k3, k4, k5⟩ := HS.out V (Below.refl _ V)
          go_wp2_with fail
          refine (HE.out V (Below.refl _ V)).mono ?_
          rintro _ w2 ⟨rfl, b2⟩
          clear k0 k1 k2 k3 k4 k5
          obtain ⟨k0, k1, k2, k3, k4, k5⟩ := HS.out w2 b2
          go_wp2_with fail
          refine ((AR _).out).mono ?_
          rintro _ w3 ⟨rfl, rfl⟩
          go_wp2_with fail
          refine ((AR _).out).mono ?_
          rintro _ w3 ⟨rfl, rfl⟩
          go_wp2_with fail
          go_ret
          exact ⟨rfl, bb hb0 b2⟩

set_option maxHeartbeats 2000000 in
theorem line_right {w : World} {A : Option Addr} {n c N : Nat} {xs : List RI} (h : SlP w A n c xs) (hs : Shrt N xs) (hN : N ≤ 1000) (hn : n ≤ 65536) :
    Calls Tryz.prog 12 #[.slice A n c] w (RetBl (progB (xs.map RI.pi)) w) := by
  have hlen : (xs.map RI.pi).length = n := by rw [List.length_map]; exact h.1.1
  go_enter Tryz.func12, Tryz.ntmps12
  go_wp2_with fail
  go_loopw [10] (fun iv wr => ∃ k : Nat, k ≤ n ∧ iv = .int .i64 k ∧ Below w.heap.size w wr ∧ Hid (∀ i, i < k → fits vq nq ((xs.map RI.pi).getD i PI.nil) i)) (fun iv _ => n - mes iv)
  case atStart => exact ⟨0, by omega, rfl, Below.refl _ _, Lib.hid (fun i hi => absurd hi (by omega))⟩
  case round =>
    obtain ⟨k, hk, rfl, hb, HF⟩ := hrel
    by_cases hk2 : k < n
    · obtain ⟨b0, off, x, rfl, hlt, hxk, hok, c0, c1, c2, c3, c4, c5⟩ := (h.below hb).at_ hk2
      obtain ⟨hx1, hx2⟩ := hs x (mem_at hxk)
      have hp := pi_at hxk
      have F := fun (w1 : World) (hb1 : Below wr.heap.size wr w1) => line_fits (RI.below hok hb1) hx1 hx2 hN k
      have hfi := fitsB_iff x.pi k
      generalize fitsB x.pi k = r at F hfi
      rw [← hp] at hfi
      have HX := Lib.hid F
      clear F hp hok hx1 hx2
      cases r
      case false =>
        have hno : progB (xs.map RI.pi) = false := progB_false fun hh => by
          have := hfi.2 (hh.1 k (by omega))
          cases this
        rw [hno]
        clear hno hfi
        go_wp2_with fail
        refine (HX.out _ (below_alloc _ _)).mono ?_
        rintro _ w2 ⟨rfl, b2⟩
        go_wp2_with fail
        go_ret
        exact ⟨rfl, bb (hb.alloc hb.size _) b2⟩
      case true =>
        have hyes := hfi.1 rfl
        have HY := Lib.hid hyes
        clear hfi hyes
        go_wp2_with fail
        refine (HX.out _ (below_alloc _ _)).mono ?_
        rintro _ w2 ⟨rfl, b2⟩
        go_wp2_with fail
        go_roundw
        case rel => exact ⟨k + 1, by omega, by go_num, bb (hb.alloc hb.size _) b2, Lib.hid (fun i hi => by
          rcases Nat.lt_or_eq_of_le (Nat.le_of_lt_succ hi) with h9 | h9
          · exact HF.out i h9
          · rw [h9]; exact HY.out)⟩
        case measure => simp [mes, intOf]; omega
    · obtain rfl : k = n := by omega
      have hyes : progB (xs.map RI.pi) = true := (progB_iff _).2 ⟨fun i hi => HF.out i (by omega), by omega⟩
      go_wp2_with fail
      go_ret
      exact ⟨by rw [hyes]; rfl, hb⟩

set_option maxHeartbeats 2000000 in
theorem ref_right15 {w : World} {A : Option Addr} {n c N : Nat} {xs : List RI} (h : SlP w A n c xs) (hs : Shrt N xs) (hN : N ≤ 1000) (hn : n ≤ 65536) :
    Calls Tryz.prog 13 #[.slice A n c] w (RetBl (progB (xs.map RI.pi)) w) := by
  have hlen : (xs.map RI.pi).length = n := by rw [List.length_map]; exact h.1.1
  go_enter Tryz.func13, Tryz.ntmps13
  go_wp2_with fail
  go_loopw [6] (fun iv wr => ∃ k : Nat, k ≤ n ∧ iv = .int .i64 k ∧ Below w.heap.size w wr ∧ Hid (∀ i, i < k → fits vq nq ((xs.map RI.pi).getD i PI.nil) i)) (fun iv _ => n - mes iv)
  case atStart => exact ⟨0, by omega, rfl, Below.refl _ _, Lib.hid (fun i hi => absurd hi (by omega))⟩
  case round =>
    obtain ⟨k, hk, rfl, hb, HF⟩ := hrel
    by_cases hk2 : k < n
    · obtain ⟨b0, off, x, rfl, hlt, hxk, hok, c0, c1, c2, c3, c4, c5⟩ := (h.below hb).at_ hk2
      obtain ⟨hx1, hx2⟩ := hs x (mem_at hxk)
      have hp := pi_at hxk
      have F := fun (w1 : World) (hb1 : Below wr.heap.size wr w1) => ref_fits (RI.below hok hb1) hx1 hx2 hN k
      have hfi := fitsB_iff x.pi k
      generalize fitsB x.pi k = r at F hfi
      rw [← hp] at hfi
      have HX := Lib.hid F
      clear F hp hok hx1 hx2
      cases r
      case false =>
        have hno : progB (xs.map RI.pi) = false := progB_false fun hh => by
          have := hfi.2 (hh.1 k (by omega))
          cases this
        rw [hno]
        clear hno hfi
        go_wp2_with fail
        refine (HX.out _ (Below.refl _ _)).mono ?_
        rintro _ w2 ⟨rfl, b2⟩
        go_wp2_with fail
        go_ret
        exact ⟨rfl, bb hb b2⟩
      case true =>
        have hyes := hfi.1 rfl
        have HY := Lib.hid hyes
        clear hfi hyes
        go_wp2_with fail
        refine (HX.out _ (Below.refl _ _)).mono ?_
        rintro _ w2 ⟨rfl, b2⟩
        go_wp2_with fail
        go_roundw
        case rel => exact ⟨k + 1, by omega, by go_num, bb hb b2, Lib.hid (fun i hi => by
          rcases Nat.lt_or_eq_of_le (Nat.le_of_lt_succ hi) with h9 | h9
          · exact HF.out i h9
          · rw [h9]; exact HY.out)⟩
        case measure => simp [mes, intOf]; omega
    · obtain rfl : k = n := by omega
      have hyes : progB (xs.map RI.pi) = true := (progB_iff _).2 ⟨fun i hi => HF.out i (by omega), by omega⟩
      go_wp2_with fail
      go_ret
      exact ⟨by rw [hyes]; simp; omega, hb⟩

end Go.Proofs.YtibgpeaplmcogaaGreatDoor

namespace Go.Proofs.YtibgpeaplmcogaaGreatDoor
set_option maxRecDepth 100000
open Go.RowKit
set_option linter.unusedVariables false
set_option linter.unusedSimpArgs false

theorem flat_len {V : Type} {cells : V → List Value} {k : Nat} : ∀ (xs : List V), (∀ x ∈ xs, (cells x).length = k) → (xs.flatMap cells).length = xs.length * k
  | [], _ => by simp
  | x :: xs, h => by
    rw [List.flatMap_cons, List.length_append, h x (by simp), flat_len xs (fun y hy => h y (by simp [hy])), List.length_cons, Nat.add_mul]
    omega
theorem flat_at {V : Type} {cells : V → List Value} {k : Nat} : ∀ (xs : List V), (∀ x ∈ xs, (cells x).length = k) → ∀ j i, i < k → (xs.flatMap cells)[j * k + i]? = (xs[j]?).bind fun x => (cells x)[i]?
  | [], _, j, i, _ => by simp
  | x :: xs, h, 0, i, hi => by
    rw [List.flatMap_cons, Nat.zero_mul, Nat.zero_add, List.getElem?_append_left (by rw [h x (by simp)]; exact hi)]; rfl
  | x :: xs, h, j + 1, i, hi => by
    have hx := h x (by simp)
    rw [List.flatMap_cons, List.getElem?_append_right (by rw [hx, Nat.add_mul]; omega), hx, show (j + 1) * k + i - k = j * k + i by rw [Nat.add_mul]; omega,
      flat_at xs (fun y hy => h y (by simp [hy])) j i hi]
    rfl
/-- no word -/
def NoW (u : Value) : Prop := ∀ x : Int, u ≠ .int .u64 x
def NoWAt (w : World) (g : Nat) : Prop := ∀ (i : Nat) (x : Int), w.cell? ⟨g, i, none⟩ ≠ some (.int .u64 x)
/-- the slice value v owns, from block B on, the elements xs, of k cells each, none a word -/
def OwnC (k : Nat) {V : Type} (cells : V → List Value) (t : TypeId) (B : Nat) (w : World) (v : Value) (xs : List V) : Prop :=
  (∀ x ∈ xs, (cells x).length = k) ∧ ((v = .slice none 0 0 ∧ xs = []) ∨
    ∃ g cap cur, v = .slice (some ⟨g, 0, none⟩) xs.length cap ∧ B ≤ g ∧ w.heap[g]? = some (.cells cur t (0, 0)) ∧ xs.length ≤ cap ∧ cap ≤ maxLen ∧ cur.size = cap * k ∧
      cur.toList.take (xs.length * k) = xs.flatMap cells ∧ ∀ u ∈ cur.toList, NoW u)
section
variable {k : Nat} {V : Type} {cells : V → List Value} {t : TypeId} {B : Nat} {w w' : World} {v : Value} {xs : List V}
theorem OwnC.nil : OwnC k cells t B w (.slice none 0 0) [] := ⟨by simp, .inl ⟨rfl, rfl⟩⟩
theorem OwnC.form (h : OwnC k cells t B w v xs) : ∃ A c, v = .slice A xs.length c ∧ xs.length ≤ c ∧ c ≤ maxLen := by
  rcases h with ⟨_, ⟨rfl, rfl⟩ | ⟨g, cap, cur, rfl, _, _, h1, h2, _⟩⟩
  · exact ⟨none, 0, rfl, Nat.le_refl _, by unfold maxLen; omega⟩
  · exact ⟨_, _, rfl, h1, h2⟩
theorem OwnC.own (h : OwnC k cells t B w v xs) : w.ownsRow B t k v xs.length (xs.flatMap cells) := by
  refine ⟨flat_len xs h.1, ?_⟩
  rcases h.2 with ⟨rfl, rfl⟩ | ⟨g, cap, cur, e, h1, h2, h3, h4, h5, h6, _⟩
  · exact .inl ⟨rfl, rfl⟩
  · exact .inr ⟨g, cap, cur, e, h1, h2, h3, h4, h5, h6⟩
theorem OwnC.noW (h : OwnC k cells t B w v xs) : ∀ g, v.ownBlock = some g → NoWAt w g := by
  intro g hg
  rcases h.2 with ⟨rfl, rfl⟩ | ⟨g', cap, cur, rfl, h1, h2, h3, h4, h5, h6, h7⟩
  · cases hg
  · have e : g' = g := by simpa [Value.ownBlock] using hg
    subst e
    intro i x hx
    rw [cell_of_row w g' i cur t (0, 0) h2] at hx
    have hm : (Value.int .u64 x) ∈ cur := Array.mem_of_getElem? hx
    exact h7 _ (by simpa using hm) x rfl
theorem OwnC.below (h : OwnC k cells t B w v xs) (hb : Below w.heap.size w w') : OwnC k cells t B w' v xs := by
  refine ⟨h.1, ?_⟩
  rcases h.2 with h2 | ⟨g, cap, cur, hv, hg, hh, r⟩
  · exact .inl h2
  · have hlt : g < w.heap.size := by
      rcases Nat.lt_or_ge g w.heap.size with h9 | h9
      · exact h9
      · rw [Array.getElem?_eq_none h9] at hh; cases hh
    exact .inr ⟨g, cap, cur, hv, hg, (hb.block g hlt).trans hh, r⟩
theorem OwnC.slc {ok : World → V → Prop} {A : Option Addr} {n c : Nat} (h : OwnC k cells t B w (.slice A n c) xs) (hok : ∀ x ∈ xs, ok w x) : SlC k cells ok w A n c xs := by
  rcases h with ⟨hl, ⟨e, rfl⟩ | ⟨g, cap, cur, e, h1, h2, h3, h4, h5, h6, _⟩⟩
  · injection e with e1 e2 e3
    subst e1 e2 e3
    exact ⟨⟨rfl, Nat.le_refl _, by unfold maxLen; omega, by simp⟩, fun h0 => absurd h0 (by omega)⟩
  · injection e with e1 e2 e3
    subst e1 e2 e3
    have hlt : g < w.heap.size := by
      rcases Nat.lt_or_ge g w.heap.size with h9 | h9
      · exact h9
      · rw [Array.getElem?_eq_none h9] at h2; cases h2
    refine ⟨⟨rfl, h3, h4, fun x hx => ⟨hok x hx, hl x hx⟩⟩, fun h0 => ⟨g, 0, rfl, hlt, fun j hj i hi => ?_⟩⟩
    rw [← flat_at xs hl j i hi, ← h6, cell_of_row w g _ cur t (0, 0) h2, Nat.zero_add, List.getElem?_take, if_pos]
    · simp
    · have : (j + 1) * k ≤ xs.length * k := Nat.mul_le_mul_right _ hj
      rw [Nat.add_mul] at this
      omega
/-- the words of a number elsewhere stay -/
theorem Sl.grownC {w1 : World} {r : Option Nat} {A : Option Addr} {n c : Nat} {zs : List Int} (s : Sl w A n c zs) (hg : w.grownBy w1 r) (hr : ∀ g, r = some g → NoWAt w g) : Sl w1 A n c zs := by
  refine ⟨s.1, fun h0 => ?_⟩
  obtain ⟨b, off, e, hlt, hc⟩ := s.2 h0
  have hne : some b ≠ r := by
    intro e2
    have := hc 0 h0
    exact hr b e2.symm _ _ this
  have hsz := hg.size
  refine ⟨b, off, e, by omega, fun j hj => ?_⟩
  have hbl := hg.block b hlt hne
  have e1 : w1.cell? ⟨b, off + j, none⟩ = w.cell? ⟨b, off + j, none⟩ := World.cell?_of_block (a := ⟨b, off + j, none⟩) hbl
  rw [e1]
  exact hc j hj
theorem RQ.grownC {w1 : World} {r : Option Nat} {x : RQ} (s : x.ok w) (hg : w.grownBy w1 r) (hr : ∀ g, r = some g → NoWAt w g) : x.ok w1 := ⟨s.1.grownC hg hr, s.2.1.grownC hg hr, s.2.2⟩
theorem RI.grownC {w1 : World} {r : Option Nat} {x : RI} (s : x.ok w) (hg : w.grownBy w1 r) (hr : ∀ g, r = some g → NoWAt w g) : x.ok w1 := ⟨s.1, s.2.1, s.2.2.1, RQ.grownC s.2.2.2 hg hr⟩
end
theorem mem_zeroCells {z : Array Value} {n : Nat} (hz : 0 < z.size) {u : Value} (h : u ∈ (Builtin.zeroCells z n).toList) : u ∈ z.toList := by
  unfold Builtin.zeroCells at h
  simp only [Array.toList_map, List.mem_map] at h
  obtain ⟨i, _, rfl⟩ := h
  have hlt := Nat.mod_lt i hz
  rw [getElem!_pos z (i % z.size) hlt]
  simp
/-- append of one element -/
theorem run_append_C {P : Program} (w : World) {V : Type} {k : Nat} {cells : V → List Value} (B : Nat) (t ty e : TypeId) (i : TypeInfo) (z : Value) (bytes : Nat) (ht : P.underlying t = some (.slice e)) (hi : P.info? e = some i) (hz : i.zero = some z)
    (hsize : i.size = k) (hby : i.bytes = bytes) (hzs : z.cells.size = k) (hsz : 0 < k) (hzw : ∀ u ∈ z.cells.toList, NoW u)
    (v : Value) (xs : List V) (hown : OwnC k cells e B w v xs)
    (a : Addr) (c : Nat) (y : V) (hl : (cells y).length = k) (hnews : ∀ j u, (cells y)[j]? = some u → w.cell? (a.add j) = some u) (h1 : ∀ u ∈ cells y, u.oneCell' = true) (hyw : ∀ u ∈ cells y, NoW u)
    (h63 : xs.length + 1 ≤ maxLen) (hbytes : (xs.length + 1) * bytes ≤ 140737488355328) (hbase : B ≤ w.heap.size) :
    ∃ v' w', (Builtin.append_ #[t, t] ty #[v, .slice (some a) 1 c]).run P w = .ok v' w' ∧ OwnC k cells e B w' v' (xs ++ [y]) ∧ w.grownBy w' v.ownBlock := by
  subst hsize
  subst hby
  have hl' : (cells y).length = 1 * i.size := by omega
  have hsmall : xs.length + 1 ≤ 9223372036854775807 := by simp only [maxLen] at h63; omega
  have hown2 := hown.own
  have hfl := hown2.1
  have hall : ∀ x ∈ xs ++ [y], (cells x).length = i.size := by
    intro x hx
    rcases List.mem_append.1 hx with hx | hx
    · exact hown.1 x hx
    · rw [List.mem_singleton.1 hx]; exact hl
  have hfm : (xs ++ [y]).flatMap cells = xs.flatMap cells ++ cells y := by rw [List.flatMap_append]; simp
  have hlen : (xs.flatMap cells ++ cells y).length = (xs.length + 1) * i.size := by rw [List.length_append, hfl, hl, Nat.add_mul]; omega
  have hxw : ∀ u ∈ xs.flatMap cells, NoW u := by
    rcases hown.2 with ⟨_, rfl⟩ | ⟨g, cap, cur, _, _, _, _, _, _, h6, h7⟩
    · simp
    · intro u hu
      rw [← h6] at hu
      exact h7 u (List.mem_of_mem_take hu)
  have grown : ∀ (old : Nat), old < xs.length + 1 → ∀ (row : Option Nat),
      OwnC i.size cells e B (w.drew.alloc (.cells ((xs.flatMap cells).toArray ++ (cells y).toArray ++ Builtin.zeroCells z.cells (grownCap w (xs.length + 1) old e - (xs.length + 1))) e))
        (.slice (some ⟨w.heap.size, 0, none⟩) (xs.length + 1) (grownCap w (xs.length + 1) old e)) (xs ++ [y]) ∧
      w.grownBy (w.drew.alloc (.cells ((xs.flatMap cells).toArray ++ (cells y).toArray ++ Builtin.zeroCells z.cells (grownCap w (xs.length + 1) old e - (xs.length + 1))) e)) row := by
    intro old ho row
    have hge := grownCap_ge w (xs.length + 1) old e
    have hcm : grownCap w (xs.length + 1) old e ≤ maxLen := grownCap_le_maxLen w (xs.length + 1) old e h63
    refine ⟨⟨hall, .inr ⟨w.heap.size, _, _, by rw [List.length_append]; rfl, hbase, heap_alloc_new w.drew _, by rw [List.length_append]; exact hge, hcm, ?_, ?_, ?_⟩⟩, ⟨rfl, rfl, rfl, by simp, fun k hk _ => _root_.Go.heap_alloc_old w.drew _ hk⟩⟩
    · simp only [Array.size_append, List.size_toArray, size_zeroCells, hzs, hfl, hl, ← Nat.add_mul]
      rw [show xs.length * i.size + i.size = (xs.length + 1) * i.size by rw [Nat.add_mul]; omega, ← Nat.add_mul]
      congr 1
      omega
    · simp only [Array.toList_append, List.append_assoc]
      rw [← List.append_assoc, hfm, show (xs ++ [y]).length = xs.length + 1 by simp, ← hlen]
      exact List.take_left
    · intro u hu
      simp only [Array.toList_append, List.mem_append] at hu
      rcases hu with (hu | hu) | hu
      · exact hxw u hu
      · exact hyw u hu
      · exact hzw u (mem_zeroCells (by omega) hu)
  rcases hown.2 with ⟨rfl, rfl⟩ | ⟨g, cap, cur, rfl, hbg, hg, hnc, hcm, hcs, htake, hcw⟩
  · have hr := run_append_nil (P := P) w t ty e i z ht hi hz a 1 c (cells y) hl' hnews (by omega) (by omega) (by have hb := hbytes; simp only [List.length_nil, Nat.zero_add] at hb; omega)
    have hgr := grown 0 (by simp) (Value.ownBlock (.slice none 0 0))
    simp only [List.length_nil, Nat.zero_add, List.nil_append, List.flatMap_nil, Array.empty_append] at hgr ⊢
    exact ⟨_, _, hr, hgr.1, hgr.2⟩
  · by_cases hroom : xs.length + 1 ≤ cap
    · have hfit : xs.length * i.size + (cells y).length ≤ cur.size := by
        have := Nat.mul_le_mul_right i.size hroom
        rw [Nat.add_mul] at this
        rw [hl, hcs]; omega
      have hr := run_append_room (P := P) w t ty e i ht hi g xs.length cap cur hg a 1 c (cells y) hl' hnews h1 hroom hfit
      refine ⟨_, _, hr, ⟨hall, .inr ⟨g, cap, _, by rw [List.length_append]; rfl, hbg, setRow_heap w g cur _ e _ hg, by rw [List.length_append]; exact hroom, hcm, ?_, ?_, ?_⟩⟩, ⟨rfl, rfl, rfl, by simp, fun k _ hk => setRow_other w g k _ (fun e => hk (by simp [Value.ownBlock, e]))⟩⟩
      · simp only [List.size_toArray, List.length_append, List.length_take, List.length_drop, Array.length_toList]
        omega
      · rw [htake, hfm, show (xs ++ [y]).length = xs.length + 1 by simp, ← hlen]
        exact List.take_left
      · intro u hu
        simp only [List.mem_append] at hu
        rcases hu with (hu | hu) | hu
        · exact hcw u (List.mem_of_mem_take hu)
        · exact hyw u hu
        · exact hcw u (List.mem_of_mem_drop hu)
    · have holds : ∀ j u, (xs.flatMap cells)[j]? = some u → w.cell? ((⟨g, 0, none⟩ : Addr).add j) = some u := hown2.cells (g := g) rfl
      have hr := run_append_grow (P := P) w t ty e i z ht hi hz ⟨g, 0, none⟩ xs.length cap (xs.flatMap cells) hfl holds a 1 c (cells y) hl' hnews (by omega) (by omega) (growslice_fits (by omega) hbytes)
      have hgr := grown cap (by omega) (Value.ownBlock (.slice (some ⟨g, 0, none⟩) xs.length cap))
      exact ⟨_, _, hr, hgr.1, hgr.2⟩
theorem wp_append_C {P : Program} (w : World) {V : Type} {k : Nat} {cells : V → List Value} {o : Oper} {a : Act} {K : Act → World → Prop} {Q : Exit → Act → World → Prop} (s x : Operand) (t : TypeId)
    (ho : o.op = .call { callee := .builtin .append, args := #[s, x], argTypes := #[t, t] })
    (B : Nat) (e : TypeId) (i : TypeInfo) (z : Value) (bytes : Nat) (ht : P.underlying t = some (.slice e)) (hi : P.info? e = some i) (hz : i.zero = some z)
    (hsize : i.size = k) (hby : i.bytes = bytes) (hzs : z.cells.size = k) (hsz : 0 < k) (hzw : ∀ u ∈ z.cells.toList, NoW u)
    (v : Value) (xs : List V) (hs : a.eval s = v) (hown : OwnC k cells e B w v xs)
    (ad : Addr) (c : Nat) (y : V) (hx : a.eval x = .slice (some ad) 1 c) (hl : (cells y).length = k) (hnews : ∀ j u, (cells y)[j]? = some u → w.cell? (ad.add j) = some u) (h1 : ∀ u ∈ cells y, u.oneCell' = true) (hyw : ∀ u ∈ cells y, NoW u)
    (h63 : xs.length + 1 ≤ maxLen) (hbytes : (xs.length + 1) * bytes ≤ 140737488355328) (hbase : B ≤ w.heap.size)
    (h : ∀ v' w', OwnC k cells e B w' v' (xs ++ [y]) → w.grownBy w' v.ownBlock → K (a.put o.dst v') w') : o.wp P a w K Q := by
  obtain ⟨v', w', hr, h2, h3⟩ := run_append_C (P := P) w B t o.type e i z bytes ht hi hz hsize hby hzs hsz hzw v xs hown ad c y hl hnews h1 hyw h63 hbytes hbase
  unfold Oper.wp execOp
  simp only [ho, resolve, invoke, builtin, Sem.run_bind, Sem.run_pure, Result.andThen_ok, List.map_toArray, List.map_cons, List.map_nil, hs, hx, hr]
  exact h v' w' h2 h3
theorem wpList_append_C {P : Program} (w : World) {V : Type} {k : Nat} {cells : V → List Value} {ops : Array Oper} {rest : List Oper} {o : Oper} {a : Act} {Q : Exit → Act → World → Prop} (hgd : o.guard = none) (s x : Operand) (t : TypeId)
    (ho : o.op = .call { callee := .builtin .append, args := #[s, x], argTypes := #[t, t] })
    (B : Nat) (e : TypeId) (i : TypeInfo) (z : Value) (bytes : Nat) (ht : P.underlying t = some (.slice e)) (hi : P.info? e = some i) (hz : i.zero = some z)
    (hsize : i.size = k) (hby : i.bytes = bytes) (hzs : z.cells.size = k) (hsz : 0 < k) (hzw : ∀ u ∈ z.cells.toList, NoW u)
    (v : Value) (xs : List V) (hs : a.eval s = v) (hown : OwnC k cells e B w v xs)
    (ad : Addr) (c : Nat) (y : V) (hx : a.eval x = .slice (some ad) 1 c) (hl : (cells y).length = k) (hnews : ∀ j u, (cells y)[j]? = some u → w.cell? (ad.add j) = some u) (h1 : ∀ u ∈ cells y, u.oneCell' = true) (hyw : ∀ u ∈ cells y, NoW u)
    (h63 : xs.length + 1 ≤ maxLen) (hbytes : (xs.length + 1) * bytes ≤ 140737488355328) (hbase : B ≤ w.heap.size)
    (h : ∀ v' w', OwnC k cells e B w' v' (xs ++ [y]) → w.grownBy w' v.ownBlock → wpList P ops Q rest (a.put o.dst v') w') : wpList P ops Q (o :: rest) a w :=
  wpList_plain hgd fun _ hK => wp_append_C w s x t ho B e i z bytes ht hi hz hsize hby hzs hsz hzw v xs hs hown ad c y hx hl hnews h1 hyw h63 hbytes hbase fun v' w' h2 h3 => hK _ _ (h v' w' h2 h3)

end Go.Proofs.YtibgpeaplmcogaaGreatDoor

namespace Go.Proofs.YtibgpeaplmcogaaGreatDoor
set_option maxRecDepth 100000
open Go.RowKit
set_option linter.unusedVariables false
set_option linter.unusedSimpArgs false

/-- the operands' numbers -/
def opsI (op a b : Int) : List Int := if arity op = 1 then [a] else if arity op = 2 then [a, b] else []
theorem two_new (w w1 : World) (g : Nat) (a b : Int) (t : TypeId) (ha : I64 a) (hb : I64 b) (h : Box t w1 g #[.int .i64 a, .int .i64 b]) (m : Nat) (hm : m ≤ 2) : SlZ w1 (some ⟨g, 0, none⟩) m 2 ([a, b].take m) := by
  refine ⟨⟨by rw [List.length_take]; simp; omega, by omega, by unfold maxLen; omega, fun x hx => ?_⟩, fun h0 => ⟨g, 0, rfl, h.lt, fun j hj i hi => ?_⟩⟩
  · have := List.mem_of_mem_take hx
    simp only [List.mem_cons, List.not_mem_nil, or_false] at this
    rcases this with rfl | rfl
    · exact ⟨ha, rfl⟩
    · exact ⟨hb, rfl⟩
  · obtain rfl : i = 0 := by omega
    rw [h.cell, Nat.zero_add, Nat.mul_one, Nat.add_zero, List.getElem?_take, if_pos hj]
    match j with
    | 0 => rfl
    | 1 => rfl
    | j + 2 => exact absurd hj (by omega)
def RetZ (zs : List Int) (w : World) (e : Ending) (w' : World) : Prop := ∃ A n c, e = .returned (.slice A n c) ∧ SlZ w' A n c zs ∧ Below w.heap.size w w'

set_option maxRecDepth 100000 in
set_option maxHeartbeats 4000000 in
theorem line_operands {op a b : Int} {q : RQ} (ha : I64 a) (hb : I64 b) (w : World) :
    Calls Tryz.prog 49 #[.agg #[.int .i64 op, .int .i64 a, .int .i64 b, .bool q.s, .slice q.A q.n q.c, .slice q.A' q.n' q.c']] w (RetZ (opsI op a b) w) := by
  have AR := fun (w1 : World) => line_arity op w1
  have ho : opsI op a b = [a, b].take (max (arity op) 0).toNat := by
    unfold opsI
    rcases ar_cases op with ⟨c, d⟩ | ⟨c, d1, d2⟩ | ⟨c, d1, d2⟩ | ⟨c, d1, d2⟩ <;> rw [c] <;> rfl
  have hr : arity op = 0 ∨ arity op = 1 ∨ arity op = 2 ∨ arity op = -1 := by
    rcases ar_cases op with ⟨c, d⟩ | ⟨c, d1, d2⟩ | ⟨c, d1, d2⟩ | ⟨c, d1, d2⟩ <;> omega
  rw [ho]
  generalize arity op = r at *
  obtain ⟨V, hW, Bx, hb0⟩ := box0 27 w #[.int .i64 op, .int .i64 a, .int .i64 b, .bool q.s, .slice q.A q.n q.c, .slice q.A' q.n' q.c']
  have hS : ∀ w', Below V.heap.size V w' → w'.cell? ⟨w.heap.size, 0, none⟩ = some (.int .i64 op) ∧ w'.cell? ⟨w.heap.size, 1, none⟩ = some (.int .i64 a) ∧ w'.cell? ⟨w.heap.size, 2, none⟩ = some (.int .i64 b) := fun w' hb9 => ⟨(Bx.below' hb9).six.1.1, (Bx.below' hb9).six.1.2.1, (Bx.below' hb9).six.1.2.2.1⟩
  have HAR := Lib.hid AR
  have HS := Lib.hid hS
  have HW := Lib.hid hW
  clear AR ho hS hW Bx
  rcases hr with rfl | rfl | rfl | rfl
  all_goals
    go_enter Tryz.func49, Tryz.ntmps49
    go_wp2_with fail
    rw [HW.out]
    obtain ⟨k0, k1, k2⟩ := HS.out _ (Below.refl _ V)
    go_region_held3 (fun w' => w'.cell? ⟨w.heap.size, 0, none⟩ = some (.int .i64 op) ∧ w'.cell? ⟨w.heap.size, 1, none⟩ = some (.int .i64 a) ∧ w'.cell? ⟨w.heap.size, 2, none⟩ = some (.int .i64 b)) (first | exact HS.out _ (Below.refl _ V).drew | exact HS.out _ ((Below.refl _ V).drew.alloc (by simp) _) | fail)
      (first
        | (go_at_call 18; (with_reducible refine (HAR.out _).mono ?_); rintro _ _ ⟨rfl, rfl⟩))
    all_goals
      go_wp2_with fail
      go_ret
      exact ⟨_, _, _, rfl, two_new w _ _ a b 3 ha hb (Box.new V.drew _ _) _ (by decide), bb hb0 ((Below.refl _ V).drew.alloc (by simp) _)⟩

end Go.Proofs.YtibgpeaplmcogaaGreatDoor
