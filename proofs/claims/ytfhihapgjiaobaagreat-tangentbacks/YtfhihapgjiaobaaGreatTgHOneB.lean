/-
  What tangent.zeros, accumulate, divideOn and handOn return. Conditions: as each lemma says.
-/
import Derived.Test.YtfhihapgjiaobaaGreatTgNeAllB
import Derived.Deep.RegionWith
namespace Go.Proofs.YtfhihapgjiaobaaGreat
set_option maxRecDepth 100000
open Go.RowKit
set_option linter.unusedVariables false
set_option linter.unusedSimpArgs false

/-- the cells of an element of an owned row -/
theorem OwnC.three {B : Nat} {t : TypeId} {w : World} {g n cap : Nat} {xs : List RQ} (h : OwnC 3 RQ.cells t B w (.slice (some ⟨g, 0, none⟩) n cap) xs) {i : Nat} (hi : i < n) : ∃ x, xs[i]? = some x ∧
    (w.cell? ⟨g, i * 3, none⟩ = some (.bool x.s) ∧ w.cell? ⟨g, i * 3 + 1, none⟩ = some (.slice x.A x.n x.c) ∧ w.cell? ⟨g, i * 3 + 2, none⟩ = some (.slice x.A' x.n' x.c')) ∧
    (w.frozen? ⟨g, i * 3, none⟩ = false ∧ w.frozen? ⟨g, i * 3 + 1, none⟩ = false ∧ w.frozen? ⟨g, i * 3 + 2, none⟩ = false) := by
  have hl := h.lt_.2.2
  obtain ⟨hk, h2⟩ := h
  rcases h2 with ⟨e, _⟩ | ⟨g1, cap', cur, e, h1, h2, h3, h4, h5, h6, _⟩
  · injection e with e1; cases e1
  · injection e with e1 e2 e3
    injection e1 with e1
    injection e1 with e1
    subst e1 e3
    have hx : xs[i]? = some (xs[i]'(by omega)) := List.getElem?_eq_getElem (by omega)
    have hc : ∀ r, r < 3 → w.cell? ⟨g, i * 3 + r, none⟩ = (RQ.cells (xs[i]'(by omega)))[r]? := fun r hr => by
      rw [cell_of_row w g (i * 3 + r) cur t (0, 0) h2]
      have := flat_at xs hk i r hr
      rw [← h6, List.getElem?_take, if_pos (by omega), hx] at this
      rw [← Array.getElem?_toList, this]; rfl
    have hf : ∀ i, w.frozen? ⟨g, i, none⟩ = false := fun i => by simp [World.frozen?, h2]
    exact ⟨_, hx, ⟨hc 0 (by omega), hc 1 (by omega), hc 2 (by omega)⟩, hf _, hf _, hf _⟩
def rqOf (s : Bool) (A : Option Addr) (n c : Nat) (A' : Option Addr) (n' c' : Nat) (X : Rat) : RQ := ⟨s, A, n, c, words X.num.natAbs, A', n', c', words X.den⟩
theorem rqOf_ok {w : World} {s : Bool} {A A' : Option Addr} {n c n' c' N : Nat} {X : Rat} (h : Q w s A n c A' n' c' X) (hX : Sz X N) (hN : N ≤ 1000000) : (rqOf s A n c A' n' c' X).ok w ∧ (rqOf s A n c A' n' c' X).is w X := by
  have l1 : n ≤ maxLen := by have := h.2.1.small hX.1; unfold maxLen; omega
  have l2 : n' ≤ maxLen := by have := h.2.2.small hX.2; unfold maxLen; omega
  refine ⟨?_, ?_⟩
  · show Sl w A n c _ ∧ Sl w A' n' c' _ ∧ n ≤ maxLen ∧ n' ≤ maxLen
    exact ⟨h.2.1, h.2.2, l1, l2⟩
  · exact h
/-- the same, by the number as it lies -/
theorem OwnQ.putQ {B : Nat} {w : World} {g n cap N : Nat} {Xs : List Rat} (h : OwnQ B w (.slice (some ⟨g, 0, none⟩) n cap) Xs) {i : Nat} (hi : i < n) {s : Bool} {A A' : Option Addr} {n1 c1 n2 c2 : Nat} {X : Rat} (q : Q w s A n1 c1 A' n2 c2 X) (hX : Sz X N) (hN : N ≤ 1000000) :
    OwnQ B (put3o w g (i * 3) (.bool s) (.slice A n1 c1) (.slice A' n2 c2)) (.slice (some ⟨g, 0, none⟩) n cap) (Xs.set i X) := by
  obtain ⟨r1, r2⟩ := rqOf_ok q hX hN
  exact h.put (x := rqOf s A n1 c1 A' n2 c2 X) hi r1 r2
def rq0 : RQ := ⟨false, none, 0, 0, [], none, 0, 0, []⟩
/-- make([]api.Rat, n) -/
theorem make_rats (w : World) (n : Nat) (hn : n ≤ 1000000) : ∃ w1, (Instr.makeSlice 23 (.int .i64 (n : Int)) (.int .i64 (n : Int))).run Tryz.prog w = .ok (.slice (some ⟨w.heap.size, 0, none⟩) n n) w1 ∧ OwnC 3 RQ.cells 45 w.heap.size w1 (.slice (some ⟨w.heap.size, 0, none⟩) n n) (List.replicate n rq0) ∧ Below w.heap.size w w1 := by
  obtain ⟨i, h1, h2, h3, h4⟩ := info_parts infoQ
  have hr := run_make (P := Tryz.prog) w 23 45 i _ Tryz.underlying23 h1 h2 .i64 .i64 n n (by omega) (by omega) (by rw [h4]; omega) (by omega)
  simp only [Int.toNat_natCast, h3] at hr
  have hall : ∀ x ∈ List.replicate n rq0, (RQ.cells x).length = 3 := fun x _ => rfl
  refine ⟨_, hr, ⟨hall, .inr ⟨w.heap.size, n, _, by rw [List.length_replicate], Nat.le_refl _, heap_alloc_new w _, by rw [List.length_replicate]; exact Nat.le_refl _, by unfold maxLen; omega, size_madeCells _ _, ?_, ?_⟩⟩, below_alloc _ _⟩
  · rw [List.length_replicate]
    apply List.ext_getElem?
    intro k
    have hlen : (madeCells (Value.agg #[.bool false, .slice none 0 0, .slice none 0 0]).cells (n * 3)).toList.length = n * 3 := by rw [Array.length_toList, size_madeCells]
    rw [List.take_of_length_le (by omega)]
    by_cases hk : k < n * 3
    · have hk3 : k = k / 3 * 3 + k % 3 := by omega
      have hr3 : k % 3 < 3 := Nat.mod_lt _ (by omega)
      conv => rhs; rw [hk3]
      rw [flat_at (k := 3) (List.replicate n rq0) hall (k / 3) (k % 3) hr3, List.getElem?_replicate, if_pos (by omega)]
      unfold madeCells
      rw [Array.toList_map, List.getElem?_map, Array.getElem?_toList, Array.getElem?_range, if_pos hk]
      have h3' : k % 3 = 0 ∨ k % 3 = 1 ∨ k % 3 = 2 := by omega
      rcases h3' with e | e | e <;> (show some ((#[Value.bool false, .slice none 0 0, .slice none 0 0] : Array Value)[k % 3]!) = _; rw [e]; rfl)
    · rw [List.getElem?_eq_none (by omega), List.getElem?_eq_none (by rw [flat_len _ hall, List.length_replicate]; omega)]
  · intro u hu
    unfold madeCells at hu
    simp only [Array.toList_map, List.mem_map] at hu
    obtain ⟨i, _, rfl⟩ := hu
    have hlt := Nat.mod_lt i (show 0 < (Value.agg #[.bool false, .slice none 0 0, .slice none 0 0]).cells.size by decide)
    rw [getElem!_pos (Value.agg #[.bool false, .slice none 0 0, .slice none 0 0]).cells (i % _) hlt]
    exact zeroQ _ (by simp)

set_option maxRecDepth 100000 in
set_option maxHeartbeats 4000000 in
theorem tg_zeros (w : World) (n : Nat) (hn : n ≤ 65536) :
    Calls Tryz.prog 32 #[.int .i64 (n : Int)] w (fun e w' => ∃ g, e = .returned (.slice (some ⟨g, 0, none⟩) n n) ∧ OwnQ w.heap.size w' (.slice (some ⟨g, 0, none⟩) n n) (List.replicate n 0) ∧ Below w.heap.size w w') := by
  obtain ⟨w1, hmk, ho, b1⟩ := make_rats w n (by omega)
  have HO := Lib.hid ho
  clear ho
  go_enter Tryz.func32, Tryz.ntmps32
  go_wp2_with fail
  clear hmk
  go_loopw [9] (fun iv wr => ∃ (k : Nat) (xs : List RQ), k ≤ n ∧ iv = .int .i64 k ∧ Hid (OwnC 3 RQ.cells 45 w.heap.size wr (.slice (some ⟨w.heap.size, 0, none⟩) n n) xs) ∧ Hid (∀ (j : Nat) (x : RQ), xs[j]? = some x → j < k → x.ok wr ∧ x.is wr 0) ∧ Below w.heap.size w wr) (fun iv _ => n - mes iv)
  case atStart => exact ⟨0, _, by omega, rfl, HO, Lib.hid (fun j x _ hj => by omega), b1⟩
  case round =>
    clear HO b1
    obtain ⟨k, xs, hk, rfl, HX, HS, hb⟩ := hrel
    by_cases hk2 : k < n
    · go_wp2_with fail
      with_reducible refine (rat_of 0 (by omega) (by omega) _).mono ?_
      rintro _ w2 ⟨s1, A1, n1, c1, E1, m1, d1, rfl, q1, b2⟩
      have h2 := HX.out.below b2
      obtain ⟨x, hx, ⟨k0, k1, k2⟩, f0, f1, f2⟩ := h2.three hk2
      have H2 := Lib.hid h2
      have HQ := Lib.hid q1
      clear h2 q1 hx
      go_wp2_with fail
      go_roundw
      case rel =>
        have hkp := keep_put3o w2 w.heap.size (k * 3) (.bool s1) (.slice A1 n1 c1) (.slice E1 m1 d1)
        have hnw := H2.out.noW w.heap.size rfl
        refine ⟨k + 1, xs.set k ⟨s1, A1, n1, c1, words (0 : Rat).num.natAbs, E1, m1, d1, words (0 : Rat).den⟩, by omega, by go_num, Lib.hid (H2.out.put3o hk2 ⟨s1, A1, n1, c1, words (0 : Rat).num.natAbs, E1, m1, d1, words (0 : Rat).den⟩), Lib.hid (fun j y hy hj => ?_), Below.keep (bb hb b2) hkp (Nat.le_refl _) (Nat.le_refl _)⟩
        rw [List.getElem?_set] at hy
        by_cases e : k = j
        · subst e
          rw [if_pos rfl, if_pos (by have := H2.out.lt_.2.2; omega)] at hy
          injection hy with hy
          subst hy
          have q2 := HQ.out.keepN hnw hkp
          exact ⟨⟨q2.2.1, q2.2.2, by have := q2.2.1.len; have e0 : (words ((0 : Int) : Rat).num.natAbs).length = 0 := by decide +kernel
                                     show n1 ≤ maxLen
                                     unfold maxLen; omega, by have := q2.2.2.len; have e0 : (words ((0 : Int) : Rat).den).length = 1 := by decide +kernel
                                                              show m1 ≤ maxLen
                                                              unfold maxLen; omega⟩, q2⟩
        · rw [if_neg e] at hy
          obtain ⟨g1, g2⟩ := HS.out j y hy (by omega)
          exact ⟨RQ.keepN (RQ.below g1 b2) hnw hkp, Q.keepN (Q.below g2 b2) hnw hkp⟩
      case measure => simp [mes, intOf]; omega
    · obtain rfl : k = n := by omega
      go_wp2_with fail
      go_ret
      have hl := HX.out.lt_.2.2
      exact ⟨_, rfl, ⟨xs, HX.out, by rw [List.length_replicate]; exact hl, fun j x hx => by
        have hj : j < k := by
          rcases Nat.lt_or_ge j xs.length with h9 | h9
          · omega
          · rw [List.getElem?_eq_none h9] at hx; cases hx
        have e0 : (List.replicate k (0 : Rat)).getD j 0 = 0 := by rw [List.getD_eq_getElem?_getD, List.getElem?_replicate, if_pos hj]; rfl
        rw [e0]
        exact HS.out j x hx hj⟩, hb⟩

/-- what is put in its place: one contract's end for all -/
def RetAcc (B g n cap : Nat) (Ys : List Rat) (w : World) (e : Ending) (w' : World) : Prop := e = .returned (.tuple #[]) ∧ OwnQ B w' (.slice (some ⟨g, 0, none⟩) n cap) Ys ∧ Keep g w w'
def RetHand (B g n cap : Nat) (r : Except Int (List Rat)) (w : World) (e : Ending) (w' : World) : Prop := match r with
  | .ok Ys => e = .returned (.int .i64 0) ∧ OwnQ B w' (.slice (some ⟨g, 0, none⟩) n cap) Ys ∧ Keep g w w'
  | .error k => e = .returned (.int .i64 k) ∧ Keep g w w'

set_option maxRecDepth 100000 in
set_option maxHeartbeats 4000000 in
theorem tg_accumulate {w : World} {B g n cap i N : Nat} {Xs : List Rat} {s : Bool} {A A' : Option Addr} {n1 c1 n2 c2 : Nat} {X : Rat} (h : OwnQ B w (.slice (some ⟨g, 0, none⟩) n cap) Xs) (hi : i < n) (q : Q w s A n1 c1 A' n2 c2 X) (hX : Sz X N) (hY : Sz (Xs.getD i 0) N) (hN : N ≤ 40000) :
    Calls Tryz.prog 33 #[.slice (some ⟨g, 0, none⟩) n cap, .int .i64 (i : Int), .agg #[.bool s, .slice A n1 c1, .slice A' n2 c2]] w (RetAcc B g n cap (addAt Xs i X) w) := by
  obtain ⟨V, hW, Ba, hb0⟩ := box0 45 w #[.bool s, .slice A n1 c1, .slice A' n2 c2]
  have hV := h.below hb0
  obtain ⟨s0, A0, n0, c0, D0, m0, d0, k0, k1, k2, q0, f0, f1, f2⟩ := hV.at_ hi
  have AD := rat_add (q0.below (Below.refl _ V).drew) ((q.below hb0).below (Below.refl _ V).drew) hY hX hN
  have HAD := Lib.hid AD
  have HW := Lib.hid hW
  have HV := Lib.hid hV
  have hi2 : (i : Int) < (n : Int) := by omega
  obtain ⟨a0, a1, a2⟩ := Ba.three.1
  have HSZ := Lib.hid (And.intro hX hY)
  clear AD hW Ba h hV q q0 hX hY
  go_enter Tryz.func33, Tryz.ntmps33
  go_wp2_with fail
  rw [HW.out]
  go_region_with (go_at_call 18; refine HAD.out.mono ?_; rintro _ w1 ⟨s1, A1, n1, c1, E1, m1, d1, rfl, q1, b1⟩; have b1 := Below.undrew b1; obtain ⟨s9, A9, n9, c9, D9, m9, d9, j0, j1, j2, _, g0, g1, g2⟩ := (HV.out.below b1).at_ hi)
  all_goals
    go_wp2_with fail
    go_end0
    have zz := HSZ.out.2.add HSZ.out.1
    have o9 := (HV.out.below b1).putQ hi q1 zz (by omega)
    exact ⟨rfl, o9, (Keep.of_below g (bb hb0 b1)).trans (keep_put3o w1 g (i * 3) _ _ _)⟩

set_option maxRecDepth 100000 in
set_option maxHeartbeats 4000000 in
theorem tg_divideOn {w : World} {B g n cap i N : Nat} {Xs : List Rat} {s t : Bool} {A A' C C' : Option Addr} {n1 c1 n2 c2 m1 d1 m2 d2 : Nat} {X Y : Rat} (h : OwnQ B w (.slice (some ⟨g, 0, none⟩) n cap) Xs) (hi : i < n) (q : Q w s A n1 c1 A' n2 c2 X) (p : Q w t C m1 d1 C' m2 d2 Y) (hX : Sz X 129) (hY : Sz Y 129) (hZ : Sz (Xs.getD i 0) N) (hN1 : 300 ≤ N) (hN : N ≤ 40000) (h0 : Y ≠ 0) :
    Calls Tryz.prog 72 #[.slice (some ⟨g, 0, none⟩) n cap, .int .i64 (i : Int), .agg #[.bool s, .slice A n1 c1, .slice A' n2 c2], .agg #[.bool t, .slice C m1 d1, .slice C' m2 d2]] w (RetHand B g n cap (.ok (addAt Xs i (X / Y))) w) := by
  obtain ⟨V, hW, Ba, Bb, hb0⟩ := boxes1 45 w #[.bool s, .slice A n1 c1, .slice A' n2 c2] #[.bool t, .slice C m1 d1, .slice C' m2 d2]
  have hXY : Sz (X / Y) N := by rw [Rat.div_def]; exact (hX.mul hY.inv).mono (by omega)
  have K := rat_div (q.below hb0) (p.below hb0) hX hY (by omega) h0
  have HK := Lib.hid K
  have HW := Lib.hid hW
  have HV := Lib.hid (h.below hb0)
  clear K hW Ba Bb h q p h0 hX hY
  generalize X / Y = Z at *
  go_enter Tryz.func72, Tryz.ntmps72
  go_wp2_with fail
  rw [HW.out]
  with_reducible refine HK.out.mono ?_
  rintro _ w1 ⟨s1, A1, n1, c1, E1, m1, d1, rfl, q1, b1⟩
  obtain ⟨V2, hW2, Bt, hb2⟩ := box0 45 w1 #[.bool s1, .slice A1 n1 c1, .slice E1 m1 d1]
  have AC := tg_accumulate ((HV.out.below b1).below hb2) hi (q1.below hb2) hXY hZ hN
  have HAC := Lib.hid AC
  have HW2 := Lib.hid hW2
  clear AC hW2 Bt q1
  go_wp2_with fail
  rw [HW2.out]
  with_reducible refine HAC.out.mono ?_
  rintro _ w3 ⟨rfl, o3, k3⟩
  go_wp2_with fail
  go_ret
  exact ⟨rfl, o3, (Keep.of_below g (bb hb0 (bb b1 hb2))).trans k3⟩

set_option maxRecDepth 100000 in
set_option maxHeartbeats 4000000 in
theorem tg_divideOn_no {w : World} {B g n cap i : Nat} {s t : Bool} {A A' C C' : Option Addr} {n1 c1 n2 c2 m1 d1 m2 d2 : Nat} {X Y : Rat} (q : Q w s A n1 c1 A' n2 c2 X) (p : Q w t C m1 d1 C' m2 d2 Y) (hX : Sz X 129) (hY : Sz Y 129) (h0 : Y = 0) :
    Calls Tryz.prog 72 #[.slice (some ⟨g, 0, none⟩) n cap, .int .i64 (i : Int), .agg #[.bool s, .slice A n1 c1, .slice A' n2 c2], .agg #[.bool t, .slice C m1 d1, .slice C' m2 d2]] w (RetHand B g n cap (.error 4) w) := by
  obtain ⟨V, hW, Ba, Bb, hb0⟩ := boxes1 45 w #[.bool s, .slice A n1 c1, .slice A' n2 c2] #[.bool t, .slice C m1 d1, .slice C' m2 d2]
  have K := rat_div_zero (q.below hb0) (p.below hb0) hX hY (by omega) h0
  have HK := Lib.hid K
  have HW := Lib.hid hW
  clear K hW Ba Bb q p h0 hX hY
  go_enter Tryz.func72, Tryz.ntmps72
  go_wp2_with fail
  rw [HW.out]
  with_reducible refine HK.out.mono ?_
  rintro _ w1 ⟨rfl, b1⟩
  go_wp2_with fail
  go_ret
  exact ⟨rfl, Keep.of_below g ((bb hb0 b1).alloc (bb hb0 b1).size _)⟩

end Go.Proofs.YtfhihapgjiaobaaGreat
