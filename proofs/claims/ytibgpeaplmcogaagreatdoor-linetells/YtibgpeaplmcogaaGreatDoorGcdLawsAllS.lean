/-
  Words that the laws of exact numbers use: what is known to be so; gradinelaw07.same and right.
-/
import Derived.Test.YtibgpeaplmcogaaGreatDoorRefShiftAllS
import Derived.Test.YtibgpeaplmcogaaGreatDoorRefMakeAllS
import Derived.Deep.RegionHeld3
import Derived.Test.YtibgpeaplmcogaaGreatDoorLnMemAllS
import Derived.IntWalk
namespace Go.Proofs.YtibgpeaplmcogaaGreatDoor
set_option maxRecDepth 100000
open Go.RowKit
set_option linter.unusedVariables false
set_option linter.unusedSimpArgs false

end Go.Proofs.YtibgpeaplmcogaaGreatDoor

namespace Go.Proofs.YtibgpeaplmcogaaGreatDoor
set_option maxRecDepth 100000
set_option linter.unusedVariables false
set_option linter.unusedSimpArgs false

/-- a natural with a sign -/
def sI (s : Bool) (p : Nat) : Int := if s then -(p : Int) else p
/-- the number of a sign and two naturals -/
def rq (s : Bool) (p q : Nat) : Rat := mkRat (sI s p) q
def neg_ (X : Rat) : Bool := decide (X.num < 0)

theorem sI_natAbs (s : Bool) (p : Nat) : (sI s p).natAbs = p := by unfold sI; cases s <;> simp
theorem sI_neg (s : Bool) (p : Nat) : decide (sI s p < 0) = (s && decide (p ≠ 0)) := by
  unfold sI; cases s
  · simp
  · rw [Bool.eq_iff_iff]; simp only [if_true, decide_eq_true_eq, Bool.true_and]; omega
theorem sI_mul_nat (s : Bool) (p q : Nat) : sI s (p * q) = sI s p * q := by
  unfold sI; cases s <;> simp [Int.neg_mul]
/-- in lowest terms -/
theorem rq_cop {s : Bool} {p q : Nat} (h0 : q ≠ 0) (h : Nat.gcd p q = 1) : (rq s p q).num = sI s p ∧ (rq s p q).den = q := by
  unfold rq
  rw [Rat.num_mkRat, Rat.den_mkRat, if_neg h0, if_neg h0, sI_natAbs, Nat.gcd_comm, h]
  simp
theorem rq_red (s : Bool) (p q : Nat) (h0 : q ≠ 0) : rq s p q = rq s (p / Nat.gcd p q) (q / Nat.gcd p q) := by
  have hg : Nat.gcd p q ≠ 0 := fun e => h0 (Nat.eq_zero_of_gcd_eq_zero_right e)
  have h1 : p / Nat.gcd p q * Nat.gcd p q = p := Nat.div_mul_cancel (Nat.gcd_dvd_left p q)
  have h2 : q / Nat.gcd p q * Nat.gcd p q = q := Nat.div_mul_cancel (Nat.gcd_dvd_right p q)
  unfold rq
  have h3 := Rat.mkRat_mul_right (n := sI s (p / Nat.gcd p q)) (d := q / Nat.gcd p q) hg
  rw [← sI_mul_nat, h1, h2] at h3
  exact h3
theorem rq_num (s : Bool) (p q : Nat) (h0 : q ≠ 0) : (rq s p q).num.natAbs = p / Nat.gcd p q ∧ (rq s p q).den = q / Nat.gcd p q ∧ neg_ (rq s p q) = (s && decide (p / Nat.gcd p q ≠ 0)) := by
  have hg : 0 < Nat.gcd p q := Nat.pos_of_ne_zero fun e => h0 (Nat.eq_zero_of_gcd_eq_zero_right e)
  have hq : q / Nat.gcd p q ≠ 0 := by
    have := Nat.div_pos (Nat.le_of_dvd (Nat.pos_of_ne_zero h0) (Nat.gcd_dvd_right p q)) hg
    omega
  have hc : Nat.gcd (p / Nat.gcd p q) (q / Nat.gcd p q) = 1 := Nat.gcd_div_gcd_div_gcd_of_pos_right (Nat.pos_of_ne_zero h0)
  obtain ⟨h1, h2⟩ := rq_cop (s := s) hq hc
  rw [← rq_red s p q h0] at h1 h2
  refine ⟨by rw [h1, sI_natAbs], h2, ?_⟩
  unfold neg_
  rw [h1, sI_neg]
theorem rq_cop' {s : Bool} {p q : Nat} (h0 : q ≠ 0) (h : Nat.gcd p q = 1) : (rq s p q).num.natAbs = p ∧ (rq s p q).den = q ∧ neg_ (rq s p q) = (s && decide (p ≠ 0)) := by
  obtain ⟨h1, h2⟩ := rq_cop (s := s) h0 h
  refine ⟨by rw [h1, sI_natAbs], h2, ?_⟩
  unfold neg_; rw [h1, sI_neg]
theorem den_ne (X : Rat) : X.den ≠ 0 := X.den_nz
/-- both numbers have at most N words -/
def Sz (X : Rat) (N : Nat) : Prop := X.num.natAbs < W ^ N ∧ X.den < W ^ N
theorem Sz.mono {X : Rat} {N M : Nat} (h : Sz X N) (hm : N ≤ M) : Sz X M :=
  ⟨Nat.lt_of_lt_of_le h.1 (Nat.pow_le_pow_right W_pos hm), Nat.lt_of_lt_of_le h.2 (Nat.pow_le_pow_right W_pos hm)⟩
theorem rq_sz {s : Bool} {p q N : Nat} (h0 : q ≠ 0) (hp : p < W ^ N) (hq : q < W ^ N) : Sz (rq s p q) N := by
  obtain ⟨h1, h2, _⟩ := rq_num s p q h0
  refine ⟨?_, ?_⟩
  · rw [h1]; exact Nat.lt_of_le_of_lt (Nat.div_le_self _ _) hp
  · rw [h2]; exact Nat.lt_of_le_of_lt (Nat.div_le_self _ _) hq
theorem two_pow_W (k : Nat) : 2 * W ^ k ≤ W ^ (k + 1) := by
  rw [Nat.pow_succ, Nat.mul_comm]; exact Nat.mul_le_mul_left _ (by unfold W; omega)
theorem mk_rq (z : Int) (q : Nat) : ∃ s, rq s z.natAbs q = mkRat z q := by
  refine ⟨decide (z < 0), ?_⟩
  unfold rq sI
  by_cases h : z < 0
  · simp [h]; congr 1; omega
  · simp [h]; congr 1; omega
theorem mk_sz {z : Int} {q N : Nat} (h0 : q ≠ 0) (hp : z.natAbs < W ^ N) (hq : q < W ^ N) : Sz (mkRat z q) N := by
  obtain ⟨s, h⟩ := mk_rq z q
  rw [← h]; exact rq_sz h0 hp hq
theorem Sz.add {X Y : Rat} {N M : Nat} (h : Sz X N) (k : Sz Y M) : Sz (X + Y) (N + M + 1) := by
  rw [Rat.add_def']
  have a1 := mul_lt_powW h.1 k.2
  have a2 := mul_lt_powW k.1 h.2
  have a3 := mul_lt_powW h.2 k.2
  have e : W ^ (M + N) = W ^ (N + M) := by rw [Nat.add_comm]
  rw [e] at a2
  have t := two_pow_W (N + M)
  refine mk_sz (Nat.mul_ne_zero (den_ne _) (den_ne _)) ?_ (by omega)
  have := Int.natAbs_add_le (X.num * Y.den) (Y.num * X.den)
  rw [Int.natAbs_mul, Int.natAbs_mul, Int.natAbs_natCast, Int.natAbs_natCast] at this
  omega
end Go.Proofs.YtibgpeaplmcogaaGreatDoor

namespace Go.Proofs.YtibgpeaplmcogaaGreatDoor
set_option maxRecDepth 100000
open Go.RowKit
set_option linter.unusedVariables false
set_option linter.unusedSimpArgs false

/-- the struct of the sign s and the slices (A n c), (A' n' c') reads, in w, as X -/
def Q (w : World) (s : Bool) (A : Option Addr) (n c : Nat) (A' : Option Addr) (n' c' : Nat) (X : Rat) : Prop :=
  s = neg_ X ∧ Sl w A n c (words X.num.natAbs) ∧ Sl w A' n' c' (words X.den)
theorem Q.below {w w' : World} {s : Bool} {A A' : Option Addr} {n c n' c' : Nat} {X : Rat} (h : Q w s A n c A' n' c' X) (hb : Below w.heap.size w w') : Q w' s A n c A' n' c' X :=
  ⟨h.1, h.2.1.below hb, h.2.2.below hb⟩
theorem Q.drewN {w : World} {s : Bool} {A A' : Option Addr} {n c n' c' : Nat} {X : Rat} (h : Q w s A n c A' n' c' X) (k : Nat) : Q (w.drewN k) s A n c A' n' c' X := h
/-- block g of w is just the cells vs, none frozen -/
def Box (t : TypeId) (w : World) (g : Nat) (vs : Array Value) : Prop := w.heap[g]? = some (.cells vs t (0, 0))
section
variable {t : TypeId} {w w' : World} {g : Nat} {vs : Array Value}
theorem Box.new (w : World) (t : TypeId) (vs : Array Value) : Box t (w.alloc (.cells vs t)) w.heap.size vs := heap_alloc_new w _
theorem Box.lt (h : Box t w g vs) : g < w.heap.size := by
  rcases Nat.lt_or_ge g w.heap.size with hlt | hge
  · exact hlt
  · unfold Box at h; rw [Array.getElem?_eq_none hge] at h; cases h
theorem Box.below {B : Nat} (h : Box t w g vs) (hb : Below B w w') (hg : g < B) : Box t w' g vs := (hb.block g hg).trans h
theorem Box.below' (h : Box t w g vs) (hb : Below w.heap.size w w') : Box t w' g vs := h.below hb h.lt
theorem Box.alloc (h : Box t w g vs) (o : Obj) : Box t (w.alloc o) g vs := h.below (below_alloc w o) h.lt
theorem Box.cell (h : Box t w g vs) (i : Nat) : w.cell? ⟨g, i, none⟩ = vs[i]? := by
  rw [cell_of_row w g i _ t (0, 0) h]
theorem Box.free (h : Box t w g vs) (i : Nat) : w.frozen? ⟨g, i, none⟩ = false := by
  unfold Box at h
  simp [World.frozen?, h]
/-- the three cells of a box of a number -/
theorem Box.three {v0 v1 v2 : Value} (h : Box t w g #[v0, v1, v2]) :
    (w.cell? ⟨g, 0, none⟩ = some v0 ∧ w.cell? ⟨g, 1, none⟩ = some v1 ∧ w.cell? ⟨g, 2, none⟩ = some v2) ∧
    (w.frozen? ⟨g, 0, none⟩ = false ∧ w.frozen? ⟨g, 1, none⟩ = false ∧ w.frozen? ⟨g, 2, none⟩ = false) :=
  ⟨⟨h.cell 0, h.cell 1, h.cell 2⟩, h.free 0, h.free 1, h.free 2⟩
end
/-- a box of a number (none of its cells is an integer) -/
def IsBox (t : TypeId) (w : World) (g : Nat) : Prop := ∃ s A n c A' n' c', Box t w g #[.bool s, .slice A n c, .slice A' n' c']
theorem IsBox.below {t : TypeId} {w w' : World} {g : Nat} (h : IsBox t w g) (hb : Below w.heap.size w w') : IsBox t w' g := by
  obtain ⟨s, A, n, c, A', n', c', h⟩ := h
  exact ⟨s, A, n, c, A', n', c', h.below' hb⟩
theorem bb {a b c : World} (h : Below a.heap.size a b) (k : Below b.heap.size b c) : Below a.heap.size a c := h.trans (k.mono h.size)
def RetBl (b : Bool) (w : World) (e : Ending) (w' : World) : Prop := e = .returned (.bool b) ∧ Below w.heap.size w w'
/-- the world behind the boxes of a number and of a result -/
theorem boxes1 (t : TypeId) (w : World) (vs us : Array Value) : ∃ W, (w.alloc (.cells vs t)).alloc (.cells us t) = W ∧ Box t W w.heap.size vs ∧ Box t W (w.heap.size + 1) us ∧ Below w.heap.size w W := by
  refine ⟨_, rfl, (Box.new w t vs).alloc _, ?_, (below_alloc _ _).alloc (by simp) _⟩
  have := Box.new (w.alloc (.cells vs t)) t us
  rw [show (w.alloc (.cells vs t)).heap.size = w.heap.size + 1 from by simp] at this
  exact this
end Go.Proofs.YtibgpeaplmcogaaGreatDoor

namespace Go.Proofs.YtibgpeaplmcogaaGreatDoor
set_option maxRecDepth 100000
open Go.RowKit
set_option linter.unusedVariables false
set_option linter.unusedSimpArgs false

set_option maxHeartbeats 1000000 in
theorem rat_isZero {w : World} {A : Option Addr} {n c : Nat} {xs : List Int} (h : Sl w A n c xs) (hn : n ≤ 1000000) :
    Calls Tryz.prog 122 #[.slice A n c] w fun e w' => e = .returned (.bool (decide (val xs = 0))) ∧ w = w' := by
  have NB := nat_bits h (by omega)
  have ez : (((blen (val xs) : Nat) : Int) == 0) = decide (val xs = 0) := by
    rw [Bool.eq_iff_iff]
    simp only [beq_iff_eq, decide_eq_true_eq]
    constructor
    · intro e
      by_cases hv : val xs = 0
      · exact hv
      · have := blen_pos (Nat.pos_of_ne_zero hv); omega
    · intro e; rw [e]; rfl
  generalize ((blen (val xs) : Nat) : Int) = bl at *
  obtain ⟨b, hb⟩ : ∃ b, decide (val xs = 0) = b := ⟨_, rfl⟩
  rw [hb] at ez ⊢
  have HN := Lib.hid NB
  clear NB hb
  go_enter Tryz.func122, Tryz.ntmps122
  go_wp2_with fail
  refine HN.out.mono ?_
  rintro e w' ⟨rfl, rfl⟩
  go_wp2_with fail
  go_ret
  exact ⟨rfl, rfl⟩

end Go.Proofs.YtibgpeaplmcogaaGreatDoor

namespace Go.Proofs.YtibgpeaplmcogaaGreatDoor
set_option maxRecDepth 100000
open Go.RowKit
set_option linter.unusedVariables false
set_option linter.unusedSimpArgs false

end Go.Proofs.YtibgpeaplmcogaaGreatDoor

namespace Go.Proofs.YtibgpeaplmcogaaGreatDoor
set_option maxRecDepth 100000
open Go.RowKit
set_option linter.unusedVariables false
set_option linter.unusedSimpArgs false

end Go.Proofs.YtibgpeaplmcogaaGreatDoor

namespace Go.Proofs.YtibgpeaplmcogaaGreatDoor
set_option maxRecDepth 100000
open Go.RowKit
set_option linter.unusedVariables false
set_option linter.unusedSimpArgs false

set_option maxHeartbeats 1000000 in
theorem plain_long {w : World} {s : Bool} {A A' : Option Addr} {n n' c c' : Nat} (k : Int) :
    Calls Tryz.prog 43 #[.agg #[.bool s, .slice A n c, .slice A' n' c'], .int .i64 k] w (RetBl (decide (k < n ∨ k < n')) w) := by
  by_cases h1 : k < n
  · rw [decide_eq_true (.inl h1)]
    go_enter Tryz.func43, Tryz.ntmps43
    go_wp2_with fail
    go_ret
    exact ⟨rfl, below_alloc _ _⟩
  · have e1 : decide (k < (n : Int)) = false := decide_eq_false h1
    obtain ⟨b, hb⟩ : ∃ b, decide (k < n ∨ k < n') = b := ⟨_, rfl⟩
    have e2 : decide (k < (n' : Int)) = b := by rw [← hb]; simp [h1]
    rw [hb]
    clear hb
    go_enter Tryz.func43, Tryz.ntmps43
    go_wp2_with fail
    go_ret
    exact ⟨rfl, below_alloc _ _⟩

/-- is a number valid? -/
def rightB (s : Bool) (xs ys : List Int) : Bool := decide (sz xs = xs.length ∧ sz ys = ys.length ∧ val ys ≠ 0 ∧ ¬ (s = true ∧ val xs = 0) ∧ Nat.gcd (val xs) (val ys) = 1)
theorem right_no1 {s : Bool} {xs ys : List Int} (h : ¬ sz xs = xs.length) : rightB s xs ys = false := decide_eq_false fun e => h e.1
theorem right_no2 {s : Bool} {xs ys : List Int} (h : ¬ sz ys = ys.length) : rightB s xs ys = false := decide_eq_false fun e => h e.2.1
theorem right_no3 {s : Bool} {xs ys : List Int} (h : val ys = 0) : rightB s xs ys = false := decide_eq_false fun e => e.2.2.1 h
theorem right_no4 {s : Bool} {xs ys : List Int} (h : s = true ∧ val xs = 0) : rightB s xs ys = false := decide_eq_false fun e => e.2.2.2.1 h
theorem right_yes {s : Bool} {xs ys : List Int} (h1 : sz xs = xs.length) (h2 : sz ys = ys.length) (h3 : val ys ≠ 0) (h4 : ¬ (s = true ∧ val xs = 0)) : rightB s xs ys = decide (Nat.gcd (val xs) (val ys) = 1) := by
  unfold rightB
  rw [Bool.eq_iff_iff]
  simp only [decide_eq_true_eq]
  exact ⟨fun e => e.2.2.2.2, fun e => ⟨h1, h2, h3, h4, e⟩⟩
/-- a valid number is a number of Lean's own -/
theorem right_Q {w : World} {s : Bool} {A A' : Option Addr} {n n' c c' N : Nat} {xs ys : List Int} (h : Sl w A n c xs) (h' : Sl w A' n' c' ys) (hn : n ≤ N) (hn' : n' ≤ N) (hr : rightB s xs ys = true) :
    ∃ X, Q w s A n c A' n' c' X ∧ Sz X N ∧ X = rq s (val xs) (val ys) := by
  unfold rightB at hr
  rw [decide_eq_true_eq] at hr
  obtain ⟨h1, h2, h3, h4, h5⟩ := hr
  obtain ⟨r1, r2, r3⟩ := rq_cop' (s := s) h3 h5
  have t1 : words (val xs) = xs := by rw [words_val (Dg_U h.us)]; unfold trim; rw [h1, List.take_length]
  have t2 : words (val ys) = ys := by rw [words_val (Dg_U h'.us)]; unfold trim; rw [h2, List.take_length]
  refine ⟨rq s (val xs) (val ys), ⟨?_, ?_, ?_⟩, ⟨?_, ?_⟩, rfl⟩
  · rw [r3]
    cases s
    · rfl
    · have : val xs ≠ 0 := fun e => h4 ⟨rfl, e⟩
      simp [this]
  · rw [r1, t1]; exact h
  · rw [r2, t2]; exact h'
  · rw [r1]; exact val_lt_pow h.us (by have := h.len; omega)
  · rw [r2]; exact val_lt_pow h'.us (by have := h'.len; omega)
set_option maxRecDepth 100000 in
set_option maxHeartbeats 4000000 in
theorem rat_right {w : World} {s : Bool} {A A' : Option Addr} {n n' c c' N : Nat} {xs ys : List Int} (h : Sl w A n c xs) (h' : Sl w A' n' c' ys) (hn : n ≤ N) (hn' : n' ≤ N) (hN : N ≤ 1000) :
    Calls Tryz.prog 68 #[.agg #[.bool s, .slice A n c, .slice A' n' c']] w (RetBl (rightB s xs ys) w) := by
  have N1 := fun w1 (hb : Below w.heap.size w w1) => nat_right (h.below hb) (by omega)
  have N2 := fun w1 (hb : Below w.heap.size w w1) => nat_right (h'.below hb) (by omega)
  have Z1 := fun w1 (hb : Below w.heap.size w w1) => rat_isZero (h.below hb) (by omega)
  have Z2 := fun w1 (hb : Below w.heap.size w w1) => rat_isZero (h'.below hb) (by omega)
  have CO := fun w1 (hb : Below w.heap.size w w1) => gcd_coprime (N := N) (h.below hb) (h'.below hb) hn hn' (by omega)
  have z1 : val xs = 0 ↔ sz xs = 0 := valB_zero_iff W_pos (Dg_U h.us)
  have z2 : val ys = 0 ↔ sz ys = 0 := valB_zero_iff W_pos (Dg_U h'.us)
  have e1 := h.len
  have e2 := h'.len
  by_cases h1 : sz xs = n
  · rw [decide_eq_true h1] at N1
    have HN1 := Lib.hid N1
    by_cases h2 : sz ys = n'
    · rw [decide_eq_true h2] at N2
      have HN2 := Lib.hid N2
      clear N1 N2
      by_cases h3 : val ys = 0
      · rw [right_no3 h3]
        rw [decide_eq_true h3] at Z2
        have HZ2 := Lib.hid Z2
        clear Z1 Z2 CO z1 z2 h1 h2 h3 e1 e2
        go_enter Tryz.func68, Tryz.ntmps68
        go_wp2_with fail
        refine (HN1.out _ (below_alloc _ _)).mono ?_
        rintro _ _ ⟨rfl, rfl⟩
        go_wp2_with fail
        refine (HN2.out _ (below_alloc _ _)).mono ?_
        rintro _ _ ⟨rfl, rfl⟩
        go_wp2_with fail
        refine (HZ2.out _ (below_alloc _ _)).mono ?_
        rintro _ _ ⟨rfl, rfl⟩
        go_wp2_with fail
        go_ret
        exact ⟨rfl, below_alloc _ _⟩
      · by_cases h4 : s = true ∧ val xs = 0
        · rw [right_no4 h4]
          rw [decide_eq_false h3] at Z2
          rw [decide_eq_true h4.2] at Z1
          have HZ2 := Lib.hid Z2
          have HZ1 := Lib.hid Z1
          obtain ⟨rfl, _⟩ := h4
          clear Z1 Z2 CO z1 z2 h1 h2 h3 e1 e2
          go_enter Tryz.func68, Tryz.ntmps68
          go_wp2_with fail
          refine (HN1.out _ (below_alloc _ _)).mono ?_
          rintro _ _ ⟨rfl, rfl⟩
          go_wp2_with fail
          refine (HN2.out _ (below_alloc _ _)).mono ?_
          rintro _ _ ⟨rfl, rfl⟩
          go_wp2_with fail
          refine (HZ2.out _ (below_alloc _ _)).mono ?_
          rintro _ _ ⟨rfl, rfl⟩
          go_wp2_with fail
          refine (HZ1.out _ (below_alloc _ _)).mono ?_
          rintro _ _ ⟨rfl, rfl⟩
          go_wp2_with fail
          go_ret
          exact ⟨rfl, below_alloc _ _⟩
        · rw [right_yes (by omega) (by omega) h3 h4]
          obtain ⟨bb', hbb⟩ : ∃ b, decide (Nat.gcd (val xs) (val ys) = 1) = b := ⟨_, rfl⟩
          rw [hbb]
          rw [decide_eq_false h3] at Z2
          rw [hbb] at CO
          have HZ2 := Lib.hid Z2
          have HZ1 := Lib.hid Z1
          have HCO := Lib.hid CO
          cases s
          · clear Z1 Z2 CO z1 z2 h1 h2 h3 h4 e1 e2 hbb
            go_enter Tryz.func68, Tryz.ntmps68
            go_wp2_with fail
            refine (HN1.out _ (below_alloc _ _)).mono ?_
            rintro _ _ ⟨rfl, rfl⟩
            go_wp2_with fail
            refine (HN2.out _ (below_alloc _ _)).mono ?_
            rintro _ _ ⟨rfl, rfl⟩
            go_wp2_with fail
            refine (HZ2.out _ (below_alloc _ _)).mono ?_
            rintro _ _ ⟨rfl, rfl⟩
            go_wp2_with fail
            refine (HCO.out _ (below_alloc _ _)).mono ?_
            rintro _ w1 ⟨rfl, b1⟩
            go_wp2_with fail
            go_ret
            exact ⟨rfl, bb (below_alloc _ _) b1⟩
          · rw [decide_eq_false (fun e => h4 ⟨rfl, e⟩)] at HZ1
            clear Z1 Z2 CO z1 z2 h1 h2 h3 h4 e1 e2 hbb
            go_enter Tryz.func68, Tryz.ntmps68
            go_wp2_with fail
            refine (HN1.out _ (below_alloc _ _)).mono ?_
            rintro _ _ ⟨rfl, rfl⟩
            go_wp2_with fail
            refine (HN2.out _ (below_alloc _ _)).mono ?_
            rintro _ _ ⟨rfl, rfl⟩
            go_wp2_with fail
            refine (HZ2.out _ (below_alloc _ _)).mono ?_
            rintro _ _ ⟨rfl, rfl⟩
            go_wp2_with fail
            refine (HZ1.out _ (below_alloc _ _)).mono ?_
            rintro _ _ ⟨rfl, rfl⟩
            go_wp2_with fail
            refine (HCO.out _ (below_alloc _ _)).mono ?_
            rintro _ w1 ⟨rfl, b1⟩
            go_wp2_with fail
            go_ret
            exact ⟨rfl, bb (below_alloc _ _) b1⟩
    · rw [decide_eq_false h2] at N2
      rw [right_no2 (by omega)]
      have HN2 := Lib.hid N2
      clear N1 N2 Z1 Z2 CO z1 z2 h1 h2 e1 e2
      go_enter Tryz.func68, Tryz.ntmps68
      go_wp2_with fail
      refine (HN1.out _ (below_alloc _ _)).mono ?_
      rintro _ _ ⟨rfl, rfl⟩
      go_wp2_with fail
      refine (HN2.out _ (below_alloc _ _)).mono ?_
      rintro _ _ ⟨rfl, rfl⟩
      go_wp2_with fail
      go_ret
      exact ⟨rfl, below_alloc _ _⟩
  · rw [decide_eq_false h1] at N1
    rw [right_no1 (by omega)]
    have HN1 := Lib.hid N1
    clear N1 N2 Z1 Z2 CO z1 z2 h1 e1 e2
    go_enter Tryz.func68, Tryz.ntmps68
    go_wp2_with fail
    refine (HN1.out _ (below_alloc _ _)).mono ?_
    rintro _ _ ⟨rfl, rfl⟩
    go_wp2_with fail
    go_ret
    exact ⟨rfl, below_alloc _ _⟩

set_option maxRecDepth 100000 in
set_option maxHeartbeats 4000000 in
theorem ref_ratRight {w : World} {s : Bool} {A A' : Option Addr} {n n' c c' N : Nat} {xs ys : List Int} (h : Sl w A n c xs) (h' : Sl w A' n' c' ys) (hn : n ≤ N) (hn' : n' ≤ N) (hN : N ≤ 1000) :
    Calls Tryz.prog 66 #[.agg #[.bool s, .slice A n c, .slice A' n' c']] w (RetBl (rightB s xs ys) w) := by
  have N1 := fun w1 (hb : Below w.heap.size w w1) => ref_right (h.below hb) (by omega)
  have N2 := fun w1 (hb : Below w.heap.size w w1) => ref_right (h'.below hb) (by omega)
  have GG := fun w1 (hb : Below w.heap.size w w1) => ref_gcd (N := N) (h.below hb) (h'.below hb) hn hn' hN
  have va : val xs < W ^ N := val_lt_pow h.us (by have := h.len; omega)
  have vb : val ys < W ^ N := val_lt_pow h'.us (by have := h'.len; omega)
  have vg := gcd_lt va vb
  have z1 : val xs = 0 ↔ sz xs = 0 := valB_zero_iff W_pos (Dg_U h.us)
  have z2 : val ys = 0 ↔ sz ys = 0 := valB_zero_iff W_pos (Dg_U h'.us)
  have e1 := h.len
  have e2 := h'.len
  by_cases h1 : sz xs = n
  · rw [decide_eq_true h1] at N1
    have HN1 := Lib.hid N1
    by_cases h2 : sz ys = n'
    · rw [decide_eq_true h2] at N2
      have HN2 := Lib.hid N2
      clear N1 N2
      by_cases h3 : val ys = 0
      · rw [right_no3 h3]
        have hz : n' = 0 := by rw [← h2]; exact z2.1 h3
        subst hz
        clear GG va vb vg z1 z2 h1 h2 h3 e1 e2
        go_enter Tryz.func66, Tryz.ntmps66
        go_wp2_with fail
        refine (HN1.out _ (below_alloc _ _)).mono ?_
        rintro _ _ ⟨rfl, rfl⟩
        go_wp2_with fail
        refine (HN2.out _ (below_alloc _ _)).mono ?_
        rintro _ _ ⟨rfl, rfl⟩
        go_wp2_with fail
        go_ret
        exact ⟨rfl, below_alloc _ _⟩
      · by_cases h4 : s = true ∧ val xs = 0
        · rw [right_no4 h4]
          have hz : n = 0 := by rw [← h1]; exact z1.1 h4.2
          have hz' : ¬ n' = 0 := by rw [← h2]; exact fun e => h3 (z2.2 e)
          have hz2 : ((n' : Int) == 0) = false := by simp; omega
          have hz3 : decide (n' = 0) = false := decide_eq_false hz'
          subst hz
          obtain ⟨rfl, _⟩ := h4
          clear GG va vb vg z1 z2 h1 h2 h3 e1 e2
          go_enter Tryz.func66, Tryz.ntmps66
          go_wp2_with fail
          refine (HN1.out _ (below_alloc _ _)).mono ?_
          rintro _ _ ⟨rfl, rfl⟩
          go_wp2_with fail
          refine (HN2.out _ (below_alloc _ _)).mono ?_
          rintro _ _ ⟨rfl, rfl⟩
          go_wp2_with fail
          go_ret
          exact ⟨rfl, below_alloc _ _⟩
        · rw [right_yes (by omega) (by omega) h3 h4]
          obtain ⟨bb', hbb⟩ : ∃ b, decide (Nat.gcd (val xs) (val ys) = 1) = b := ⟨_, rfl⟩
          rw [hbb]
          have hz' : ¬ n' = 0 := by rw [← h2]; exact fun e => h3 (z2.2 e)
          have hz2 : ((n' : Int) == 0) = false := by simp; omega
          have hz3 : decide (n' = 0) = false := decide_eq_false hz'
          obtain ⟨g, hg⟩ : ∃ g, Nat.gcd (val xs) (val ys) = g := ⟨_, rfl⟩
          rw [hg] at vg GG
          simp only [hg] at hbb
          have ez := cmpN_zero g 1
          rw [hbb] at ez
          have CM := fun (w1 : World) (C C' : Option Addr) (a b a' b' : Nat) (x : Sl w1 C a b (words g)) (y : Sl w1 C' a' b' [1]) => ref_cmp x y (by have := x.small vg; omega) (by have := y.len; simp at this; omega)
          have v1 : val [(1 : Int)] = 1 := rfl
          simp only [val_words, v1] at CM
          generalize cmpN g 1 = cm at CM ez
          have HGG := Lib.hid GG
          have HCM := Lib.hid CM
          cases s
          · clear GG CM va vb vg z1 z2 h1 h2 h3 h4 e1 e2 hbb hg
            go_enter Tryz.func66, Tryz.ntmps66
            go_wp2_with fail
            refine (HN1.out _ (below_alloc _ _)).mono ?_
            rintro _ _ ⟨rfl, rfl⟩
            go_wp2_with fail
            refine (HN2.out _ (below_alloc _ _)).mono ?_
            rintro _ _ ⟨rfl, rfl⟩
            go_wp2_with fail
            refine (HGG.out _ (below_alloc _ _)).mono ?_
            rintro _ w1 ⟨A1, n1, c1, rfl, t1, b1⟩
            go_wp2_with fail
            refine (HCM.out _ _ _ _ _ _ _ (t1.below (below_alloc _ _)) (sl_lit w1 1 U_1)).mono ?_
            rintro _ _ ⟨rfl, rfl⟩
            go_wp2_with fail
            go_ret
            exact ⟨rfl, (bb (below_alloc _ _) b1).alloc (bb (below_alloc _ _) b1).size _⟩
          · have hz : ¬ n = 0 := by rw [← h1]; exact fun e => h4 ⟨rfl, z1.2 e⟩
            have hz4 : ((n : Int) == 0) = false := by simp; omega
            have hz5 : decide (n = 0) = false := decide_eq_false hz
            clear GG CM va vb vg z1 z2 h1 h2 h3 h4 e1 e2 hbb hg
            go_enter Tryz.func66, Tryz.ntmps66
            go_wp2_with fail
            refine (HN1.out _ (below_alloc _ _)).mono ?_
            rintro _ _ ⟨rfl, rfl⟩
            go_wp2_with fail
            refine (HN2.out _ (below_alloc _ _)).mono ?_
            rintro _ _ ⟨rfl, rfl⟩
            go_wp2_with fail
            refine (HGG.out _ (below_alloc _ _)).mono ?_
            rintro _ w1 ⟨A1, n1, c1, rfl, t1, b1⟩
            go_wp2_with fail
            refine (HCM.out _ _ _ _ _ _ _ (t1.below (below_alloc _ _)) (sl_lit w1 1 U_1)).mono ?_
            rintro _ _ ⟨rfl, rfl⟩
            go_wp2_with fail
            go_ret
            exact ⟨rfl, (bb (below_alloc _ _) b1).alloc (bb (below_alloc _ _) b1).size _⟩
    · rw [decide_eq_false h2] at N2
      rw [right_no2 (by omega)]
      have HN2 := Lib.hid N2
      clear N1 N2 GG va vb vg z1 z2 h1 h2 e1 e2
      go_enter Tryz.func66, Tryz.ntmps66
      go_wp2_with fail
      refine (HN1.out _ (below_alloc _ _)).mono ?_
      rintro _ _ ⟨rfl, rfl⟩
      go_wp2_with fail
      refine (HN2.out _ (below_alloc _ _)).mono ?_
      rintro _ _ ⟨rfl, rfl⟩
      go_wp2_with fail
      go_ret
      exact ⟨rfl, below_alloc _ _⟩
  · rw [decide_eq_false h1] at N1
    rw [right_no1 (by omega)]
    have HN1 := Lib.hid N1
    clear N1 N2 GG va vb vg z1 z2 h1 e1 e2
    go_enter Tryz.func66, Tryz.ntmps66
    go_wp2_with fail
    refine (HN1.out _ (below_alloc _ _)).mono ?_
    rintro _ _ ⟨rfl, rfl⟩
    go_wp2_with fail
    go_ret
    exact ⟨rfl, below_alloc _ _⟩

end Go.Proofs.YtibgpeaplmcogaaGreatDoor

namespace Go.Proofs.YtibgpeaplmcogaaGreatDoor
set_option maxRecDepth 100000
open Go.RowKit
set_option linter.unusedVariables false
set_option linter.unusedSimpArgs false

def vq (q : Bool × List Int × List Int) : Bool := rightB q.1 q.2.1 q.2.2
def nq (q : Bool × List Int × List Int) : Bool := decide (q.1 = false ∧ q.2.1 = [] ∧ q.2.2 = [])
noncomputable def fitsB (x : PI) (n : Nat) : Bool := @decide (fits vq nq x n) (Classical.propDecidable _)
noncomputable def progB (l : List PI) : Bool := @decide (IsProg vq nq l) (Classical.propDecidable _)
theorem fitsB_iff (x : PI) (n : Nat) : fitsB x n = true ↔ fits vq nq x n := by unfold fitsB; exact @decide_eq_true_iff _ (Classical.propDecidable _)
theorem progB_iff (l : List PI) : progB l = true ↔ IsProg vq nq l := by unfold progB; exact @decide_eq_true_iff _ (Classical.propDecidable _)
theorem progB_false {l : List PI} (h : ¬ IsProg vq nq l) : progB l = false := by unfold progB; exact @decide_eq_false _ (Classical.propDecidable _) h
theorem fitsB_of {x : PI} {n : Nat} {b : Bool} (h : fits vq nq x n ↔ b = true) : fitsB x n = b := by
  rw [Bool.eq_iff_iff, fitsB_iff]; exact h
theorem fits_const {a b : Int} {q : Bool × List Int × List Int} {n : Nat} : fitsB ⟨2, a, b, q⟩ n = (decide (a = 0) && (decide (b = 0) && vq q)) := by
  refine fitsB_of ?_
  unfold fits
  simp
theorem fits_full {op a b : Int} {q : Bool × List Int × List Int} {n : Nat} (h2 : ¬ op = 2) (h : nq q = false) : fitsB ⟨op, a, b, q⟩ n = false := by
  refine fitsB_of ?_
  unfold fits
  simp [h2, h]
theorem fits_input {a b : Int} {q : Bool × List Int × List Int} {n : Nat} (h : nq q = true) : fitsB ⟨1, a, b, q⟩ n = (decide (0 ≤ a ∧ a < 65536) && decide (b = 0)) := by
  refine fitsB_of ?_
  unfold fits
  simp [h, and_assoc]
theorem fits_one {op a b : Int} {q : Bool × List Int × List Int} {n : Nat} (h2 : ¬ op = 2) (h1 : ¬ op = 1) (ha : arity op = 1) (h : nq q = true) : fitsB ⟨op, a, b, q⟩ n = (decide (0 ≤ a ∧ a < (n : Int)) && decide (b = 0)) := by
  refine fitsB_of ?_
  unfold fits
  simp [h2, h1, h, ha, and_assoc]
theorem fits_two {op a b : Int} {q : Bool × List Int × List Int} {n : Nat} (h2 : ¬ op = 2) (h1 : ¬ op = 1) (ha : arity op = 2) (h : nq q = true) : fitsB ⟨op, a, b, q⟩ n = (decide (0 ≤ a ∧ a < (n : Int)) && decide (0 ≤ b ∧ b < (n : Int))) := by
  refine fitsB_of ?_
  unfold fits
  simp [h2, h1, h, ha, and_assoc]
theorem fits_none {op a b : Int} {q : Bool × List Int × List Int} {n : Nat} (h2 : ¬ op = 2) (h1 : ¬ op = 1) (ha : arity op = -1) : fitsB ⟨op, a, b, q⟩ n = false := by
  refine fitsB_of ?_
  unfold fits
  simp [h2, h1, ha]
theorem ar_op {op : Int} (h2 : ¬ op = 2) (h1 : ¬ op = 1) : arity op = 1 ∨ arity op = 2 ∨ arity op = -1 := by
  rcases ar_cases op with ⟨c, d⟩ | ⟨c, d1, d2⟩ | ⟨c, d1, d2⟩ | ⟨c, d1, d2⟩
  · omega
  · exact .inl c
  · exact .inr (.inl c)
  · exact .inr (.inr c)
/-- an instruction's number -/
theorem nq_len {w : World} {q : RQ} (h : q.ok w) : nq (q.s, q.z, q.z') = decide (q.s = false ∧ q.n = 0 ∧ q.n' = 0) := by
  unfold nq
  have h1 := h.1.len
  have h2 := h.2.1.len
  rw [h1, h2]
  simp [List.length_eq_zero_iff]
/-- the numbers have at most N words -/
def Shrt (N : Nat) (xs : List RI) : Prop := ∀ x ∈ xs, x.q.n ≤ N ∧ x.q.n' ≤ N

end Go.Proofs.YtibgpeaplmcogaaGreatDoor

namespace Go.Proofs.YtibgpeaplmcogaaGreatDoor
set_option maxRecDepth 100000
open Go.RowKit
set_option linter.unusedVariables false
set_option linter.unusedSimpArgs false

end Go.Proofs.YtibgpeaplmcogaaGreatDoor

namespace Go.Proofs.YtibgpeaplmcogaaGreatDoor
set_option maxRecDepth 100000
open Go.RowKit
set_option linter.unusedVariables false
set_option linter.unusedSimpArgs false

set_option maxHeartbeats 400000 in
theorem ref_words {w : World} {A A' : Option Addr} {n n' c c' : Nat} {xs ys : List Int} (h : Sl w A n c xs) (h' : Sl w A' n' c' ys) (hn : n ≤ 1000000000) (hn' : n' ≤ 1000000000) :
    Calls Tryz.prog 67 #[.slice A n c, .slice A' n' c'] w (RetBl (decide (xs = ys)) w) := by
  by_cases hl : n = n'
  · subst hl
    go_enter Tryz.func67, Tryz.ntmps67
    go_wp2
    go_loopw [13] (fun i wr => ∃ k m : Nat, k ≤ n ∧ i = .int .i64 k ∧ SameTo xs ys k ∧ wr = w.drewN m) (fun i _ => n - mes i)
    case atStart => exact ⟨0, 0, by omega, rfl, fun j hj => by omega, rfl⟩
    case round =>
      obtain ⟨k, m, hk, rfl, hz, rfl⟩ := hrel
      by_cases hk2 : k < n
      · obtain ⟨b, off, rfl, hb, hc⟩ := h.at_ hk2
        obtain ⟨b', off', rfl, hb', hc'⟩ := h'.at_ hk2
        have g1 := hc k hk2
        have g2 := hc' k hk2
        obtain ⟨x, hx⟩ : ∃ x, xs.getD k 0 = x := ⟨_, rfl⟩
        obtain ⟨y, hy⟩ : ∃ y, ys.getD k 0 = y := ⟨_, rfl⟩
        rw [hx] at g1
        rw [hy] at g2
        have HX := Lib.hid hx
        have HY := Lib.hid hy
        clear hc hc' hx hy
        by_cases hxy : x = y
        · subst hxy
          go_wp2
          go_region
          all_goals try go_wp2
          go_roundw
          case rel => exact ⟨k + 1, m + 1, by omega, by go_num, hz.step (by rw [HX.out, HY.out]), rfl⟩
          case measure => simp [mes, intOf]; omega
        · have hne : (x != y) = true := by simpa using hxy
          go_wp2
          go_region
          all_goals try go_wp2
          go_ret
          refine ⟨retB ?_, below_drewN w (m + 1)⟩
          symm
          rw [decide_eq_false_iff_not]
          rintro rfl
          exact hxy (by rw [← HX.out, ← HY.out])
      · go_wp2
        go_ret
        refine ⟨retB ?_, below_drewN w m⟩
        symm
        rw [decide_eq_true_eq]
        have hkn : k = xs.length := by have := h.len; omega
        rw [hkn] at hz
        exact hz.all (by rw [← h.len, ← h'.len])
  · have hne : decide (n = n') = false := by simpa using hl
    have hne2 : ((n : Int) != (n' : Int)) = true := by simp; omega
    go_enter Tryz.func67, Tryz.ntmps67
    go_wp2
    go_ret
    refine ⟨retB ?_, Below.refl _ _⟩
    symm
    rw [decide_eq_false_iff_not]
    rintro rfl
    exact hl (by rw [h.len, h'.len])

set_option maxRecDepth 100000 in
set_option maxHeartbeats 4000000 in
theorem ref_same {w : World} {s t : Bool} {A A' B B' : Option Addr} {n n' c c' m m' d d' : Nat} {xs ys us vs : List Int} (h : Sl w A n c xs) (h' : Sl w A' n' c' ys) (k : Sl w B m d us) (k' : Sl w B' m' d' vs) (hn : n ≤ 1000000) (hn' : n' ≤ 1000000) (hm : m ≤ 1000000) (hm' : m' ≤ 1000000) :
    Calls Tryz.prog 42 #[.agg #[.bool s, .slice A n c, .slice A' n' c'], .agg #[.bool t, .slice B m d, .slice B' m' d']] w (RetBl (decide (s = t ∧ xs = us ∧ ys = vs)) w) := by
  obtain ⟨V, hW, Ba, Bb, hb0⟩ := boxes1 25 w #[.bool s, .slice A n c, .slice A' n' c'] #[.bool t, .slice B m d, .slice B' m' d']
  have E1 := fun w1 (hb : Below V.heap.size V w1) => ref_words (h.below (bb hb0 hb)) (k.below (bb hb0 hb)) (by omega) (by omega)
  have E2 := fun w1 (hb : Below V.heap.size V w1) => ref_words (h'.below (bb hb0 hb)) (k'.below (bb hb0 hb)) (by omega) (by omega)
  have hS : ∀ w', Below V.heap.size V w' → (w'.cell? ⟨w.heap.size, 0, none⟩ = some (.bool s) ∧ w'.cell? ⟨w.heap.size, 1, none⟩ = some (.slice A n c) ∧ w'.cell? ⟨w.heap.size, 2, none⟩ = some (.slice A' n' c')) ∧ (w'.cell? ⟨w.heap.size + 1, 0, none⟩ = some (.bool t) ∧ w'.cell? ⟨w.heap.size + 1, 1, none⟩ = some (.slice B m d) ∧ w'.cell? ⟨w.heap.size + 1, 2, none⟩ = some (.slice B' m' d')) := fun w' hb => ⟨(Ba.below' hb).three.1, (Bb.below' hb).three.1⟩
  have HS := Lib.hid hS
  have HW := Lib.hid hW
  clear hS Ba Bb hW h k h' k'
  by_cases hst : s = t
  · subst hst
    by_cases h1 : xs = us
    · rw [decide_eq_true h1] at E1
      obtain ⟨b2, hb2⟩ : ∃ b, decide (s = s ∧ xs = us ∧ ys = vs) = b := ⟨_, rfl⟩
      have e2 : decide (ys = vs) = b2 := by rw [← hb2]; simp [h1]
      rw [hb2]
      rw [e2] at E2
      have HE1 := Lib.hid E1
      have HE2 := Lib.hid E2
      clear E1 E2 hb2 e2 h1
      go_enter Tryz.func42, Tryz.ntmps42
      go_wp2_with fail
      refine (HE1.out _ (by rw [HW.out]; exact Below.refl _ _)).mono ?_
      rintro _ w1 ⟨rfl, b1⟩
      rw [HW.out] at b1
      clear HW
      obtain ⟨⟨k0, k1, k2⟩, j0, j1, j2⟩ := HS.out _ b1
      go_wp2_with fail
      refine (HE2.out _ b1).mono ?_
      rintro _ w2 ⟨rfl, b2⟩
      go_wp2_with fail
      go_ret
      exact ⟨rfl, bb hb0 (bb b1 b2)⟩
    · rw [decide_eq_false h1] at E1
      rw [decide_eq_false (fun e => h1 e.2.1)]
      have HE1 := Lib.hid E1
      clear E1 E2 h1
      go_enter Tryz.func42, Tryz.ntmps42
      go_wp2_with fail
      refine (HE1.out _ (by rw [HW.out]; exact Below.refl _ _)).mono ?_
      rintro _ w1 ⟨rfl, b1⟩
      rw [HW.out] at b1
      clear HW
      go_wp2_with fail
      go_ret
      exact ⟨rfl, bb hb0 b1⟩
  · rw [decide_eq_false (fun e => hst e.1)]
    have hne : (s == t) = false := by simpa using hst
    clear E1 E2 hst
    go_enter Tryz.func42, Tryz.ntmps42
    go_wp2_with fail
    rw [HW.out]
    go_ret
    exact ⟨rfl, hb0⟩

end Go.Proofs.YtibgpeaplmcogaaGreatDoor

namespace Go.Proofs.YtibgpeaplmcogaaGreatDoor
set_option maxRecDepth 100000
open Go.RowKit
set_option linter.unusedVariables false
set_option linter.unusedSimpArgs false

theorem box0 (t : TypeId) (w : World) (vs : Array Value) : ∃ V, w.alloc (.cells vs t) = V ∧ Box t V w.heap.size vs ∧ Below w.heap.size w V := ⟨_, rfl, Box.new w t vs, below_alloc _ _⟩
end Go.Proofs.YtibgpeaplmcogaaGreatDoor
