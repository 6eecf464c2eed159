/-
  Values of straight-line programs, exactly: one step, its errors, its sizes. Plain. Conditions: as each lemma says.
-/
import Derived.Test.YtfhihapgjiaobaaGreatGcdMathAllJ
import Derived.Deep.RegionHeld3
import Derived.Test.YtfhihapgjiaobaaGreatLnMemAllJ
namespace Go.Proofs.YtfhihapgjiaobaaGreat
set_option maxRecDepth 100000
open Go.RowKit
set_option linter.unusedVariables false
set_option linter.unusedSimpArgs false

/-- the struct of the sign s and the slices (A n c), (A' n' c') reads, in w, as X -/
def Q (w : World) (s : Bool) (A : Option Addr) (n c : Nat) (A' : Option Addr) (n' c' : Nat) (X : Rat) : Prop :=
  s = neg_ X ∧ Sl w A n c (words X.num.natAbs) ∧ Sl w A' n' c' (words X.den)
theorem Q.below {w w' : World} {s : Bool} {A A' : Option Addr} {n c n' c' : Nat} {X : Rat} (h : Q w s A n c A' n' c' X) (hb : Below w.heap.size w w') : Q w' s A n c A' n' c' X :=
  ⟨h.1, h.2.1.below hb, h.2.2.below hb⟩
theorem Q.drewN {w : World} {s : Bool} {A A' : Option Addr} {n c n' c' : Nat} {X : Rat} (h : Q w s A n c A' n' c' X) (k : Nat) : Q (w.drewN k) s A n c A' n' c' X := h
/-- a call that returns a number, and turns nothing that was there -/
def RetQ (X : Rat) (w : World) (e : Ending) (w' : World) : Prop :=
  ∃ s A n c A' n' c', e = .returned (.agg #[.bool s, .slice A n c, .slice A' n' c']) ∧ Q w' s A n c A' n' c' X ∧ Below w.heap.size w w'
/-- .. and an error's number -/
def RetQE (X : Rat) (k : Int) (w : World) (e : Ending) (w' : World) : Prop :=
  ∃ s A n c A' n' c', e = .returned (.tuple #[.agg #[.bool s, .slice A n c, .slice A' n' c'], .int .i64 k]) ∧ Q w' s A n c A' n' c' X ∧ Below w.heap.size w w'
/-- .. no number, and an error's number -/
def RetNo (k : Int) (w : World) (e : Ending) (w' : World) : Prop :=
  e = .returned (.tuple #[.agg #[.bool false, .slice none 0 0, .slice none 0 0], .int .i64 k]) ∧ Below w.heap.size w w'

/-- block g of w is just the cells vs, none frozen -/
def Box (t : TypeId) (w : World) (g : Nat) (vs : Array Value) : Prop := w.heap[g]? = some (.cells vs t (0, 0))
section
variable {t : TypeId} {w w' : World} {g : Nat} {vs : Array Value}
theorem Box.new (w : World) (t : TypeId) (vs : Array Value) : Box t (w.alloc (.cells vs t)) w.heap.size vs := heap_alloc_new w _
theorem Box.lt (h : Box t w g vs) : g < w.heap.size := by
  rcases Nat.lt_or_ge g w.heap.size with hlt | hge
  · exact hlt
  · unfold Box at h; rw [Array.getElem?_eq_none hge] at h; cases h
theorem Box.below {B : Nat} (h : Box t w g vs) (hb : Below B w w') (hg : g < B) : Box t w' g vs := (hb.block g hg).trans h
theorem Box.below' (h : Box t w g vs) (hb : Below w.heap.size w w') : Box t w' g vs := h.below hb h.lt
theorem Box.alloc (h : Box t w g vs) (o : Obj) : Box t (w.alloc o) g vs := h.below (below_alloc w o) h.lt
theorem Box.cell (h : Box t w g vs) (i : Nat) : w.cell? ⟨g, i, none⟩ = vs[i]? := by
  rw [cell_of_row w g i _ t (0, 0) h]
theorem Box.free (h : Box t w g vs) (i : Nat) : w.frozen? ⟨g, i, none⟩ = false := by
  unfold Box at h
  simp [World.frozen?, h]
/-- the three cells of a box of a number -/
theorem Box.three {v0 v1 v2 : Value} (h : Box t w g #[v0, v1, v2]) :
    (w.cell? ⟨g, 0, none⟩ = some v0 ∧ w.cell? ⟨g, 1, none⟩ = some v1 ∧ w.cell? ⟨g, 2, none⟩ = some v2) ∧
    (w.frozen? ⟨g, 0, none⟩ = false ∧ w.frozen? ⟨g, 1, none⟩ = false ∧ w.frozen? ⟨g, 2, none⟩ = false) :=
  ⟨⟨h.cell 0, h.cell 1, h.cell 2⟩, h.free 0, h.free 1, h.free 2⟩
end
/-- a number is stored into block g -/
def put3 (w : World) (g : Nat) (x0 x1 x2 : Value) : World := ((w.setCell ⟨g, 0, none⟩ x0).setCell ⟨g, 1, none⟩ x1).setCell ⟨g, 2, none⟩ x2
/-- a box of a number (none of its cells is an integer) -/
def IsBox (t : TypeId) (w : World) (g : Nat) : Prop := ∃ s A n c A' n' c', Box t w g #[.bool s, .slice A n c, .slice A' n' c']
theorem IsBox.below {t : TypeId} {w w' : World} {g : Nat} (h : IsBox t w g) (hb : Below w.heap.size w w') : IsBox t w' g := by
  obtain ⟨s, A, n, c, A', n', c', h⟩ := h
  exact ⟨s, A, n, c, A', n', c', h.below' hb⟩
theorem Sl.apartBox {t : TypeId} {w : World} {g : Nat} {A : Option Addr} {n c : Nat} {xs : List Int} (hB : IsBox t w g) (h : Sl w A n c xs) : SlN g w A n c xs := by
  refine ⟨h, fun h0 => ?_⟩
  obtain ⟨b, off, e, hlt, hc⟩ := h.2 h0
  refine ⟨b, off, e, fun e2 => ?_⟩
  subst e2
  obtain ⟨s, B, m, d, B', m', d', hb⟩ := hB
  have k := hc 0 h0
  rw [hb.cell] at k
  match off, k with
  | 0, k => simp at k
  | 1, k => simp at k
  | 2, k => simp at k
  | off + 3, k => simp at k
theorem keep_put3 (w : World) (g : Nat) (x0 x1 x2 : Value) : Keep g w (put3 w g x0 x1 x2) := (((Keep.refl g w).setCell 0 x0).setCell 1 x1).setCell 2 x2
theorem Sl.put3 {t : TypeId} {w : World} {g : Nat} {A : Option Addr} {n c : Nat} {xs : List Int} {x0 x1 x2 : Value} (hB : IsBox t w g) (h : Sl w A n c xs) : Sl (put3 w g x0 x1 x2) A n c xs :=
  ((h.apartBox hB).keep (keep_put3 w g x0 x1 x2)).sl
theorem Q.put3 {t : TypeId} {w : World} {g : Nat} {s : Bool} {A A' : Option Addr} {n c n' c' : Nat} {X : Rat} {x0 x1 x2 : Value} (hB : IsBox t w g) (h : Q w s A n c A' n' c' X) : Q (put3 w g x0 x1 x2) s A n c A' n' c' X :=
  ⟨h.1, h.2.1.put3 hB, h.2.2.put3 hB⟩
theorem below_put3 {B g : Nat} {a w : World} (h : Below B a w) (hg : B ≤ g) (hB : B ≤ a.heap.size) (x0 x1 x2 : Value) : Below B a (put3 w g x0 x1 x2) := Below.keep h (keep_put3 w g x0 x1 x2) hg hB

theorem Box.put3 {t : TypeId} {w : World} {g g' : Nat} {vs : Array Value} (h : Box t w g vs) (hne : g ≠ g') (x0 x1 x2 : Value) : Box t (put3 w g' x0 x1 x2) g vs := ((keep_put3 w g' x0 x1 x2).block g h.lt hne).trans h
theorem bb {a b c : World} (h : Below a.heap.size a b) (k : Below b.heap.size b c) : Below a.heap.size a c := h.trans (k.mono h.size)
/-- a call that returns a natural with a sign -/
def RetSB (z : Int) (w : World) (e : Ending) (w' : World) : Prop :=
  ∃ s A n c, e = .returned (.tuple #[.bool s, .slice A n c]) ∧ sI s z.natAbs = z ∧ Sl w' A n c (words z.natAbs) ∧ Below w.heap.size w w'
/-- a call that returns an integer, a bool, and turns nothing that was there -/
def RetI (z : Int) (w : World) (e : Ending) (w' : World) : Prop := e = .returned (.int .i64 z) ∧ Below w.heap.size w w'
def RetBl (b : Bool) (w : World) (e : Ending) (w' : World) : Prop := e = .returned (.bool b) ∧ Below w.heap.size w w'
/-- the world behind the boxes of a number and of a result -/
theorem boxes1 (t : TypeId) (w : World) (vs us : Array Value) : ∃ W, (w.alloc (.cells vs t)).alloc (.cells us t) = W ∧ Box t W w.heap.size vs ∧ Box t W (w.heap.size + 1) us ∧ Below w.heap.size w W := by
  refine ⟨_, rfl, (Box.new w t vs).alloc _, ?_, (below_alloc _ _).alloc (by simp) _⟩
  have := Box.new (w.alloc (.cells vs t)) t us
  rw [show (w.alloc (.cells vs t)).heap.size = w.heap.size + 1 from by simp] at this
  exact this
theorem boxes2 (t : TypeId) (w : World) (vs us xs : Array Value) : ∃ W, ((w.alloc (.cells vs t)).alloc (.cells us t)).alloc (.cells xs t) = W ∧ Box t W w.heap.size vs ∧ Box t W (w.heap.size + 1) us ∧ Box t W (w.heap.size + 1 + 1) xs ∧ Below w.heap.size w W := by
  obtain ⟨W, h, h1, h2, h3⟩ := boxes1 t w vs us
  have hs : W.heap.size = w.heap.size + 2 := by rw [← h]; simp
  refine ⟨_, rfl, ?_, ?_, ?_, ?_⟩
  · rw [h]; exact h1.alloc _
  · rw [h]; exact h2.alloc _
  · rw [h, ← hs]; exact Box.new W t xs
  · rw [h]; exact h3.alloc h3.size _

end Go.Proofs.YtfhihapgjiaobaaGreat

namespace Go.Proofs.YtfhihapgjiaobaaGreat
set_option maxRecDepth 100000
open Go.RowKit
set_option linter.unusedVariables false
set_option linter.unusedSimpArgs false

set_option maxHeartbeats 1000000 in
theorem rat_isZero {w : World} {A : Option Addr} {n c : Nat} {xs : List Int} (h : Sl w A n c xs) (hn : n ≤ 1000000) :
    Calls Tryz.prog 90 #[.slice A n c] w fun e w' => e = .returned (.bool (decide (val xs = 0))) ∧ w = w' := by
  have NB := nat_bits h (by omega)
  have ez : (((blen (val xs) : Nat) : Int) == 0) = decide (val xs = 0) := by
    rw [Bool.eq_iff_iff]
    simp only [beq_iff_eq, decide_eq_true_eq]
    constructor
    · intro e
      by_cases hv : val xs = 0
      · exact hv
      · have := blen_pos (Nat.pos_of_ne_zero hv); omega
    · intro e; rw [e]; rfl
  generalize ((blen (val xs) : Nat) : Int) = bl at *
  obtain ⟨b, hb⟩ : ∃ b, decide (val xs = 0) = b := ⟨_, rfl⟩
  rw [hb] at ez ⊢
  have HN := Lib.hid NB
  clear NB hb
  go_enter Tryz.func90, Tryz.ntmps90
  go_wp2_with fail
  refine HN.out.mono ?_
  rintro e w' ⟨rfl, rfl⟩
  go_wp2_with fail
  go_ret
  exact ⟨rfl, rfl⟩

set_option maxHeartbeats 1000000 in
theorem rat_signed {w : World} {A A' : Option Addr} {n n' c c' : Nat} {p q : Nat} (s : Bool) (h : Sl w A n c (words p)) (h' : Sl w A' n' c' (words q)) (hn : n ≤ 1000000) (h0 : q ≠ 0) (hg : Nat.gcd p q = 1) :
    Calls Tryz.prog 50 #[.bool s, .slice A n c, .slice A' n' c'] w (RetQ (rq s p q) w) := by
  have Z := fun w1 (hb : Below w.heap.size w w1) => rat_isZero (h.below hb) hn
  rw [val_words] at Z
  obtain ⟨h1, h2, h3⟩ := rq_cop' (s := s) h0 hg
  have hq : ∀ w' : World, Sl w' A n c (words p) → Sl w' A' n' c' (words q) → Q w' (neg_ (rq s p q)) A n c A' n' c' (rq s p q) := fun w' a b => ⟨rfl, by rw [h1]; exact a, by rw [h2]; exact b⟩
  generalize rq s p q = X at *
  have HQ := Lib.hid hq
  have HZ := Lib.hid Z
  have HH := Lib.hid h
  have HH' := Lib.hid h'
  have H3 := Lib.hid h3
  clear hq Z h h' h1 h2 h3
  cases s
  · go_enter Tryz.func50, Tryz.ntmps50
    go_wp2_with fail
    have hs := H3.out
    rw [Bool.false_and] at hs
    refine bodyPost_ret (v := .agg #[.bool false, .slice A n c, .slice A' n' c']) (by simp [results, Tryz.results50, go_sem]) rfl ?_
    refine ⟨false, A, n, c, A', n', c', rfl, ?_, below_alloc _ _⟩
    rw [← hs]
    exact HQ.out _ (HH.out.below (below_alloc _ _)) (HH'.out.below (below_alloc _ _))
  · go_enter Tryz.func50, Tryz.ntmps50
    go_wp2_with fail
    refine (HZ.out _ ?_).mono ?_
    · exact below_alloc _ _
    rintro e w' ⟨rfl, rfl⟩
    go_wp2_with fail
    have hs := H3.out
    rw [Bool.true_and] at hs
    have hs2 : (!decide (p = 0)) = neg_ X := by rw [hs]; simp
    refine bodyPost_ret (v := .agg #[.bool (!decide (p = 0)), .slice A n c, .slice A' n' c']) (by simp [results, Tryz.results50, go_sem]) rfl ?_
    refine ⟨_, A, n, c, A', n', c', rfl, ?_, below_alloc _ _⟩
    rw [hs2]
    exact HQ.out _ (HH.out.below (below_alloc _ _)) (HH'.out.below (below_alloc _ _))

set_option maxHeartbeats 1000000 in
theorem rat_make {w : World} {A A' : Option Addr} {n n' c c' : Nat} {xs ys : List Int} (s : Bool) (h : Sl w A n c xs) (h' : Sl w A' n' c' ys) (hn : n ≤ 100000) (hn' : n' ≤ 100000) (h0 : val ys ≠ 0) :
    Calls Tryz.prog 49 #[.bool s, .slice A n c, .slice A' n' c'] w (RetQE (rq s (val xs) (val ys)) 0 w) := by
  have Z := fun w1 (hb : Below w.heap.size w w1) => rat_isZero (h'.below hb) (by omega)
  rw [decide_eq_false h0] at Z
  have RD := fun w1 (hb : Below w.heap.size w w1) => gcd_reduce (N := 100000) (h.below hb) (h'.below hb) (by omega) (by omega) (by omega)
  have hred := rq_red s (val xs) (val ys) h0
  rw [hred]
  have hp : val xs < W ^ n := val_lt_pow h.us (by have := h.len; omega)
  have hps := Nat.lt_of_le_of_lt (Nat.div_le_self (val xs) (Nat.gcd (val xs) (val ys))) hp
  have hc : Nat.gcd (val xs / Nat.gcd (val xs) (val ys)) (val ys / Nat.gcd (val xs) (val ys)) = 1 := Nat.gcd_div_gcd_div_gcd_of_pos_right (Nat.pos_of_ne_zero h0)
  have hq : val ys / Nat.gcd (val xs) (val ys) ≠ 0 := by
    have hg : 0 < Nat.gcd (val xs) (val ys) := Nat.pos_of_ne_zero fun e => h0 (Nat.eq_zero_of_gcd_eq_zero_right e)
    have := Nat.div_pos (Nat.le_of_dvd (Nat.pos_of_ne_zero h0) (Nat.gcd_dvd_right (val xs) (val ys))) hg
    omega
  generalize val xs / Nat.gcd (val xs) (val ys) = p at *
  generalize val ys / Nat.gcd (val xs) (val ys) = q at *
  have HZ := Lib.hid Z
  have HR := Lib.hid RD
  have HC := Lib.hid hc
  have HP := Lib.hid hps
  clear Z RD h0 hred hc hps hp
  go_enter Tryz.func49, Tryz.ntmps49
  go_wp2_with fail
  refine (HZ.out _ (below_alloc _ _)).mono ?_
  rintro e w' ⟨rfl, rfl⟩
  go_wp2_with fail
  refine (HR.out _ (below_alloc _ _)).mono ?_
  rintro e w1 ⟨A1, n1, c1, A2, n2, c2, rfl, s1, s2, b1⟩
  have l1 : n1 ≤ n := s1.small HP.out
  go_wp2_with fail
  refine (rat_signed s s1 s2 (by omega) hq HC.out).mono ?_
  rintro e w2 ⟨s', A3, n3, c3, A4, n4, c4, rfl, q3, b2⟩
  have B2 := ((Box.new w 45 _).below' b1).below' b2
  obtain ⟨⟨k0, k1, k2⟩, f0, f1, f2⟩ := B2.three
  go_wp2_with fail
  refine bodyPost_ret (v := .tuple #[.agg #[.bool s', .slice A3 n3 c3, .slice A4 n4 c4], .int .i64 0]) (by simp [results, Tryz.results49, go_sem, k0, k1, k2]) rfl ?_
  exact ⟨_, _, _, _, _, _, _, rfl, q3.put3 ⟨_, _, _, _, _, _, _, B2⟩, below_put3 ((below_alloc w _).trans ((b1.trans (b2.mono b1.size)).mono (by simp))) (Nat.le_refl _) (Nat.le_refl _) _ _ _⟩

set_option maxHeartbeats 1000000 in
theorem rat_neg {w : World} {s : Bool} {A A' : Option Addr} {n n' c c' : Nat} {X : Rat} (h : Q w s A n c A' n' c' X) (hn : n ≤ 100000) (hn' : n' ≤ 100000) :
    Calls Tryz.prog 66 #[.agg #[.bool s, .slice A n c, .slice A' n' c']] w (RetQ (-X) w) := by
  obtain ⟨W, hW, B0, B1, hb0⟩ := boxes1 45 w #[.bool s, .slice A n c, .slice A' n' c'] #[.bool false, .slice none 0 0, .slice none 0 0]
  have T1 := fun w1 (hb : Below W.heap.size W w1) => nat_trim (h.2.1.below (hb0.trans (hb.mono hb0.size))) (by omega)
  have T2 := fun w1 (hb : Below W.heap.size W w1) => nat_trim (h.2.2.below (hb0.trans (hb.mono hb0.size))) (by omega)
  rw [val_words] at T1 T2
  have hneg := neg_rq X
  rw [← h.1] at hneg
  have SG := fun (w1 : World) (A A' : Option Addr) (n n' c c' : Nat) (a : Sl w1 A n c (words X.num.natAbs)) (b : Sl w1 A' n' c' (words X.den)) (hl : n ≤ 1000000) => rat_signed (!s) a b hl (den_ne X) (gcd_num_den X)
  rw [hneg] at SG
  have hS : ∀ w', Below W.heap.size W w' → w'.cell? ⟨w.heap.size, 0, none⟩ = some (.bool s) ∧ w'.cell? ⟨w.heap.size, 1, none⟩ = some (.slice A n c) ∧ w'.cell? ⟨w.heap.size, 2, none⟩ = some (.slice A' n' c') := fun w' hb => (B0.below' hb).three.1
  generalize -X = Y at *
  have len1 := h.2.1.len
  have sm : ∀ (w1 : World) (A1 : Option Addr) (n1 c1 : Nat), Sl w1 A1 n1 c1 (words X.num.natAbs) → n1 ≤ 1000000 := by
    intro w1 A1 n1 c1 a
    have := a.len
    omega
  generalize X.num.natAbs = p at *
  generalize X.den = q at *
  have HT1 := Lib.hid T1
  have HT2 := Lib.hid T2
  have HSG := Lib.hid SG
  have HS := Lib.hid hS
  have HB0 := Lib.hid B0
  have HB1 := Lib.hid B1
  have HW := Lib.hid hW
  have HM := Lib.hid sm
  clear T1 T2 SG hS B0 B1 hW hneg sm len1 h
  go_enter Tryz.func66, Tryz.ntmps66
  go_wp2_with fail
  rw [HW.out]
  clear HW
  obtain ⟨k0, k1, k2⟩ := HS.out _ (Below.refl _ W)
  go_region_held3 (fun w' => w'.cell? ⟨w.heap.size, 0, none⟩ = some (.bool s) ∧ w'.cell? ⟨w.heap.size, 1, none⟩ = some (.slice A n c) ∧ w'.cell? ⟨w.heap.size, 2, none⟩ = some (.slice A' n' c')) (first | exact HS.out _ (Below.refl _ W).drew | exact HS4.out | exact HS.out _ x3 | exact HS.out _ x2 | exact HS.out _ x1 | fail)
    (first
      | (go_at_call 88; (with_reducible refine (HT1.out _ ?hb1).mono ?_); (case hb1 => exact (Below.refl _ W).drew); rintro e w1 ⟨A1, n1, c1, rfl, t1, b1⟩; have x1 : Below W.heap.size W w1 := (Below.undrew b1))
      | (go_at_call 88; (with_reducible refine (HT2.out _ ?hb2).mono ?_); (case hb2 => exact x1); rintro e w2 ⟨A2, n2, c2, rfl, t2, b2⟩; have x2 : Below W.heap.size W w2 := x1.trans (b2.mono x1.size))
      | (go_at_call 50; (with_reducible refine (HSG.out _ _ _ _ _ _ _ (t1.below b2) t2 (HM.out _ _ _ _ t1)).mono ?_); rintro e w3 ⟨s3, A3, n3, c3, A4, n4, c4, rfl, q3, b3⟩; have x3 : Below W.heap.size W w3 := x2.trans (b3.mono x2.size); have B3 := HB1.out.below' x3; have HS4 := Lib.hid (((HB0.out.below' x3).put3 (show w.heap.size ≠ w.heap.size + 1 by omega) (.bool s3) (.slice A3 n3 c3) (.slice A4 n4 c4)).three.1); obtain ⟨⟨r0, r1, r2⟩, f0, f1, f2⟩ := B3.three))
  all_goals
    go_wp2_with fail
    refine bodyPost_ret (v := .agg #[.bool s3, .slice A3 n3 c3, .slice A4 n4 c4]) (by simp [results, Tryz.results66, go_sem, r0, r1, r2]) rfl ?_
    exact ⟨_, _, _, _, _, _, _, rfl, q3.put3 ⟨_, _, _, _, _, _, _, B3⟩, below_put3 (bb hb0 x3) (by omega) (Nat.le_refl _) _ _ _⟩

theorem of_rq (z : Int) : rq (decide (z < 0)) z.natAbs 1 = (z : Rat) := by
  unfold rq
  have e : sI (decide (z < 0)) z.natAbs = z := by unfold sI; by_cases h : z < 0 <;> simp [h] <;> omega
  rw [e]
  have := Rat.mkRat_self (z : Rat)
  simpa using this
set_option maxHeartbeats 1000000 in
theorem rat_of (z : Int) (hz1 : -9223372036854775808 ≤ z) (hz2 : z ≤ 9223372036854775807) (w : World) :
    Calls Tryz.prog 65 #[.int .i64 z] w (RetQ (z : Rat) w) := by
  have O := fun w1 => nat_of (z.natAbs : Int) (by unfold U; omega) w1
  have O1 := fun w1 => nat_of 1 (by unfold U; omega) w1
  rw [Int.toNat_natCast] at O
  rw [show (1 : Int).toNat = 1 from rfl] at O1
  have hp : z.natAbs < W ^ 1 := by rw [Nat.pow_one]; unfold W; omega
  have SG := fun (w1 : World) (A A' : Option Addr) (n n' c c' : Nat) (a : Sl w1 A n c (words z.natAbs)) (b : Sl w1 A' n' c' (words 1)) => rat_signed (decide (z < 0)) a b (by have := a.small hp; omega) (by omega) (Nat.gcd_one_right _)
  rw [of_rq] at SG
  have B1 := Box.new w 45 #[.bool false, .slice none 0 0, .slice none 0 0]
  have hb1 := below_alloc w (.cells #[.bool false, .slice none 0 0, .slice none 0 0] 45)
  generalize (z : Rat) = X at *
  by_cases hz : z < 0
  · have e : IntKind.u64.wrap (-(IntKind.u64.wrap z)) = (z.natAbs : Int) := by rw [wrapU, wrapU]; omega
    rw [decide_eq_true hz] at SG
    generalize ((z.natAbs : Nat) : Int) = m at *
    have HO := Lib.hid O
    have HO1 := Lib.hid O1
    have HSG := Lib.hid SG
    have HB1 := Lib.hid B1
    clear O O1 SG hp B1
    go_enter Tryz.func65, Tryz.ntmps65
    go_wp2_with fail
    refine (HO.out _).mono ?_
    rintro _ w1 ⟨A1, n1, c1, rfl, t1, b1⟩
    go_wp2_with fail
    refine (HO1.out _).mono ?_
    rintro _ w2 ⟨A2, n2, c2, rfl, t2, b2⟩
    go_wp2_with fail
    refine (HSG.out _ _ _ _ _ _ _ (t1.below b2) t2).mono ?_
    rintro _ w3 ⟨s3, A3, n3, c3, A4, n4, c4, rfl, q3, b3⟩
    have x3 := bb b1 (bb b2 b3)
    have B3 := HB1.out.below' x3
    obtain ⟨⟨r0, r1, r2⟩, f0, f1, f2⟩ := B3.three
    go_wp2_with fail
    refine bodyPost_ret (v := .agg #[.bool s3, .slice A3 n3 c3, .slice A4 n4 c4]) (by simp [results, Tryz.results65, go_sem, r0, r1, r2]) rfl ?_
    exact ⟨_, _, _, _, _, _, _, rfl, q3.put3 ⟨_, _, _, _, _, _, _, B3⟩, below_put3 (bb hb1 x3) (by omega) (Nat.le_refl _) _ _ _⟩
  · have e : IntKind.u64.wrap z = (z.natAbs : Int) := by rw [wrapU]; omega
    have hzz : ((z.natAbs : Nat) : Int) = z := by omega
    rw [hzz] at O e
    rw [decide_eq_false hz] at SG
    have HO := Lib.hid O
    have HO1 := Lib.hid O1
    have HSG := Lib.hid SG
    have HB1 := Lib.hid B1
    clear O O1 SG hp B1 hzz
    go_enter Tryz.func65, Tryz.ntmps65
    go_wp2_with fail
    refine (HO.out _).mono ?_
    rintro _ w1 ⟨A1, n1, c1, rfl, t1, b1⟩
    go_wp2_with fail
    refine (HO1.out _).mono ?_
    rintro _ w2 ⟨A2, n2, c2, rfl, t2, b2⟩
    go_wp2_with fail
    refine (HSG.out _ _ _ _ _ _ _ (t1.below b2) t2).mono ?_
    rintro _ w3 ⟨s3, A3, n3, c3, A4, n4, c4, rfl, q3, b3⟩
    have x3 := bb b1 (bb b2 b3)
    have B3 := HB1.out.below' x3
    obtain ⟨⟨r0, r1, r2⟩, f0, f1, f2⟩ := B3.three
    go_wp2_with fail
    refine bodyPost_ret (v := .agg #[.bool s3, .slice A3 n3 c3, .slice A4 n4 c4]) (by simp [results, Tryz.results65, go_sem, r0, r1, r2]) rfl ?_
    exact ⟨_, _, _, _, _, _, _, rfl, q3.put3 ⟨_, _, _, _, _, _, _, B3⟩, below_put3 (bb hb1 x3) (by omega) (Nat.le_refl _) _ _ _⟩

end Go.Proofs.YtfhihapgjiaobaaGreat

namespace Go.Proofs.YtfhihapgjiaobaaGreat
set_option maxRecDepth 100000
open Go.RowKit
set_option linter.unusedVariables false
set_option linter.unusedSimpArgs false

theorem sI_abs (s : Bool) (p : Nat) (z : Int) (h : sI s p = z) : sI s z.natAbs = z ∧ z.natAbs = p := by
  have : z.natAbs = p := by rw [← h, sI_natAbs]
  exact ⟨by rw [this]; exact h, this⟩

set_option maxHeartbeats 1000000 in
theorem rat_addSigned {w : World} {A A' : Option Addr} {n n' c c' p q : Nat} (s t : Bool) (h : Sl w A n c (words p)) (h' : Sl w A' n' c' (words q)) (hn : n ≤ 100000) (hn' : n' ≤ 100000) :
    Calls Tryz.prog 47 #[.bool s, .slice A n c, .bool t, .slice A' n' c'] w (RetSB (sI s p + sI t q) w) := by
  by_cases hst : s = t
  · subst hst
    have N := nat_add h h' (by omega) (by omega)
    rw [val_words, val_words] at N
    obtain ⟨e1, e2⟩ := sI_abs s (p + q) _ (sI_add_same s p q)
    generalize sI s p + sI s q = z at *
    rw [← e2] at N
    have HN := Lib.hid N
    have H1 := Lib.hid e1
    clear N e1 e2
    go_enter Tryz.func47, Tryz.ntmps47
    go_wp2_with fail
    refine HN.out.mono ?_
    rintro _ w1 ⟨A1, n1, c1, rfl, t1, b1⟩
    go_wp2_with fail
    go_ret2
    exact ⟨_, _, _, _, rfl, H1.out, t1, b1⟩
  · have hne : (s == t) = false := by simpa using hst
    by_cases hle : q ≤ p
    · have N := nat_sub_yes h h' (by omega) (by omega) (by rw [val_words, val_words]; exact hle)
      rw [val_words, val_words] at N
      obtain ⟨e1, e2⟩ := sI_abs s (p - q) _ (sI_add_left hst hle)
      generalize sI s p + sI t q = z at *
      rw [← e2] at N
      have HN := Lib.hid N
      have H1 := Lib.hid e1
      clear N e1 e2 hst hle
      go_enter Tryz.func47, Tryz.ntmps47
      go_wp2_with fail
      refine HN.out.mono ?_
      rintro _ w1 ⟨A1, n1, c1, rfl, t1, b1⟩
      go_wp2_with fail
      go_ret2
      exact ⟨_, _, _, _, rfl, H1.out, t1, b1⟩
    · have N1 := nat_sub_no h h' (by omega) (by omega) (by rw [val_words, val_words]; omega)
      have N := fun w1 (hb : Below w.heap.size w w1) => nat_sub_yes (h'.below hb) (h.below hb) (by omega) (by omega) (by rw [val_words, val_words]; omega)
      rw [val_words, val_words] at N
      obtain ⟨e1, e2⟩ := sI_abs t (q - p) _ (sI_add_right hst (by omega : p ≤ q))
      generalize sI s p + sI t q = z at *
      rw [← e2] at N
      have HN := Lib.hid N
      have HN1 := Lib.hid N1
      have H1 := Lib.hid e1
      clear N N1 e1 e2 hst hle
      go_enter Tryz.func47, Tryz.ntmps47
      go_wp2_with fail
      refine HN1.out.mono ?_
      rintro _ w1 ⟨A1, n1, c1, rfl, t1, b1⟩
      go_wp2_with fail
      refine (HN.out _ b1).mono ?_
      rintro _ w2 ⟨A2, n2, c2, rfl, t2, b2⟩
      go_wp2_with fail
      go_ret2
      exact ⟨_, _, _, _, rfl, H1.out, t2, bb b1 b2⟩

set_option maxRecDepth 100000 in
set_option maxHeartbeats 4000000 in
theorem rat_add {w : World} {s t : Bool} {A A' B B' : Option Addr} {n n' c c' m m' d d' N : Nat} {X Y : Rat} (h : Q w s A n c A' n' c' X) (k : Q w t B m d B' m' d' Y) (hX : Sz X N) (hY : Sz Y N) (hN : N ≤ 40000) :
    Calls Tryz.prog 18 #[.agg #[.bool s, .slice A n c, .slice A' n' c'], .agg #[.bool t, .slice B m d, .slice B' m' d']] w (RetQ (X + Y) w) := by
  obtain ⟨V, hW, Ba, Bb, Br, hb0⟩ := boxes2 45 w #[.bool s, .slice A n c, .slice A' n' c'] #[.bool t, .slice B m d, .slice B' m' d'] #[.bool false, .slice none 0 0, .slice none 0 0]
  have l1 : n ≤ N := h.2.1.small hX.1
  have l2 : n' ≤ N := h.2.2.small hX.2
  have l3 : m ≤ N := k.2.1.small hY.1
  have l4 : m' ≤ N := k.2.2.small hY.2
  have RD := fun w1 (hb : Below V.heap.size V w1) => gcd_reduce (N := N) (h.2.2.below (bb hb0 hb)) (k.2.2.below (bb hb0 hb)) (by omega) (by omega) (by omega)
  rw [val_words, val_words] at RD
  have M1 := fun w1 (hb : Below V.heap.size V w1) (C : Option Addr) (nc cc v : Nat) (a : Sl w1 C nc cc (words v)) (hl : nc ≤ N) => prod_mul (h.2.1.below (bb hb0 hb)) a (by omega)
  have M2 := fun w1 (hb : Below V.heap.size V w1) (C : Option Addr) (nc cc v : Nat) (a : Sl w1 C nc cc (words v)) (hl : nc ≤ N) => prod_mul (k.2.1.below (bb hb0 hb)) a (by omega)
  have M3 := fun w1 (hb : Below V.heap.size V w1) (C : Option Addr) (nc cc v : Nat) (a : Sl w1 C nc cc (words v)) (hl : nc ≤ N) => prod_mul (h.2.2.below (bb hb0 hb)) a (by omega)
  simp only [val_words] at M1 M2 M3
  have hden := add_den_ne X Y
  have hadd := fun (z : Int) (sz : Bool) (e : sI sz z.natAbs = z) (e2 : z = sI s (X.num.natAbs * (Y.den / Nat.gcd X.den Y.den)) + sI t (Y.num.natAbs * (X.den / Nat.gcd X.den Y.den))) => add_rq X Y (s := sz) (m := z.natAbs) (by rw [e, e2, sI_mul_nat, sI_mul_nat, h.1, k.1, sI_num, sI_num])
  have hu : X.den / Nat.gcd X.den Y.den < W ^ N := Nat.lt_of_le_of_lt (Nat.div_le_self _ _) hX.2
  have hv : Y.den / Nat.gcd X.den Y.den < W ^ N := Nat.lt_of_le_of_lt (Nat.div_le_self _ _) hY.2
  generalize X.den / Nat.gcd X.den Y.den = u at *
  generalize Y.den / Nat.gcd X.den Y.den = v at *
  have z1 := mul_lt_powW hX.1 hv
  have z2 := mul_lt_powW hY.1 hu
  have z3 := mul_lt_powW hX.2 hv
  have z4 : (sI s (X.num.natAbs * v) + sI t (Y.num.natAbs * u)).natAbs < W ^ (N + N + 1) := by
    have := two_pow_W (N + N)
    have := Int.natAbs_add_le (sI s (X.num.natAbs * v)) (sI t (Y.num.natAbs * u))
    rw [sI_natAbs, sI_natAbs] at this
    omega
  have hS : ∀ w', Below V.heap.size V w' → (w'.cell? ⟨w.heap.size, 0, none⟩ = some (.bool s) ∧ w'.cell? ⟨w.heap.size, 1, none⟩ = some (.slice A n c) ∧ w'.cell? ⟨w.heap.size, 2, none⟩ = some (.slice A' n' c')) ∧ (w'.cell? ⟨w.heap.size + 1, 0, none⟩ = some (.bool t) ∧ w'.cell? ⟨w.heap.size + 1, 1, none⟩ = some (.slice B m d) ∧ w'.cell? ⟨w.heap.size + 1, 2, none⟩ = some (.slice B' m' d')) := fun w' hb => ⟨(Ba.below' hb).three.1, (Bb.below' hb).three.1⟩
  generalize X + Y = Z at *
  generalize X.num.natAbs = p at *
  generalize Y.num.natAbs = q at *
  generalize X.den = p' at *
  have HRD := Lib.hid RD
  have HM1 := Lib.hid M1
  have HM2 := Lib.hid M2
  have HM3 := Lib.hid M3
  have HS := Lib.hid hS
  have HBr := Lib.hid Br
  have HW := Lib.hid hW
  have HA := Lib.hid hadd
  have Hu := Lib.hid hu
  have Hv := Lib.hid hv
  have Hz1 := Lib.hid z1
  have Hz2 := Lib.hid z2
  have Hz3 := Lib.hid z3
  have Hz4 := Lib.hid z4
  have HD := Lib.hid hden
  clear RD M1 M2 M3 hS Ba Bb Br hW hadd hu hv z1 z2 z3 z4 h k hX hY hden
  go_enter Tryz.func18, Tryz.ntmps18
  go_wp2_with fail
  refine (HRD.out _ (by rw [HW.out]; exact Below.refl _ _)).mono ?_
  rintro _ w1 ⟨A1, n1, c1, A2, n2, c2, rfl, t1, t2, b1⟩
  rw [HW.out] at b1
  have l5 : n1 ≤ N := t1.small Hu.out
  have l6 : n2 ≤ N := t2.small Hv.out
  obtain ⟨⟨k0, k1, k2⟩, j0, j1, j2⟩ := HS.out _ b1
  clear HRD HW
  go_wp2_with fail
  go_region_held3 (fun w' => (w'.cell? ⟨w.heap.size, 0, none⟩ = some (.bool s) ∧ w'.cell? ⟨w.heap.size, 1, none⟩ = some (.slice A n c) ∧ w'.cell? ⟨w.heap.size, 2, none⟩ = some (.slice A' n' c')) ∧ (w'.cell? ⟨w.heap.size + 1, 0, none⟩ = some (.bool t) ∧ w'.cell? ⟨w.heap.size + 1, 1, none⟩ = some (.slice B m d) ∧ w'.cell? ⟨w.heap.size + 1, 2, none⟩ = some (.slice B' m' d'))) (first | exact HS.out _ b1.drew | exact HS.out _ x4 | exact HS.out _ x3 | exact HS.out _ x2 | fail)
    (first
      | (go_at_call 48; (with_reducible refine (HM1.out _ ?hb1 _ _ _ v ?hc1 l6).mono ?_); (case hb1 => exact b1.drew); (case hc1 => exact t2); rintro _ w2 ⟨A3, n3, c3, rfl, t3, b2⟩; have x2 : Below V.heap.size V w2 := bb b1 (Below.undrew b2))
      | (go_at_call 48; (with_reducible refine (HM2.out _ ?hb2 _ _ _ u ?hc2 l5).mono ?_); (case hb2 => exact x2); (case hc2 => exact t1.below (Below.undrew b2)); rintro _ w3 ⟨A4, n4, c4, rfl, t4, b3⟩; have x3 : Below V.heap.size V w3 := bb x2 b3)
      | (go_at_call 47; (with_reducible refine (rat_addSigned s t (t3.below b3) t4 (by have := t3.small Hz1.out; omega) (by have := t4.small Hz2.out; omega)).mono ?_); rintro _ w4 ⟨s5, A5, n5, c5, rfl, e5, t5, b4⟩; have x4 : Below V.heap.size V w4 := bb x3 b4; have t24 := ((t2.below (Below.undrew b2)).below b3).below b4; have HE5 := Lib.hid e5; clear e5))
  all_goals
    obtain ⟨⟨k0, k1, k2⟩, j0, j1, j2⟩ := HS.out _ x4
    go_wp2_with fail
    refine (HM3.out _ x4 _ _ _ v t24 l6).mono ?_
    rintro _ w5 ⟨A6, n6, c6, rfl, t6, b5⟩
    have MK := rat_make s5 (t5.below b5) t6 (by have := t5.small Hz4.out; omega) (by have := t6.small Hz3.out; omega) (by rw [val_words]; exact HD.out)
    rw [val_words, val_words, HA.out _ s5 HE5.out rfl] at MK
    have HMK := Lib.hid MK
    clear MK
    go_wp2_with fail
    refine HMK.out.mono ?_
    rintro _ w6 ⟨s7, A7, n7, c7, A8, n8, c8, rfl, q7, b6⟩
    have x6 := bb x4 (bb b5 b6)
    have B6 := HBr.out.below' x6
    have hz6 : w.heap.size + 1 + 1 < w6.heap.size := B6.lt
    have hne6 : ¬ (w.heap.size + 1 + 1 = w6.heap.size) := by omega
    obtain ⟨⟨r0, r1, r2⟩, f0, f1, f2⟩ := B6.three
    go_wp2_with fail
    refine bodyPost_ret (v := .agg #[.bool s7, .slice A7 n7 c7, .slice A8 n8 c8]) (by simp [results, Tryz.results18, go_sem, r0, r1, r2, hz6, hne6]) rfl ?_
    have y6 := below_put3 (bb hb0 x6) (show w.heap.size ≤ w.heap.size + 1 + 1 by omega) (Nat.le_refl _) (.bool s7) (.slice A7 n7 c7) (.slice A8 n8 c8)
    exact ⟨_, _, _, _, _, _, _, rfl, (q7.put3 ⟨_, _, _, _, _, _, _, B6⟩).below (below_alloc _ _), y6.alloc y6.size _⟩

end Go.Proofs.YtfhihapgjiaobaaGreat

namespace Go.Proofs.YtfhihapgjiaobaaGreat
set_option maxRecDepth 100000
open Go.RowKit
set_option linter.unusedVariables false
set_option linter.unusedSimpArgs false

set_option maxRecDepth 100000 in
set_option maxHeartbeats 4000000 in
theorem ref_makeT {w : World} {A A' : Option Addr} {n n' c c' N : Nat} {xs ys : List Int} (s : Bool) (h : Sl w A n c xs) (h' : Sl w A' n' c' ys) (hn : n ≤ N) (hn' : n' ≤ N) (hN : N ≤ 90000) (h0 : val ys ≠ 0) (htz : tz (val ys) ≤ 65536) :
    Calls Tryz.prog 45 #[.bool s, .slice A n c, .slice A' n' c'] w (RetQ (rq s (val xs) (val ys)) w) := by
  have za : val xs = 0 ↔ sz xs = 0 := valB_zero_iff W_pos (Dg_U h.us)
  have Z := fun w1 (hb : Below w.heap.size w w1) => ref_size (h.below hb) (by omega)
  obtain ⟨r1, r2, r3⟩ := rq_num s (val xs) (val ys) h0
  by_cases hz : val xs = 0
  · rw [za.1 hz] at Z
    have e1 : rq s (val xs) (val ys) = 0 := by
      unfold rq; rw [hz, sI_zero]; exact Rat.zero_mkRat _
    rw [e1]
    have HZ := Lib.hid Z
    clear htz Z r1 r2 r3 hz za e1
    have hs := sl_lit (w.alloc (.cells #[.bool false, .slice none 0 0, .slice (some ⟨w.heap.size + 1, 0, none⟩) 1 1] 45)) 1 U_1
    rw [show (w.alloc (.cells #[.bool false, .slice none 0 0, .slice (some ⟨w.heap.size + 1, 0, none⟩) 1 1] 45)).heap.size = w.heap.size + 1 from by simp] at hs
    have HSL := Lib.hid hs
    clear hs
    go_enter Tryz.func45, Tryz.ntmps45
    go_wp2_with fail
    refine (HZ.out _ (below_alloc _ _)).mono ?_
    rintro _ _ ⟨rfl, rfl⟩
    go_wp2_with fail
    refine bodyPost_ret (v := .agg #[.bool false, .slice none 0 0, .slice (some ⟨w.heap.size + 1, 0, none⟩) 1 1]) (by simp [results, Tryz.results45, go_sem]) rfl ?_
    refine ⟨_, _, _, _, _, _, _, rfl, ⟨rfl, Sl.nil _ _ _, ?_⟩, (below_alloc _ _).alloc (by simp) _⟩
    rw [show (0 : Rat).den = 1 from rfl, words_one]
    exact HSL.out
  · have hne : ((sz xs : Int) == 0) = false := by
      have : sz xs ≠ 0 := fun e => hz (za.2 e)
      simp; omega
    have G := fun w1 (hb : Below w.heap.size w w1) => ref_gcdT (N := N) (h.below hb) (h'.below hb) hn hn' hN (by omega)
    have P1 := fun w1 (hb : Below w.heap.size w w1) (C : Option Addr) (a b g : Nat) (x : Sl w1 C a b (words g)) (hl : a ≤ N) => ref_part (N := N) (h.below hb) x hn hl hN
    have P2 := fun w1 (hb : Below w.heap.size w w1) (C : Option Addr) (a b g : Nat) (x : Sl w1 C a b (words g)) (hl : a ≤ N) => ref_part (N := N) (h'.below hb) x hn' hl hN
    simp only [val_words] at P1 P2
    have va : val xs < W ^ N := val_lt_pow h.us (by have := h.len; omega)
    have vb : val ys < W ^ N := val_lt_pow h'.us (by have := h'.len; omega)
    have vg := gcd_lt va vb
    have hpz : val xs / Nat.gcd (val xs) (val ys) ≠ 0 := by
      have hg : 0 < Nat.gcd (val xs) (val ys) := Nat.pos_of_ne_zero fun e => h0 (Nat.eq_zero_of_gcd_eq_zero_right e)
      have := Nat.div_pos (Nat.le_of_dvd (Nat.pos_of_ne_zero hz) (Nat.gcd_dvd_left (val xs) (val ys))) hg
      omega
    rw [decide_eq_true hpz, Bool.and_true] at r3
    have hq : ∀ (w1 : World) (C C' : Option Addr) (a b a' b' : Nat), Sl w1 C a b (words (val xs / Nat.gcd (val xs) (val ys))) → Sl w1 C' a' b' (words (val ys / Nat.gcd (val xs) (val ys))) → Q w1 s C a b C' a' b' (rq s (val xs) (val ys)) := fun w1 C C' a b a' b' x y => ⟨r3.symm, by rw [r1]; exact x, by rw [r2]; exact y⟩
    generalize rq s (val xs) (val ys) = X at *
    generalize Nat.gcd (val xs) (val ys) = g at *
    generalize val xs = p at *
    generalize val ys = q at *
    generalize ((sz xs : Nat) : Int) = zz at *
    have HZ := Lib.hid Z
    have HG := Lib.hid G
    have HP1 := Lib.hid P1
    have HP2 := Lib.hid P2
    have HQ := Lib.hid hq
    have HVG := Lib.hid vg
    have Br := Box.new w 45 #[.bool false, .slice none 0 0, .slice none 0 0]
    have HBr := Lib.hid Br
    clear htz Z G P1 P2 hq vg va vb hpz r1 r2 r3 za hz Br h h' h0
    go_enter Tryz.func45, Tryz.ntmps45
    go_wp2_with fail
    refine (HZ.out _ (below_alloc _ _)).mono ?_
    rintro _ _ ⟨rfl, rfl⟩
    go_wp2_with fail
    refine (HG.out _ (below_alloc _ _)).mono ?_
    rintro _ w1 ⟨A1, n1, c1, rfl, t1, b1⟩
    have l1 : n1 ≤ N := t1.small HVG.out
    have x1 := bb (below_alloc w _) b1
    go_wp2_with fail
    refine (HP1.out _ x1 _ _ _ _ t1 l1).mono ?_
    rintro _ w2 ⟨A2, n2, c2, rfl, t2, b2⟩
    have x2 := bb x1 b2
    go_wp2_with fail
    refine (HP2.out _ x2 _ _ _ _ (t1.below b2) l1).mono ?_
    rintro _ w3 ⟨A3, n3, c3, rfl, t3, b3⟩
    have x3 := bb x2 b3
    have B9 := HBr.out.below' (bb b1 (bb b2 b3))
    have q7 := HQ.out _ _ _ _ _ _ _ (t2.below b3) t3
    obtain ⟨⟨r0, r1, r2⟩, f0, f1, f2⟩ := B9.three
    go_wp2_with fail
    refine bodyPost_ret (v := .agg #[.bool s, .slice A2 n2 c2, .slice A3 n3 c3]) (by simp [results, Tryz.results45, go_sem, r0, r1, r2]) rfl ?_
    exact ⟨_, _, _, _, _, _, _, rfl, q7.put3 ⟨_, _, _, _, _, _, _, B9⟩, below_put3 x3 (by omega) (Nat.le_refl _) _ _ _⟩

theorem ref_make {w : World} {A A' : Option Addr} {n n' c c' N : Nat} {xs ys : List Int} (s : Bool) (h : Sl w A n c xs) (h' : Sl w A' n' c' ys) (hn : n ≤ N) (hn' : n' ≤ N) (hN : N ≤ 1000) (h0 : val ys ≠ 0) :
    Calls Tryz.prog 45 #[.bool s, .slice A n c, .slice A' n' c'] w (RetQ (rq s (val xs) (val ys)) w) :=
  ref_makeT s h h' hn hn' (by omega) h0 (tz_small (val_lt_pow h'.us (by have := h'.len; omega)) hN)

end Go.Proofs.YtfhihapgjiaobaaGreat

namespace Go.Proofs.YtfhihapgjiaobaaGreat
set_option maxRecDepth 100000
open Go.RowKit
set_option linter.unusedVariables false
set_option linter.unusedSimpArgs false

set_option maxHeartbeats 1000000 in
theorem plain_long {w : World} {s : Bool} {A A' : Option Addr} {n n' c c' : Nat} (k : Int) :
    Calls Tryz.prog 31 #[.agg #[.bool s, .slice A n c, .slice A' n' c'], .int .i64 k] w (RetBl (decide (k < n ∨ k < n')) w) := by
  by_cases h1 : k < n
  · rw [decide_eq_true (.inl h1)]
    go_enter Tryz.func31, Tryz.ntmps31
    go_wp2_with fail
    go_ret
    exact ⟨rfl, below_alloc _ _⟩
  · have e1 : decide (k < (n : Int)) = false := decide_eq_false h1
    obtain ⟨b, hb⟩ : ∃ b, decide (k < n ∨ k < n') = b := ⟨_, rfl⟩
    have e2 : decide (k < (n' : Int)) = b := by rw [← hb]; simp [h1]
    rw [hb]
    clear hb
    go_enter Tryz.func31, Tryz.ntmps31
    go_wp2_with fail
    go_ret
    exact ⟨rfl, below_alloc _ _⟩

/-- is a number valid? -/
def rightB (s : Bool) (xs ys : List Int) : Bool := decide (sz xs = xs.length ∧ sz ys = ys.length ∧ val ys ≠ 0 ∧ ¬ (s = true ∧ val xs = 0) ∧ Nat.gcd (val xs) (val ys) = 1)
theorem right_no1 {s : Bool} {xs ys : List Int} (h : ¬ sz xs = xs.length) : rightB s xs ys = false := decide_eq_false fun e => h e.1
theorem right_no2 {s : Bool} {xs ys : List Int} (h : ¬ sz ys = ys.length) : rightB s xs ys = false := decide_eq_false fun e => h e.2.1
theorem right_no3 {s : Bool} {xs ys : List Int} (h : val ys = 0) : rightB s xs ys = false := decide_eq_false fun e => e.2.2.1 h
theorem right_no4 {s : Bool} {xs ys : List Int} (h : s = true ∧ val xs = 0) : rightB s xs ys = false := decide_eq_false fun e => e.2.2.2.1 h
theorem right_yes {s : Bool} {xs ys : List Int} (h1 : sz xs = xs.length) (h2 : sz ys = ys.length) (h3 : val ys ≠ 0) (h4 : ¬ (s = true ∧ val xs = 0)) : rightB s xs ys = decide (Nat.gcd (val xs) (val ys) = 1) := by
  unfold rightB
  rw [Bool.eq_iff_iff]
  simp only [decide_eq_true_eq]
  exact ⟨fun e => e.2.2.2.2, fun e => ⟨h1, h2, h3, h4, e⟩⟩
/-- a valid number is a number of Lean's own -/
theorem right_Q {w : World} {s : Bool} {A A' : Option Addr} {n n' c c' N : Nat} {xs ys : List Int} (h : Sl w A n c xs) (h' : Sl w A' n' c' ys) (hn : n ≤ N) (hn' : n' ≤ N) (hr : rightB s xs ys = true) :
    ∃ X, Q w s A n c A' n' c' X ∧ Sz X N ∧ X = rq s (val xs) (val ys) := by
  unfold rightB at hr
  rw [decide_eq_true_eq] at hr
  obtain ⟨h1, h2, h3, h4, h5⟩ := hr
  obtain ⟨r1, r2, r3⟩ := rq_cop' (s := s) h3 h5
  have t1 : words (val xs) = xs := by rw [words_val (Dg_U h.us)]; unfold trim; rw [h1, List.take_length]
  have t2 : words (val ys) = ys := by rw [words_val (Dg_U h'.us)]; unfold trim; rw [h2, List.take_length]
  refine ⟨rq s (val xs) (val ys), ⟨?_, ?_, ?_⟩, ⟨?_, ?_⟩, rfl⟩
  · rw [r3]
    cases s
    · rfl
    · have : val xs ≠ 0 := fun e => h4 ⟨rfl, e⟩
      simp [this]
  · rw [r1, t1]; exact h
  · rw [r2, t2]; exact h'
  · rw [r1]; exact val_lt_pow h.us (by have := h.len; omega)
  · rw [r2]; exact val_lt_pow h'.us (by have := h'.len; omega)
set_option maxRecDepth 100000 in
set_option maxHeartbeats 4000000 in
theorem rat_right {w : World} {s : Bool} {A A' : Option Addr} {n n' c c' N : Nat} {xs ys : List Int} (h : Sl w A n c xs) (h' : Sl w A' n' c' ys) (hn : n ≤ N) (hn' : n' ≤ N) (hN : N ≤ 1000) :
    Calls Tryz.prog 58 #[.agg #[.bool s, .slice A n c, .slice A' n' c']] w (RetBl (rightB s xs ys) w) := by
  have N1 := fun w1 (hb : Below w.heap.size w w1) => nat_right (h.below hb) (by omega)
  have N2 := fun w1 (hb : Below w.heap.size w w1) => nat_right (h'.below hb) (by omega)
  have Z1 := fun w1 (hb : Below w.heap.size w w1) => rat_isZero (h.below hb) (by omega)
  have Z2 := fun w1 (hb : Below w.heap.size w w1) => rat_isZero (h'.below hb) (by omega)
  have CO := fun w1 (hb : Below w.heap.size w w1) => gcd_coprime (N := N) (h.below hb) (h'.below hb) hn hn' (by omega)
  have z1 : val xs = 0 ↔ sz xs = 0 := valB_zero_iff W_pos (Dg_U h.us)
  have z2 : val ys = 0 ↔ sz ys = 0 := valB_zero_iff W_pos (Dg_U h'.us)
  have e1 := h.len
  have e2 := h'.len
  by_cases h1 : sz xs = n
  · rw [decide_eq_true h1] at N1
    have HN1 := Lib.hid N1
    by_cases h2 : sz ys = n'
    · rw [decide_eq_true h2] at N2
      have HN2 := Lib.hid N2
      clear N1 N2
      by_cases h3 : val ys = 0
      · rw [right_no3 h3]
        rw [decide_eq_true h3] at Z2
        have HZ2 := Lib.hid Z2
        clear Z1 Z2 CO z1 z2 h1 h2 h3 e1 e2
        go_enter Tryz.func58, Tryz.ntmps58
        go_wp2_with fail
        refine (HN1.out _ (below_alloc _ _)).mono ?_
        rintro _ _ ⟨rfl, rfl⟩
        go_wp2_with fail
        refine (HN2.out _ (below_alloc _ _)).mono ?_
        rintro _ _ ⟨rfl, rfl⟩
        go_wp2_with fail
        refine (HZ2.out _ (below_alloc _ _)).mono ?_
        rintro _ _ ⟨rfl, rfl⟩
        go_wp2_with fail
        go_ret
        exact ⟨rfl, below_alloc _ _⟩
      · by_cases h4 : s = true ∧ val xs = 0
        · rw [right_no4 h4]
          rw [decide_eq_false h3] at Z2
          rw [decide_eq_true h4.2] at Z1
          have HZ2 := Lib.hid Z2
          have HZ1 := Lib.hid Z1
          obtain ⟨rfl, _⟩ := h4
          clear Z1 Z2 CO z1 z2 h1 h2 h3 e1 e2
          go_enter Tryz.func58, Tryz.ntmps58
          go_wp2_with fail
          refine (HN1.out _ (below_alloc _ _)).mono ?_
          rintro _ _ ⟨rfl, rfl⟩
          go_wp2_with fail
          refine (HN2.out _ (below_alloc _ _)).mono ?_
          rintro _ _ ⟨rfl, rfl⟩
          go_wp2_with fail
          refine (HZ2.out _ (below_alloc _ _)).mono ?_
          rintro _ _ ⟨rfl, rfl⟩
          go_wp2_with fail
          refine (HZ1.out _ (below_alloc _ _)).mono ?_
          rintro _ _ ⟨rfl, rfl⟩
          go_wp2_with fail
          go_ret
          exact ⟨rfl, below_alloc _ _⟩
        · rw [right_yes (by omega) (by omega) h3 h4]
          obtain ⟨bb', hbb⟩ : ∃ b, decide (Nat.gcd (val xs) (val ys) = 1) = b := ⟨_, rfl⟩
          rw [hbb]
          rw [decide_eq_false h3] at Z2
          rw [hbb] at CO
          have HZ2 := Lib.hid Z2
          have HZ1 := Lib.hid Z1
          have HCO := Lib.hid CO
          cases s
          · clear Z1 Z2 CO z1 z2 h1 h2 h3 h4 e1 e2 hbb
            go_enter Tryz.func58, Tryz.ntmps58
            go_wp2_with fail
            refine (HN1.out _ (below_alloc _ _)).mono ?_
            rintro _ _ ⟨rfl, rfl⟩
            go_wp2_with fail
            refine (HN2.out _ (below_alloc _ _)).mono ?_
            rintro _ _ ⟨rfl, rfl⟩
            go_wp2_with fail
            refine (HZ2.out _ (below_alloc _ _)).mono ?_
            rintro _ _ ⟨rfl, rfl⟩
            go_wp2_with fail
            refine (HCO.out _ (below_alloc _ _)).mono ?_
            rintro _ w1 ⟨rfl, b1⟩
            go_wp2_with fail
            go_ret
            exact ⟨rfl, bb (below_alloc _ _) b1⟩
          · rw [decide_eq_false (fun e => h4 ⟨rfl, e⟩)] at HZ1
            clear Z1 Z2 CO z1 z2 h1 h2 h3 h4 e1 e2 hbb
            go_enter Tryz.func58, Tryz.ntmps58
            go_wp2_with fail
            refine (HN1.out _ (below_alloc _ _)).mono ?_
            rintro _ _ ⟨rfl, rfl⟩
            go_wp2_with fail
            refine (HN2.out _ (below_alloc _ _)).mono ?_
            rintro _ _ ⟨rfl, rfl⟩
            go_wp2_with fail
            refine (HZ2.out _ (below_alloc _ _)).mono ?_
            rintro _ _ ⟨rfl, rfl⟩
            go_wp2_with fail
            refine (HZ1.out _ (below_alloc _ _)).mono ?_
            rintro _ _ ⟨rfl, rfl⟩
            go_wp2_with fail
            refine (HCO.out _ (below_alloc _ _)).mono ?_
            rintro _ w1 ⟨rfl, b1⟩
            go_wp2_with fail
            go_ret
            exact ⟨rfl, bb (below_alloc _ _) b1⟩
    · rw [decide_eq_false h2] at N2
      rw [right_no2 (by omega)]
      have HN2 := Lib.hid N2
      clear N1 N2 Z1 Z2 CO z1 z2 h1 h2 e1 e2
      go_enter Tryz.func58, Tryz.ntmps58
      go_wp2_with fail
      refine (HN1.out _ (below_alloc _ _)).mono ?_
      rintro _ _ ⟨rfl, rfl⟩
      go_wp2_with fail
      refine (HN2.out _ (below_alloc _ _)).mono ?_
      rintro _ _ ⟨rfl, rfl⟩
      go_wp2_with fail
      go_ret
      exact ⟨rfl, below_alloc _ _⟩
  · rw [decide_eq_false h1] at N1
    rw [right_no1 (by omega)]
    have HN1 := Lib.hid N1
    clear N1 N2 Z1 Z2 CO z1 z2 h1 e1 e2
    go_enter Tryz.func58, Tryz.ntmps58
    go_wp2_with fail
    refine (HN1.out _ (below_alloc _ _)).mono ?_
    rintro _ _ ⟨rfl, rfl⟩
    go_wp2_with fail
    go_ret
    exact ⟨rfl, below_alloc _ _⟩

/-- the world behind a result's box and two words -/
theorem lits2 (w : World) (us : Array Value) (x y : Int) (hx : U x) (hy : U y) : ∃ V, ((w.alloc (.cells us 45)).alloc (.cells #[.int .u64 x] 76)).alloc (.cells #[.int .u64 y] 76) = V ∧ Box 45 V w.heap.size us ∧ Sl V (some ⟨w.heap.size + 1, 0, none⟩) 1 1 [x] ∧ Sl V (some ⟨w.heap.size + 1 + 1, 0, none⟩) 1 1 [y] ∧ Below w.heap.size w V := by
  refine ⟨_, rfl, ((Box.new w _ us).alloc _).alloc _, ?_, ?_, ((below_alloc _ _).alloc (by simp) _).alloc (by simp; omega) _⟩
  · have := (sl_lit (w.alloc (.cells us 45)) x hx).below (below_alloc _ (.cells #[.int .u64 y] 76))
    rw [show (w.alloc (.cells us 45)).heap.size = w.heap.size + 1 from by simp] at this
    exact this
  · have := sl_lit ((w.alloc (.cells us 45)).alloc (.cells #[.int .u64 x] 76)) y hy
    rw [show ((w.alloc (.cells us 45)).alloc (.cells #[.int .u64 x] 76)).heap.size = w.heap.size + 1 + 1 from by simp] at this
    exact this

set_option maxRecDepth 100000 in
set_option maxHeartbeats 4000000 in
theorem ref_of (z : Int) (hz1 : -9223372036854775808 ≤ z) (hz2 : z ≤ 9223372036854775807) (w : World) :
    Calls Tryz.prog 17 #[.int .i64 z] w (RetQ (z : Rat) w) := by
  have hu : U (z.natAbs : Int) := by unfold U; omega
  obtain ⟨V, hW, Br, s1, s2, hb0⟩ := lits2 w #[.bool false, .slice none 0 0, .slice none 0 0] (z.natAbs : Int) 1 hu U_1
  have MK := ref_make (N := 1) (decide (z < 0)) s1 s2 (by omega) (by omega) (by omega) (by rw [val_one]; decide)
  rw [val_one, val_one, Int.toNat_natCast, show (1 : Int).toNat = 1 from rfl, of_rq] at MK
  generalize (z : Rat) = X at *
  by_cases hz : z < 0
  · have e : IntKind.u64.wrap (-(IntKind.u64.wrap z)) = (z.natAbs : Int) := by rw [wrapU, wrapU]; omega
    rw [decide_eq_true hz] at MK
    generalize ((z.natAbs : Nat) : Int) = m at *
    have HMK := Lib.hid MK
    have HW := Lib.hid hW
    have HBr := Lib.hid Br
    clear MK hW Br s1 s2 hu
    go_enter Tryz.func17, Tryz.ntmps17
    go_wp2_with fail
    rw [HW.out]
    refine HMK.out.mono ?_
    rintro _ w3 ⟨s3, A3, n3, c3, A4, n4, c4, rfl, q3, x3⟩
    have B3 := HBr.out.below' x3
    obtain ⟨⟨r0, r1, r2⟩, f0, f1, f2⟩ := B3.three
    go_wp2_with fail
    refine bodyPost_ret (v := .agg #[.bool s3, .slice A3 n3 c3, .slice A4 n4 c4]) (by simp [results, Tryz.results17, go_sem, r0, r1, r2]) rfl ?_
    exact ⟨_, _, _, _, _, _, _, rfl, q3.put3 ⟨_, _, _, _, _, _, _, B3⟩, below_put3 (bb hb0 x3) (by omega) (Nat.le_refl _) _ _ _⟩
  · have e : IntKind.u64.wrap z = (z.natAbs : Int) := by rw [wrapU]; omega
    have hzz : ((z.natAbs : Nat) : Int) = z := by omega
    rw [hzz] at hW e
    rw [decide_eq_false hz] at MK
    have HMK := Lib.hid MK
    have HW := Lib.hid hW
    have HBr := Lib.hid Br
    clear MK hW Br s1 s2 hu hzz
    go_enter Tryz.func17, Tryz.ntmps17
    go_wp2_with fail
    rw [HW.out]
    refine HMK.out.mono ?_
    rintro _ w3 ⟨s3, A3, n3, c3, A4, n4, c4, rfl, q3, x3⟩
    have B3 := HBr.out.below' x3
    obtain ⟨⟨r0, r1, r2⟩, f0, f1, f2⟩ := B3.three
    go_wp2_with fail
    refine bodyPost_ret (v := .agg #[.bool s3, .slice A3 n3 c3, .slice A4 n4 c4]) (by simp [results, Tryz.results17, go_sem, r0, r1, r2]) rfl ?_
    exact ⟨_, _, _, _, _, _, _, rfl, q3.put3 ⟨_, _, _, _, _, _, _, B3⟩, below_put3 (bb hb0 x3) (by omega) (Nat.le_refl _) _ _ _⟩

end Go.Proofs.YtfhihapgjiaobaaGreat

namespace Go.Proofs.YtfhihapgjiaobaaGreat
set_option maxRecDepth 100000
open Go.RowKit
set_option linter.unusedVariables false
set_option linter.unusedSimpArgs false

def vq (q : Bool × List Int × List Int) : Bool := rightB q.1 q.2.1 q.2.2
def nq (q : Bool × List Int × List Int) : Bool := decide (q.1 = false ∧ q.2.1 = [] ∧ q.2.2 = [])
noncomputable def fitsB (x : PI) (n : Nat) : Bool := @decide (fits vq nq x n) (Classical.propDecidable _)
noncomputable def progB (l : List PI) : Bool := @decide (IsProg vq nq l) (Classical.propDecidable _)
theorem fitsB_iff (x : PI) (n : Nat) : fitsB x n = true ↔ fits vq nq x n := by unfold fitsB; exact @decide_eq_true_iff _ (Classical.propDecidable _)
theorem progB_iff (l : List PI) : progB l = true ↔ IsProg vq nq l := by unfold progB; exact @decide_eq_true_iff _ (Classical.propDecidable _)
theorem progB_false {l : List PI} (h : ¬ IsProg vq nq l) : progB l = false := by unfold progB; exact @decide_eq_false _ (Classical.propDecidable _) h
theorem fitsB_of {x : PI} {n : Nat} {b : Bool} (h : fits vq nq x n ↔ b = true) : fitsB x n = b := by
  rw [Bool.eq_iff_iff, fitsB_iff]; exact h
theorem fits_const {a b : Int} {q : Bool × List Int × List Int} {n : Nat} : fitsB ⟨2, a, b, q⟩ n = (decide (a = 0) && (decide (b = 0) && vq q)) := by
  refine fitsB_of ?_
  unfold fits
  simp
theorem fits_full {op a b : Int} {q : Bool × List Int × List Int} {n : Nat} (h2 : ¬ op = 2) (h : nq q = false) : fitsB ⟨op, a, b, q⟩ n = false := by
  refine fitsB_of ?_
  unfold fits
  simp [h2, h]
theorem fits_input {a b : Int} {q : Bool × List Int × List Int} {n : Nat} (h : nq q = true) : fitsB ⟨1, a, b, q⟩ n = (decide (0 ≤ a ∧ a < 65536) && decide (b = 0)) := by
  refine fitsB_of ?_
  unfold fits
  simp [h, and_assoc]
theorem fits_one {op a b : Int} {q : Bool × List Int × List Int} {n : Nat} (h2 : ¬ op = 2) (h1 : ¬ op = 1) (ha : arity op = 1) (h : nq q = true) : fitsB ⟨op, a, b, q⟩ n = (decide (0 ≤ a ∧ a < (n : Int)) && decide (b = 0)) := by
  refine fitsB_of ?_
  unfold fits
  simp [h2, h1, h, ha, and_assoc]
theorem fits_two {op a b : Int} {q : Bool × List Int × List Int} {n : Nat} (h2 : ¬ op = 2) (h1 : ¬ op = 1) (ha : arity op = 2) (h : nq q = true) : fitsB ⟨op, a, b, q⟩ n = (decide (0 ≤ a ∧ a < (n : Int)) && decide (0 ≤ b ∧ b < (n : Int))) := by
  refine fitsB_of ?_
  unfold fits
  simp [h2, h1, h, ha, and_assoc]
theorem fits_none {op a b : Int} {q : Bool × List Int × List Int} {n : Nat} (h2 : ¬ op = 2) (h1 : ¬ op = 1) (ha : arity op = -1) : fitsB ⟨op, a, b, q⟩ n = false := by
  refine fitsB_of ?_
  unfold fits
  simp [h2, h1, ha]
theorem ar_op {op : Int} (h2 : ¬ op = 2) (h1 : ¬ op = 1) : arity op = 1 ∨ arity op = 2 ∨ arity op = -1 := by
  rcases ar_cases op with ⟨c, d⟩ | ⟨c, d1, d2⟩ | ⟨c, d1, d2⟩ | ⟨c, d1, d2⟩
  · omega
  · exact .inl c
  · exact .inr (.inl c)
  · exact .inr (.inr c)
/-- an instruction's number -/
theorem nq_len {w : World} {q : RQ} (h : q.ok w) : nq (q.s, q.z, q.z') = decide (q.s = false ∧ q.n = 0 ∧ q.n' = 0) := by
  unfold nq
  have h1 := h.1.len
  have h2 := h.2.1.len
  rw [h1, h2]
  simp [List.length_eq_zero_iff]
/-- the numbers have at most N words -/
def Shrt (N : Nat) (xs : List RI) : Prop := ∀ x ∈ xs, x.q.n ≤ N ∧ x.q.n' ≤ N

end Go.Proofs.YtfhihapgjiaobaaGreat

namespace Go.Proofs.YtfhihapgjiaobaaGreat
set_option maxRecDepth 100000
open Go.RowKit
set_option linter.unusedVariables false
set_option linter.unusedSimpArgs false

def bitsQ (X : Rat) : Int := max (blen X.num.natAbs : Int) (blen X.den)
/-- a value that is not too great -/
def big (r : Except Int Rat) : Except Int Rat := match r with
  | .error e => .error e
  | .ok X => if 4096 < bitsQ X then .error 5 else .ok X
theorem big_err (e : Int) : big (.error e) = .error e := rfl
theorem big_no {X : Rat} (h : 4096 < bitsQ X) : big (.ok X) = .error 5 := by show (if _ then _ else _) = _; rw [if_pos h]
theorem big_yes {X : Rat} (h : ¬ 4096 < bitsQ X) : big (.ok X) = .ok X := by show (if _ then _ else _) = _; rw [if_neg h]
theorem lt_W {n N : Nat} (h : blen n ≤ 64 * N) : n < W ^ N := by
  have e : W ^ N = 2 ^ (64 * N) := by rw [show W = 2 ^ 64 from rfl, ← Nat.pow_mul]
  rw [e]
  exact Nat.lt_of_lt_of_le (blen_lt _) (Nat.pow_le_pow_right (by omega) h)
theorem sz_of_bits {X : Rat} (h : ¬ 4096 < bitsQ X) : Sz X 64 := by
  unfold bitsQ at h
  exact ⟨lt_W (by omega), lt_W (by omega)⟩
/-- the number that a sign and two lists of words say -/
def qval (q : Bool × List Int × List Int) : Rat := rq q.1 (val q.2.1) (val q.2.2)
/-- what an instruction comes to, by the values of those ahead; fs: the forms that are left -/
def raw (ins fs : List Rat) (x : PI) (v : List Rat) : Except Int Rat :=
  if x.op = 1 then (if x.a.toNat < ins.length then .ok (ins.getD x.a.toNat 0) else .error 11)
  else if x.op = 2 then .ok (qval x.q)
  else if x.op = 3 then .ok (-(v.getD x.a.toNat 0))
  else if x.op = 4 then .ok (v.getD x.a.toNat 0 + v.getD x.b.toNat 0)
  else if x.op = 5 then .ok (v.getD x.a.toNat 0 - v.getD x.b.toNat 0)
  else if x.op = 6 then .ok (v.getD x.a.toNat 0 * v.getD x.b.toNat 0)
  else if x.op = 7 then (if v.getD x.b.toNat 0 = 0 then .error 4 else .ok (v.getD x.a.toNat 0 / v.getD x.b.toNat 0))
  else if 0 < fs.length then .ok (fs.getD 0 0) else .error 6
/-- one step of the whole -/
def exSt (ins forms : List Rat) (l : List PI) (i : Nat) (x : PI) (v : List Rat) : Except Int Rat := big (raw ins (forms.drop (countTo isF l i)) x v)
section
variable {ins fs v : List Rat} {a b : Int} {q : Bool × List Int × List Int}
theorem raw_in (h : a.toNat < ins.length) : raw ins fs ⟨1, a, b, q⟩ v = .ok (ins.getD a.toNat 0) := by unfold raw; rw [if_pos rfl, if_pos h]
theorem raw_in_no (h : ¬ a.toNat < ins.length) : raw ins fs ⟨1, a, b, q⟩ v = .error 11 := by unfold raw; rw [if_pos rfl, if_neg h]
theorem raw_const : raw ins fs ⟨2, a, b, q⟩ v = .ok (qval q) := rfl
theorem raw_neg : raw ins fs ⟨3, a, b, q⟩ v = .ok (-(v.getD a.toNat 0)) := rfl
theorem raw_add : raw ins fs ⟨4, a, b, q⟩ v = .ok (v.getD a.toNat 0 + v.getD b.toNat 0) := rfl
theorem raw_sub : raw ins fs ⟨5, a, b, q⟩ v = .ok (v.getD a.toNat 0 - v.getD b.toNat 0) := rfl
theorem raw_mul : raw ins fs ⟨6, a, b, q⟩ v = .ok (v.getD a.toNat 0 * v.getD b.toNat 0) := rfl
theorem raw_div (h : ¬ v.getD b.toNat 0 = 0) : raw ins fs ⟨7, a, b, q⟩ v = .ok (v.getD a.toNat 0 / v.getD b.toNat 0) := by
  show (if v.getD b.toNat 0 = 0 then _ else _) = _; rw [if_neg h]
theorem raw_div_no (h : v.getD b.toNat 0 = 0) : raw ins fs ⟨7, a, b, q⟩ v = .error 4 := by
  show (if v.getD b.toNat 0 = 0 then _ else _) = _; rw [if_pos h]
theorem raw_form {op : Int} (hf : isForm op = true) (h : 0 < fs.length) : raw ins fs ⟨op, a, b, q⟩ v = .ok (fs.getD 0 0) := by
  unfold isForm at hf
  simp at hf
  unfold raw
  simp only
  rw [if_neg (by omega), if_neg (by omega), if_neg (by omega), if_neg (by omega), if_neg (by omega), if_neg (by omega), if_neg (by omega), if_pos h]
theorem raw_form_no {op : Int} (hf : isForm op = true) (h : ¬ 0 < fs.length) : raw ins fs ⟨op, a, b, q⟩ v = .error 6 := by
  unfold isForm at hf
  simp at hf
  unfold raw
  simp only
  rw [if_neg (by omega), if_neg (by omega), if_neg (by omega), if_neg (by omega), if_neg (by omega), if_neg (by omega), if_neg (by omega), if_neg h]
end
/-- all of these numbers are below W^N -/
def AllSz (N : Nat) (v : List Rat) : Prop := ∀ X ∈ v, Sz X N
theorem AllSz.at_ {N : Nat} {v : List Rat} (h : AllSz N v) {i : Nat} (hi : i < v.length) : Sz (v.getD i 0) N := by
  rw [List.getD_eq_getElem?_getD, List.getElem?_eq_getElem hi]; exact h _ (List.getElem_mem hi)
theorem AllSz.snoc {N : Nat} {v : List Rat} {X : Rat} (h : AllSz N v) (hX : Sz X N) : AllSz N (v ++ [X]) := by
  intro Y hY
  rcases List.mem_append.1 hY with hY | hY
  · exact h Y hY
  · rw [List.mem_singleton.1 hY]; exact hX
theorem sz_zero (N : Nat) (h : 0 < N) : Sz 0 N := by
  unfold Sz
  have h1 : 1 < W ^ N := Nat.one_lt_pow (by omega) (by decide)
  exact ⟨by simpa using Nat.lt_trans Nat.zero_lt_one h1, h1⟩
/-- forms that are used up -/
theorem forms_next {l : List PI} {i : Nat} {forms : List Rat} (h : isF (l.getD i PI.nil) = true) : forms.drop (countTo isF l (i + 1)) = (forms.drop (countTo isF l i)).drop 1 := by
  rw [count_yes h, List.drop_drop]
theorem forms_same {l : List PI} {i : Nat} {forms : List Rat} (h : isF (l.getD i PI.nil) = false) : forms.drop (countTo isF l (i + 1)) = forms.drop (countTo isF l i) := by
  rw [count_no h]
end Go.Proofs.YtfhihapgjiaobaaGreat
