/-
  Words that the laws of exact numbers use: what is known to be so; gradinelaw07.same and right.
-/
import Derived.Test.YtnheefhbchkbdaaDoorRatMul
import Derived.Test.YtnheefhbchkbdaaDoorRatCmp
import Derived.Test.YtnheefhbchkbdaaDoorRatRight
namespace Go.Proofs.YtnheefhbchkbdaaDoor
set_option maxRecDepth 100000
open Go.RowKit
set_option linter.unusedVariables false
set_option linter.unusedSimpArgs false

theorem box0 (t : TypeId) (w : World) (vs : Array Value) : ∃ V, w.alloc (.cells vs t) = V ∧ Box t V w.heap.size vs ∧ Below w.heap.size w V := ⟨_, rfl, Box.new w t vs, below_alloc _ _⟩
theorem rat_sameT {w : World} {s t : Bool} {A A' B B' : Option Addr} {n n' c c' m m' d d' N : Nat} {X Y : Rat} (h : Q w s A n c A' n' c' X) (k : Q w t B m d B' m' d' Y) (hX : Sz X N) (hY : Sz Y N) (hN : N ≤ 1000) (e : X = Y) : Calls Tryd.prog 9 #[.agg #[.bool s, .slice A n c, .slice A' n' c'], .agg #[.bool t, .slice B m d, .slice B' m' d']] w (RetBl true w) := by
  have := rat_sameQ h k hX hY hN
  rw [decide_eq_true e] at this
  exact this
theorem rat_sameE {w : World} {s t : Bool} {A A' B B' : Option Addr} {n n' c c' m m' d d' N : Nat} {X Y : Rat} (h : Q w s A n c A' n' c' X) (k : Q w t B m d B' m' d' Y) (hX : Sz X N) (hY : Sz Y N) (hN : N ≤ 1000) (b : Bool) (e : decide (X = Y) = b) : Calls Tryd.prog 9 #[.agg #[.bool s, .slice A n c, .slice A' n' c'], .agg #[.bool t, .slice B m d, .slice B' m' d']] w (RetBl b w) := by
  have := rat_sameQ h k hX hY hN
  rw [e] at this
  exact this
theorem rat_cmpE {w : World} {s t : Bool} {A A' B B' : Option Addr} {n n' c c' m m' d d' N : Nat} {X Y : Rat} (h : Q w s A n c A' n' c' X) (k : Q w t B m d B' m' d' Y) (hX : Sz X N) (hY : Sz Y N) (hN : N ≤ 1000) (r : Int) (e : cmpQ X Y = r) : Calls Tryd.prog 14 #[.agg #[.bool s, .slice A n c, .slice A' n' c'], .agg #[.bool t, .slice B m d, .slice B' m' d']] w (RetI r w) := by
  rw [← e]; exact rat_cmp h k hX hY hN
theorem rat_signE {w : World} {s : Bool} {A A' : Option Addr} {n n' c c' N : Nat} {X : Rat} (h : Q w s A n c A' n' c' X) (hX : Sz X N) (hN : N ≤ 1000) (r : Int) (e : sgnQ X = r) : Calls Tryd.prog 17 #[.agg #[.bool s, .slice A n c, .slice A' n' c']] w (RetI r w) := by
  rw [← e]; exact rat_sign h (by have := h.2.1.small hX.1; omega)
theorem ref_zeroE {w : World} {s : Bool} {A A' : Option Addr} {n n' c c' N : Nat} {X : Rat} (h : Q w s A n c A' n' c' X) (hX : Sz X N) (b : Bool) (e : decide (X = 0) = b) : Calls Tryd.prog 6 #[.agg #[.bool s, .slice A n c, .slice A' n' c']] w (RetBl b w) := by
  rw [← e]; exact ref_zero h
theorem sl_word {w : World} {A : Option Addr} {n c v : Nat} (h : Sl w A n c (words v)) (h0 : 0 < v) (h1 : v < W) : n = 1 ∧ ∃ p o, A = some ⟨p, o, none⟩ ∧ p < w.heap.size ∧ w.cell? ⟨p, o, none⟩ = some (.int .u64 (v : Int)) := by
  rw [words_small v h0 h1] at h
  have hl : n = 1 := h.len
  subst hl
  obtain ⟨b, off, e, hb, hc⟩ := h.at_ (k := 0) (by omega)
  exact ⟨rfl, b, off, e, hb, hc 0 (by omega)⟩
theorem sz_of (z : Int) (h1 : -9223372036854775808 ≤ z) (h2 : z ≤ 9223372036854775807) : Sz (z : Rat) 1 := by
  refine ⟨?_, ?_⟩
  · rw [Nat.pow_one, Rat.num_intCast]; unfold W; omega
  · rw [Nat.pow_one, Rat.den_intCast]; unfold W; omega
theorem lits (w : World) (x y : Int) (hx : U x) (hy : U y) : ∃ V, (w.alloc (.cells #[.int .u64 x] 37)).alloc (.cells #[.int .u64 y] 37) = V ∧ Sl V (some ⟨w.heap.size, 0, none⟩) 1 1 [x] ∧ Sl V (some ⟨w.heap.size + 1, 0, none⟩) 1 1 [y] ∧ Below w.heap.size w V := by
  refine ⟨_, rfl, ?_, ?_, ((below_alloc _ _).alloc (by simp) _)⟩
  · exact (sl_lit w x hx).below (below_alloc _ (.cells #[.int .u64 y] 37))
  · have := sl_lit (w.alloc (.cells #[.int .u64 x] 37)) y hy
    rw [show (w.alloc (.cells #[.int .u64 x] 37)).heap.size = w.heap.size + 1 from by simp] at this
    exact this

theorem right07_Q {w : World} {s : Bool} {A A' : Option Addr} {n n' c c' : Nat} {xs ys : List Int} (h : Sl w A n c xs) (h' : Sl w A' n' c' ys) (hr : (decide (n ≤ 6 ∧ n' ≤ 6) && rightB s xs ys) = true) :
    ∃ X, Q w s A n c A' n' c' X ∧ Sz X 6 := by
  rw [Bool.and_eq_true, decide_eq_true_eq] at hr
  obtain ⟨X, h1, h2, _⟩ := right_Q h h' hr.1.1 hr.1.2 hr.2
  exact ⟨X, h1, h2⟩

end Go.Proofs.YtnheefhbchkbdaaDoor
