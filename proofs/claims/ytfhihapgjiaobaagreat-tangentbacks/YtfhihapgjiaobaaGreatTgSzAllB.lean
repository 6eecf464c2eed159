/-
  What the document's step (gradineref16.step) returns for an instruction that reckons. Conditions: the slice reads as numbers of at most 64 words.
-/
import Derived.Test.YtfhihapgjiaobaaGreatRatAddAllB
import Derived.Test.YtfhihapgjiaobaaGreatNatMathOneB
import Derived.Test.YtfhihapgjiaobaaGreatQuotMathAllB
import Derived.Test.YtfhihapgjiaobaaGreatRefProdAllB
import Derived.Test.YtfhihapgjiaobaaGreatRefDivAllB
import Derived.Laws.BytesArg
import Derived.Test.YtfhihapgjiaobaaGreatRefGcdAllB
import Derived.Test.YtfhihapgjiaobaaGreatRatMulAllB
import Derived.Test.YtfhihapgjiaobaaGreatEvBAllB
namespace Go.Proofs.YtfhihapgjiaobaaGreat
set_option maxRecDepth 100000
open Go.RowKit
set_option linter.unusedVariables false
set_option linter.unusedSimpArgs false

/-- the power of two in the denominator is at most 2^K -/
def Dz (X : Rat) (K : Nat) : Prop := ∃ o : Nat, o % 2 = 1 ∧ X.den ∣ 2 ^ K * o
theorem den_of_mk (n : Int) (c : Nat) (h : c ≠ 0) : (mkRat n c).den ∣ c := by
  rw [Rat.den_mkRat, if_neg h]
  exact Nat.div_dvd_of_dvd (Nat.gcd_dvd_left _ _)
theorem den_add_dvd {X Y : Rat} {c : Nat} (h0 : c ≠ 0) (h : X.den ∣ c) (k : Y.den ∣ c) : (X + Y).den ∣ c := by
  obtain ⟨a, ha⟩ := h
  obtain ⟨b, hb⟩ := k
  have a0 : a ≠ 0 := fun e => h0 (by rw [ha, e, Nat.mul_zero])
  have b0 : b ≠ 0 := fun e => h0 (by rw [hb, e, Nat.mul_zero])
  have eX : X = mkRat (X.num * a) c := by rw [ha, Rat.mkRat_mul_right a0, Rat.mkRat_self]
  have eY : Y = mkRat (Y.num * b) c := by rw [hb, Rat.mkRat_mul_right b0, Rat.mkRat_self]
  have e : X + Y = mkRat (X.num * a + Y.num * b) c := by
    conv => lhs; rw [eX, eY]
    rw [Rat.mkRat_add_mkRat _ _ h0 h0, ← Int.add_mul, Rat.mkRat_mul_right h0]
  rw [e]
  exact den_of_mk _ _ h0
theorem Dz.mono {X : Rat} {K L : Nat} (h : Dz X K) (hl : K ≤ L) : Dz X L := by
  obtain ⟨o, h1, h2⟩ := h
  exact ⟨o, h1, Nat.dvd_trans h2 (Nat.mul_dvd_mul_right (Nat.pow_dvd_pow 2 hl) o)⟩
theorem Dz.add {X Y : Rat} {K : Nat} (h : Dz X K) (k : Dz Y K) : Dz (X + Y) K := by
  obtain ⟨o, h1, h2⟩ := h
  obtain ⟨u, k1, k2⟩ := k
  refine ⟨o * u, by rw [Nat.mul_mod, h1, k1], ?_⟩
  have o0 : o ≠ 0 := fun e => by rw [e] at h1; exact absurd h1 (by decide)
  have u0 : u ≠ 0 := fun e => by rw [e] at k1; exact absurd k1 (by decide)
  refine den_add_dvd (Nat.mul_ne_zero (Nat.ne_of_gt (Nat.two_pow_pos K)) (Nat.mul_ne_zero o0 u0)) ?_ ?_
  · exact Nat.dvd_trans h2 (by rw [← Nat.mul_assoc]; exact Nat.dvd_mul_right _ _)
  · exact Nat.dvd_trans k2 (by rw [Nat.mul_comm o u, ← Nat.mul_assoc]; exact Nat.dvd_mul_right _ _)
theorem Dz.of {X : Rat} : Dz X (tz X.den) := by
  obtain ⟨h1, h2⟩ := odd_eq (den_ne X)
  exact ⟨odd X.den, h2, by rw [← h1]; exact Nat.dvd_refl _⟩
theorem Sz.dz {X : Rat} {N K : Nat} (h : Sz X N) (hK : 64 * N ≤ K) : Dz X K := Dz.of.mono (Nat.le_trans (tz_lim h.2) hK)
theorem tz_le_of_dvd {d K o : Nat} (h0 : d ≠ 0) (ho : o % 2 = 1) (h : d ∣ 2 ^ K * o) : tz d ≤ K := by
  obtain ⟨e1, e2⟩ := odd_eq h0
  obtain ⟨m, hm⟩ := h
  have h2 : 2 ^ tz d ∣ 2 ^ K * o := Nat.dvd_trans ⟨odd d, e1⟩ ⟨m, hm⟩
  rcases Nat.lt_or_ge K (tz d) with hlt | hge
  · exfalso
    have h3 : 2 ^ (K + 1) ∣ 2 ^ K * o := Nat.dvd_trans (Nat.pow_dvd_pow 2 hlt) h2
    rw [Nat.pow_succ] at h3
    have h4 := Nat.dvd_of_mul_dvd_mul_left (Nat.two_pow_pos K) h3
    omega
  · exact hge
/-- the product of two such denominators -/
theorem Dz.both {X Y : Rat} {K L : Nat} (h : Dz X K) (k : Dz Y K) (hL : K + K ≤ L) : tz (X.den * Y.den) ≤ L := by
  obtain ⟨o, h1, h2⟩ := h
  obtain ⟨u, k1, k2⟩ := k
  refine Nat.le_trans (tz_le_of_dvd (o := o * u) (Nat.mul_ne_zero (den_ne X) (den_ne Y)) (by rw [Nat.mul_mod, h1, k1]) ?_) hL
  rw [Nat.pow_add, show 2 ^ K * 2 ^ K * (o * u) = 2 ^ K * o * (2 ^ K * u) by rw [Nat.mul_mul_mul_comm]]
  exact Nat.mul_dvd_mul h2 k2

end Go.Proofs.YtfhihapgjiaobaaGreat

namespace Go.Proofs.YtfhihapgjiaobaaGreat
set_option maxRecDepth 100000
set_option linter.unusedVariables false
set_option linter.unusedSimpArgs false

/-! ### the text of a number -/
/-! ### digits of a given number of places -/
/-! ### reading -/
def rd (l : List UInt8) : Nat := l.foldl (fun v c => v * 10 + (c.toNat - 48)) 0
/-! ### lengths and order -/
/-! ### groups of nineteen digits -/
def B : Nat := 10000000000000000000
/-! ### by ten, half word by half word -/
end Go.Proofs.YtfhihapgjiaobaaGreat

namespace Go.Proofs.YtfhihapgjiaobaaGreat
set_option maxRecDepth 100000
open Go.RowKit
set_option linter.unusedVariables false
set_option linter.unusedSimpArgs false

end Go.Proofs.YtfhihapgjiaobaaGreat

namespace Go.Proofs.YtfhihapgjiaobaaGreat
set_option maxRecDepth 100000
open Go.RowKit
set_option linter.unusedVariables false
set_option linter.unusedSimpArgs false

theorem Own.below {t : TypeId} {base : Nat} {w w' : World} {v : Value} {zs : List Int} (h : Own t base w v zs) (hb : Below w.heap.size w w') : Own t base w' v zs := by
  obtain ⟨h1, h2⟩ := h
  refine ⟨h1, ?_⟩
  rcases h2 with h2 | ⟨g, cap, cur, hv, hg, hh, r⟩
  · exact .inl h2
  · have hlt : g < w.heap.size := by
      rcases Nat.lt_or_ge g w.heap.size with h9 | h9
      · exact h9
      · rw [Array.getElem?_eq_none h9] at hh; cases hh
    exact .inr ⟨g, cap, cur, hv, hg, (hb.block g hlt).trans hh, r⟩
theorem Own.lit {w w1 : World} {t : TypeId} (hs : w.heap.size ≤ w1.heap.size) (x : Int) : Own t w.heap.size (w1.alloc (.cells #[.int .u64 x] t)) (.slice (some ⟨w1.heap.size, 0, none⟩) 1 1) [x] :=
  ⟨rfl, .inr ⟨w1.heap.size, 1, _, rfl, hs, heap_alloc_new w1 _, Nat.le_refl _, by unfold maxLen; omega, rfl, rfl⟩⟩
/-- a slice apart from the row that grows -/
theorem Sl.grown {w w1 : World} {o : Obj} {r : Option Nat} {A : Option Addr} {n c : Nat} {xs : List Int} (s : Sl w A n c xs) (hg : (w.alloc o).grownBy w1 r) (hne : ∀ b off, A = some ⟨b, off, none⟩ → some b ≠ r) : Sl w1 A n c xs := by
  refine ⟨s.1, fun h0 => ?_⟩
  obtain ⟨b, off, e, hlt, hc⟩ := s.2 h0
  have hsz := hg.size
  refine ⟨b, off, e, by simp at hsz; omega, fun j hj => ?_⟩
  have hbl := hg.block b (by simp; omega) (hne b off e)
  have e1 : w1.cell? ⟨b, off + j, none⟩ = (w.alloc o).cell? ⟨b, off + j, none⟩ := World.cell?_of_block (a := ⟨b, off + j, none⟩) hbl
  rw [e1, World.cell?_alloc_past _ _ _ hlt]
  exact hc j hj

end Go.Proofs.YtfhihapgjiaobaaGreat

namespace Go.Proofs.YtfhihapgjiaobaaGreat
set_option maxRecDepth 100000
open Go.RowKit
set_option linter.unusedVariables false
set_option linter.unusedSimpArgs false

/-- block g begins with the integers zs, none frozen -/
def Cl (k : IntKind) (w : World) (g : Nat) (zs : List Int) : Prop := ∀ j, j < zs.length → w.cell? ⟨g, j, none⟩ = some (.int k (zs.getD j 0)) ∧ w.frozen? ⟨g, j, none⟩ = false
theorem Cl.set {k : IntKind} {w : World} {g : Nat} {zs : List Int} (h : Cl k w g zs) (i : Nat) (hi : i < zs.length) (u : Int) : Cl k (w.setCell ⟨g, i, none⟩ (.int k u)) g (zs.set i u) := by
  intro j hj
  rw [List.length_set] at hj
  refine ⟨?_, by rw [World.frozen?_setCell]; exact (h j hj).2⟩
  by_cases e : i = j
  · subst e
    rw [World.cell?_setCell_same _ _ _ (h i hi).1, getD_set_self _ hi]
  · rw [World.cell?_setCell_other _ _ _ _ (by intro e2; injection e2 with _ e3; exact e e3), getD_set_ne _ e]
    exact (h j hj).1
theorem Cl.other {k : IntKind} {w : World} {g : Nat} {zs : List Int} (h : Cl k w g zs) {g' : Nat} (hg : g' ≠ g) (i : Nat) (u : Value) : Cl k (w.setCell ⟨g', i, none⟩ u) g zs := by
  intro j hj
  refine ⟨?_, by rw [World.frozen?_setCell]; exact (h j hj).2⟩
  rw [World.cell?_setCell_other _ _ _ _ (by intro e2; injection e2 with e3; exact hg e3)]
  exact (h j hj).1
theorem Cl.below {k : IntKind} {w w' : World} {g : Nat} {zs : List Int} (h : Cl k w g zs) (hb : Below w.heap.size w w') (hg : g < w.heap.size) : Cl k w' g zs := by
  intro j hj
  exact ⟨(hb.cell (p := ⟨g, j, none⟩) hg).trans (h j hj).1, (hb.frozen (p := ⟨g, j, none⟩) hg).trans (h j hj).2⟩
end Go.Proofs.YtfhihapgjiaobaaGreat

namespace Go.Proofs.YtfhihapgjiaobaaGreat
set_option maxRecDepth 100000
open Go.RowKit
set_option linter.unusedVariables false
set_option linter.unusedSimpArgs false

/-- the digits so far -/
def DigTo (s : ByteArray) (k : Nat) : Prop := ∀ j (hj : j < s.size), j < k → 48 ≤ s[j].toNat ∧ s[j].toNat ≤ 57
theorem DigTo.step {s : ByteArray} {k : Nat} (h : DigTo s k) (hk : k < s.size) (h1 : ¬ s[k].toNat < 48) (h2 : ¬ 57 < s[k].toNat) : DigTo s (k + 1) := fun j hj hjk => by
  by_cases e : j = k
  · subst e; omega
  · exact h j hj (by omega)


end Go.Proofs.YtfhihapgjiaobaaGreat

namespace Go.Proofs.YtfhihapgjiaobaaGreat
set_option maxRecDepth 100000
open Go.RowKit
set_option linter.unusedVariables false
set_option linter.unusedSimpArgs false

/-- whether a text is a number's -/
def numB (l : List UInt8) : Bool := !l.isEmpty && (!(l.head? == some 48) || l == [48]) && l.all fun c => decide (48 ≤ c.toNat ∧ c.toNat ≤ 57)
/-- the number that is read, and the error's number -/
def rdv (l : List UInt8) : Nat := if decide (l.length ≤ 400) && numB l then rd l else 0
def rde (l : List UInt8) : Int := if 400 < l.length then 3 else if numB l then 0 else 2
/-- a call that returns the number of a text, or why it is none -/
def RetRd (l : List UInt8) (w : World) (e : Ending) (w' : World) : Prop := ∃ A n c, e = .returned (.tuple #[.slice A n c, .int .i64 (rde l)]) ∧ Sl w' A n c (words (rdv l)) ∧ Below w.heap.size w w'
theorem RetRd.of {l : List UInt8} {w w' : World} {A : Option Addr} {n c v : Nat} {x : Int} (h : rdv l = v ∧ rde l = x) (s : Sl w' A n c (words v)) (b : Below w.heap.size w w') : RetRd l w (.returned (.tuple #[.slice A n c, .int .i64 x])) w' := by
  obtain ⟨rfl, rfl⟩ := h
  exact ⟨A, n, c, rfl, s, b⟩
end Go.Proofs.YtfhihapgjiaobaaGreat

namespace Go.Proofs.YtfhihapgjiaobaaGreat
set_option maxRecDepth 100000
set_option linter.unusedVariables false
set_option linter.unusedSimpArgs false

/-- what precedes the first / and what follows it -/
def above (l : List UInt8) : List UInt8 := l.takeWhile (· != 47)
def behind (l : List UInt8) : List UInt8 := if l.contains 47 then (l.dropWhile (· != 47)).drop 1 else [49]
end Go.Proofs.YtfhihapgjiaobaaGreat

namespace Go.Proofs.YtfhihapgjiaobaaGreat
set_option maxRecDepth 100000
open Go.RowKit
set_option linter.unusedVariables false
set_option linter.unusedSimpArgs false

end Go.Proofs.YtfhihapgjiaobaaGreat

namespace Go.Proofs.YtfhihapgjiaobaaGreat
set_option maxRecDepth 100000
open Go.RowKit
set_option linter.unusedVariables false
set_option linter.unusedSimpArgs false

set_option maxRecDepth 100000 in
set_option maxHeartbeats 4000000 in
theorem pw_bits {w : World} {s : Bool} {A A' : Option Addr} {n n' c c' N : Nat} {X : Rat} (h : Q w s A n c A' n' c' X) (hX : Sz X N) (hN : N ≤ 40000) :
    Calls Tryz.prog 62 #[.agg #[.bool s, .slice A n c, .slice A' n' c']] w (RetI (max (blen X.num.natAbs : Int) (blen X.den)) w) := by
  obtain ⟨V, hW, Ba, hb0⟩ := box0 45 w #[.bool s, .slice A n c, .slice A' n' c']
  have l1 : n ≤ N := h.2.1.small hX.1
  have l2 : n' ≤ N := h.2.2.small hX.2
  have h1 := h.2.1.below hb0
  have h2 := h.2.2.below hb0
  have N1 := fun (w1 : World) (x : Sl w1 A n c (words X.num.natAbs)) => nat_bits x (by omega)
  have N2 := fun (w1 : World) (x : Sl w1 A' n' c' (words X.den)) => nat_bits x (by omega)
  simp only [val_words] at N1 N2
  have hS : ∀ w', Below V.heap.size V w' → w'.cell? ⟨w.heap.size, 0, none⟩ = some (.bool s) ∧ w'.cell? ⟨w.heap.size, 1, none⟩ = some (.slice A n c) ∧ w'.cell? ⟨w.heap.size, 2, none⟩ = some (.slice A' n' c') := fun w' hb => (Ba.below' hb).three.1
  generalize ((blen X.num.natAbs : Nat) : Int) = p at *
  generalize ((blen X.den : Nat) : Int) = q at *
  have HN1 := Lib.hid N1
  have HN2 := Lib.hid N2
  have HS := Lib.hid hS
  have HW := Lib.hid hW
  clear N1 N2 hS Ba hW h hX
  rcases Int.lt_trichotomy p q with hle | rfl | hle
  all_goals
    first | rw [show max p p = p by omega] | rw [show max p q = q by omega] | rw [show max p q = p by omega]
    go_enter Tryz.func62, Tryz.ntmps62
    go_wp2_with fail
    rw [HW.out]
    obtain ⟨k0, k1, k2⟩ := HS.out _ (Below.refl _ V)
    go_region_held3 (fun w' => w'.cell? ⟨w.heap.size, 0, none⟩ = some (.bool s) ∧ w'.cell? ⟨w.heap.size, 1, none⟩ = some (.slice A n c) ∧ w'.cell? ⟨w.heap.size, 2, none⟩ = some (.slice A' n' c')) (exact HS.out _ (Below.refl _ V).drew)
      (first
        | (go_at_call 99; (with_reducible refine (HN1.out _ ?hz1).mono ?_); (case hz1 => exact h1); rintro _ _ ⟨rfl, rfl⟩)
        | (go_at_call 99; (with_reducible refine (HN2.out _ ?hz2).mono ?_); (case hz2 => exact h2); rintro _ _ ⟨rfl, rfl⟩))
    all_goals
      go_wp2_with fail
      go_ret
      exact ⟨rfl, hb0.drew⟩

set_option maxRecDepth 100000 in
set_option maxHeartbeats 4000000 in
theorem ref_pbits {w : World} {s : Bool} {A A' : Option Addr} {n n' c c' N : Nat} {X : Rat} (h : Q w s A n c A' n' c' X) (hX : Sz X N) (hN : N ≤ 40000) :
    Calls Tryz.prog 41 #[.agg #[.bool s, .slice A n c, .slice A' n' c']] w (RetI (max (blen X.num.natAbs : Int) (blen X.den)) w) := by
  obtain ⟨V, hW, Ba, hb0⟩ := box0 45 w #[.bool s, .slice A n c, .slice A' n' c']
  have l1 : n ≤ N := h.2.1.small hX.1
  have l2 : n' ≤ N := h.2.2.small hX.2
  have h1 := h.2.1.below hb0
  have h2 := h.2.2.below hb0
  have N1 := fun (w1 : World) (x : Sl w1 A n c (words X.num.natAbs)) => ref_bits x (by omega)
  have N2 := fun (w1 : World) (x : Sl w1 A' n' c' (words X.den)) => ref_bits x (by omega)
  simp only [val_words] at N1 N2
  have hS : ∀ w', Below V.heap.size V w' → w'.cell? ⟨w.heap.size, 0, none⟩ = some (.bool s) ∧ w'.cell? ⟨w.heap.size, 1, none⟩ = some (.slice A n c) ∧ w'.cell? ⟨w.heap.size, 2, none⟩ = some (.slice A' n' c') := fun w' hb => (Ba.below' hb).three.1
  generalize ((blen X.num.natAbs : Nat) : Int) = p at *
  generalize ((blen X.den : Nat) : Int) = q at *
  have HN1 := Lib.hid N1
  have HN2 := Lib.hid N2
  have HS := Lib.hid hS
  have HW := Lib.hid hW
  clear N1 N2 hS Ba hW h hX
  rcases Int.lt_trichotomy p q with hle | rfl | hle
  all_goals
    first | rw [show max p p = p by omega] | rw [show max p q = q by omega] | rw [show max p q = p by omega]
    go_enter Tryz.func41, Tryz.ntmps41
    go_wp2_with fail
    rw [HW.out]
    obtain ⟨k0, k1, k2⟩ := HS.out _ (Below.refl _ V)
    go_region_held3 (fun w' => w'.cell? ⟨w.heap.size, 0, none⟩ = some (.bool s) ∧ w'.cell? ⟨w.heap.size, 1, none⟩ = some (.slice A n c) ∧ w'.cell? ⟨w.heap.size, 2, none⟩ = some (.slice A' n' c')) (exact HS.out _ (Below.refl _ V).drew)
      (first
        | (go_at_call 80; (with_reducible refine (HN1.out _ ?hz1).mono ?_); (case hz1 => exact h1); rintro _ _ ⟨rfl, rfl⟩)
        | (go_at_call 80; (with_reducible refine (HN2.out _ ?hz2).mono ?_); (case hz2 => exact h2); rintro _ _ ⟨rfl, rfl⟩))
    all_goals
      go_wp2_with fail
      go_ret
      exact ⟨rfl, hb0.drew⟩

end Go.Proofs.YtfhihapgjiaobaaGreat

namespace Go.Proofs.YtfhihapgjiaobaaGreat
set_option maxRecDepth 100000
open Go.RowKit
set_option linter.unusedVariables false
set_option linter.unusedSimpArgs false

/-- the values, or the number of the instruction and the error -/
def RetEx (r : Except (Nat × Int) (List Rat)) (w : World) (e : Ending) (w' : World) : Prop := match r with
  | .ok v => (∃ A n c, e = .returned (.tuple #[.slice A n c, .int .i64 0, .int .i64 0]) ∧ SlQ w' A n c v) ∧ Below w.heap.size w w'
  | .error (i, k) => e = .returned (.tuple #[.slice none 0 0, .int .i64 (i : Int), .int .i64 k]) ∧ Below w.heap.size w w'
noncomputable def exAll (l : List PI) (p q : Bool) (ins forms : List Rat) : Except (Nat × Int) (List Rat) :=
  if progB l = true ∧ p = true ∧ q = true then evTo (exSt ins forms l) l l.length else .error (0, 1)
theorem exAll_no {l : List PI} {p q : Bool} {ins forms : List Rat} (h : ¬ (progB l = true ∧ p = true ∧ q = true)) : exAll l p q ins forms = .error (0, 1) := by unfold exAll; rw [if_neg h]
theorem exAll_yes {l : List PI} {ins forms : List Rat} (h : progB l = true) : exAll l true true ins forms = evTo (exSt ins forms l) l l.length := by unfold exAll; rw [if_pos ⟨h, rfl, rfl⟩]
theorem news_new (w : World) (cs : Array Value) (t : TypeId) : ∀ (j : Nat) (u : Value), cs.toList[j]? = some u → (w.alloc (.cells cs t)).cell? ((⟨w.heap.size, 0, none⟩ : Addr).add j) = some u := by
  intro j u hj
  have e1 : (⟨w.heap.size, 0, none⟩ : Addr).add j = ⟨w.heap.size, j, none⟩ := by
    unfold Addr.add; split
    · rename_i h9; rw [h9]
    · rw [Nat.zero_add]
  rw [e1, cell_of_row _ w.heap.size j cs t (0, 0) (heap_alloc_new w _)]
  simpa using hj
theorem OwnC.base {k : Nat} {V : Type} {cells : V → List Value} {t : TypeId} {B : Nat} {w : World} {v : Value} {xs : List V} (h : OwnC k cells t B w v xs) : ∀ g, v.ownBlock = some g → B ≤ g := by
  intro g hg
  rcases h.2 with ⟨rfl, rfl⟩ | ⟨g', cap, cur, rfl, h1, _⟩
  · cases hg
  · have e : g' = g := by simpa [Value.ownBlock] using hg
    rw [← e]; exact h1
theorem SlQ.tail {w : World} {b off l f : Nat} {Xs : List Rat} (h : SlQ w (some ⟨b, off, none⟩) l f Xs) (h0 : 0 < l) : SlQ w (some ⟨b, off + 3, none⟩) (l - 1) (f - 1) (Xs.drop 1) := by
  obtain ⟨xs, h1, h2, h3⟩ := h
  have hl := h1.1.1
  obtain ⟨b', off', e, hlt, hc⟩ := h1.2 h0
  injection e with e
  injection e with e1 e2
  subst e1 e2
  refine ⟨xs.drop 1, ⟨⟨by rw [List.length_drop, hl], by have := h1.1.2.1; omega, by have := h1.1.2.2.1; omega, fun x hx => h1.1.2.2.2 x (List.mem_of_mem_drop hx)⟩, fun h9 => ⟨b, off + 3, rfl, hlt, fun j hj i hi => ?_⟩⟩, by rw [List.length_drop, List.length_drop, h2], fun j x hx => ?_⟩
  · have := hc (j + 1) (by omega) i hi
    rw [List.getElem?_drop, Nat.add_comm 1 j, ← this]
    congr 2
    omega
  · rw [List.getElem?_drop] at hx
    have := h3 _ x hx
    rw [List.getD_eq_getElem?_getD, List.getElem?_drop, ← List.getD_eq_getElem?_getD]
    exact this

theorem SlQ.tail1 {w : World} {A A' : Option Addr} {f c : Nat} {Xs : List Rat} (h : SlQ w A 1 f Xs) (hc : c ≤ 1 := by omega) : SlQ w A' 0 c (Xs.drop 1) := by
  have hl := h.len
  have e : Xs.drop 1 = [] := List.eq_nil_of_length_eq_zero (by rw [List.length_drop]; omega)
  rw [e]
  exact ⟨[], ⟨⟨rfl, Nat.zero_le _, by unfold maxLen; omega, by simp⟩, fun h0 => absurd h0 (by omega)⟩, rfl, fun j x hx => by simp at hx⟩

set_option maxRecDepth 100000 in
set_option maxHeartbeats 4000000 in
theorem ev_exact {w : World} {A B C : Option Addr} {n c m d k f : Nat} {xs : List RI} {is fs : List RQ} (h : SlP w A n c xs) (hs : Shrt 64 xs) (hi : SlR w B m d is) (his : ∀ x ∈ is, x.n ≤ 64 ∧ x.n' ≤ 64) (hf : SlR w C k f fs) (hfs : ∀ x ∈ fs, x.n ≤ 64 ∧ x.n' ≤ 64) (hn : n ≤ 300) (hm : m ≤ 1000) (hk : k ≤ 1000) :
    Calls Tryz.prog 27 #[.slice A n c, .slice B m d, .slice C k f] w (RetEx (exAll (xs.map RI.pi) (allR is) (allR fs) (qvs is) (qvs fs)) w) := by
  have hlen : (xs.map RI.pi).length = n := by rw [List.length_map]; exact h.1.1
  have P1 := line_right h hs (by omega) (by omega)
  have P2 := fun (w1 : World) (hb : Below w.heap.size w w1) => ev_allRight (hi.below hb) his (by omega) (by omega)
  have P3 := fun (w1 : World) (hb : Below w.heap.size w w1) => ev_allRight (hf.below hb) hfs (by omega) (by omega)
  have hsi := fun hh => slq_of hi his hh
  have hsf := fun hh => slq_of hf hfs hh
  have hp := progB_iff (xs.map RI.pi)
  have hexy := fun hh => @exAll_yes (xs.map RI.pi) (qvs is) (qvs fs) hh
  have hexn := fun hh => @exAll_no (xs.map RI.pi) (allR is) (allR fs) (qvs is) (qvs fs) hh
  have HP1 := Lib.hid P1
  have HP2 := Lib.hid P2
  have HP3 := Lib.hid P3
  clear P1 P2 P3
  generalize qvs is = Is at *
  generalize qvs fs = Fs at *
  generalize progB (xs.map RI.pi) = p at *
  generalize allR is = p2 at *
  generalize allR fs = p3 at *
  cases p
  case false =>
    rw [hexn (by simp)]
    clear hexn hexy hsi hsf hp
    go_enter Tryz.func27, Tryz.ntmps27
    go_wp2_with fail
    with_reducible refine HP1.out.mono ?_
    rintro _ w1 ⟨rfl, b1⟩
    go_wp2_with fail
    go_ret3
    exact ⟨rfl, b1⟩
  case true =>
  cases p2
  case false =>
    rw [hexn (by simp)]
    clear hexn hexy hsi hsf hp
    go_enter Tryz.func27, Tryz.ntmps27
    go_wp2_with fail
    with_reducible refine HP1.out.mono ?_
    rintro _ w1 ⟨rfl, b1⟩
    go_wp2_with fail
    with_reducible refine (HP2.out _ b1).mono ?_
    rintro _ w2 ⟨rfl, b2⟩
    go_wp2_with fail
    go_ret3
    exact ⟨rfl, bb b1 b2⟩
  case true =>
  cases p3
  case false =>
    rw [hexn (by simp)]
    clear hexn hexy hsi hsf hp
    go_enter Tryz.func27, Tryz.ntmps27
    go_wp2_with fail
    with_reducible refine HP1.out.mono ?_
    rintro _ w1 ⟨rfl, b1⟩
    go_wp2_with fail
    with_reducible refine (HP2.out _ b1).mono ?_
    rintro _ w2 ⟨rfl, b2⟩
    go_wp2_with fail
    with_reducible refine (HP3.out _ (bb b1 b2)).mono ?_
    rintro _ w3 ⟨rfl, b3⟩
    go_wp2_with fail
    go_ret3
    exact ⟨rfl, bb b1 (bb b2 b3)⟩
  case true =>
  rw [hexy rfl, hlen]
  have HL := Lib.hid hlen
  clear hlen
  obtain ⟨qi, zi⟩ := hsi rfl
  obtain ⟨qf, zf⟩ := hsf rfl
  have hprog := hp.1 rfl
  clear hexn hexy hsi hsf hp hi hf his hfs
  obtain ⟨R, hR⟩ : ∃ R, R = evTo (exSt Is Fs (xs.map RI.pi)) (xs.map RI.pi) n := ⟨_, rfl⟩
  rw [← hR]
  have HR := Lib.hid hR
  clear hR
  obtain ⟨i0, hi0, hz0, hz1, hz2⟩ := info_parts infoQ
  go_enter Tryz.func27, Tryz.ntmps27
  go_wp2_with fail
  with_reducible refine HP1.out.mono ?_
  rintro _ w1 ⟨rfl, b1⟩
  go_wp2_with fail
  with_reducible refine (HP2.out _ b1).mono ?_
  rintro _ w2 ⟨rfl, b2⟩
  go_wp2_with fail
  with_reducible refine (HP3.out _ (bb b1 b2)).mono ?_
  rintro _ w3 ⟨rfl, b3⟩
  have y3 := bb b1 (bb b2 b3)
  clear b1 b2 b3 HP1 HP2 HP3
  obtain ⟨w4, hmk, ho4, b4⟩ := make_C (cells := RQ.cells) 23 45 _ 56 Tryz.underlying23 infoQ zeroQ rfl (by omega) w3 n (by omega) (by omega)
  have y4 : Below w.heap.size w w4 := bb y3 b4
  have HO := Lib.hid (show OwnQ w.heap.size w4 (.slice (some ⟨w3.heap.size, 0, none⟩) 0 n) [] from ⟨[], ⟨ho4.1, ho4.2.imp id (fun ⟨g, cap, cur, a1, a2, a3⟩ => ⟨g, cap, cur, a1, Nat.le_trans y3.size a2, a3⟩)⟩, rfl, fun j x hx => by simp at hx⟩)
  clear ho4
  go_wp2_with fail
  have HQI := Lib.hid qi
  have HQF := Lib.hid qf
  have HPR := Lib.hid hprog
  have HSH := Lib.hid hs
  have hQl := qf.len
  have HQL := Lib.hid hQl
  clear qi qf hprog hs hmk hQl
  go_loopw [2, 9, 32] (fun fv vv iv wr => ∃ (j : Nat) (v : List Rat) (C' : Option Addr) (l' f' : Nat), j ≤ n ∧ iv = .int .i64 j ∧ fv = .slice C' l' f' ∧ Hid (SlQ w C' l' f' (Fs.drop (countTo isF (xs.map RI.pi) j))) ∧ Hid (OwnQ w.heap.size wr vv v) ∧ Hid (evTo (exSt Is Fs (xs.map RI.pi)) (xs.map RI.pi) j = .ok v) ∧ Hid (AllSz 64 v) ∧ Below w.heap.size w wr) (fun _ _ iv _ => n - mes iv)
  case atStart => exact ⟨0, [], C, k, f, by omega, rfl, rfl, HQF, HO, Lib.hid rfl, Lib.hid (fun X hX => by simp at hX), y4⟩
  case round =>
    clear HO y3 y4 b4
    obtain ⟨j, v, C', l', f', hj, rfl, rfl, HF, HV, HE, HZ, hb⟩ := hrel
    have hvl : v.length = j := evTo_len HE.out
    obtain ⟨A', c', ev⟩ := HV.out.form
    rw [hvl] at ev
    subst ev
    have HVL := Lib.hid hvl
    clear hvl
    by_cases hj2 : j < n
    · obtain ⟨b0, off, x, rfl, hlt, hxk, hok, c0, c1, c2, c3, c4, c5⟩ := (h.below hb).at_ hj2
      have hp := pi_at hxk
      have hfit : fits vq nq x.pi j := by rw [← hp]; exact HPR.out.1 j (by rw [HL.out]; exact hj2)
      obtain ⟨hx1, hx2⟩ := HSH.out x (mem_at hxk)
      obtain ⟨V, hW, Bx, hb1⟩ := box0 52 wr #[.int .i64 x.op, .int .i64 x.a, .int .i64 x.b, .bool x.q.s, .slice x.q.A x.q.n x.q.c, .slice x.q.A' x.q.n' x.q.c']
      have zf' : AllSz 64 (Fs.drop (countTo isF (xs.map RI.pi) j)) := fun X hX => zf X (List.mem_of_mem_drop hX)
      have hl' : l' ≤ 1000 := by have := HF.out.len; rw [List.length_drop] at this; have := HQL.out; omega
      have EV := ev_value (RI.below hok hb1) (HV.out.slq.below hb1) (HQI.out.below (bb hb hb1)) (HF.out.below (bb hb hb1)) HZ.out zi zf' (by omega) (by omega) (by omega) hx1 hx2 hfit
      obtain ⟨r, hr⟩ : ∃ r, raw Is (Fs.drop (countTo isF (xs.map RI.pi) j)) x.pi v = r := ⟨_, rfl⟩
      rw [hr] at EV
      have hst : exSt Is Fs (xs.map RI.pi) j ((xs.map RI.pi).getD j PI.nil) v = big r := by rw [hp]; unfold exSt; rw [hr]
      have hsz : ∀ X, r = .ok X → Sz X 130 := fun X hX => raw_sz (by rw [hr, hX]) hfit HVL.out.symm HZ.out zi zf' (fun h2 => by
        have h3 : fits vq nq ⟨x.op, x.a, x.b, (x.q.s, x.q.z, x.q.z')⟩ j := hfit
        have h2' : x.op = 2 := h2
        rw [h2'] at h3
        obtain ⟨Y, g1, g2, g3⟩ := right_Q hok.2.2.2.1 hok.2.2.2.2.1 hx1 hx2 (fit_const h3)
        show Sz (rq x.q.s (val x.q.z) (val x.q.z')) 64
        rw [← g3]; exact g2)
      have hre : ∀ e, r = .error e → e = 4 ∨ e = 6 ∨ e = 11 := fun e he => raw_err (hr.trans he)
      have hgf : isF ((xs.map RI.pi).getD j PI.nil) = isForm x.op := by rw [hp]; rfl
      have hlp : isForm x.op = true → ∀ X, r = .ok X → 0 < l' := fun hf X hX => by
        rw [HF.out.len]
        rcases Nat.eq_zero_or_pos (Fs.drop (countTo isF (xs.map RI.pi) j)).length with h9 | h9
        · have h8 : raw Is (Fs.drop (countTo isF (xs.map RI.pi) j)) x.pi v = .error 6 := raw_form_no hf (by omega)
          rw [hr, hX] at h8; cases h8
        · exact h9
      have HEV := Lib.hid EV
      have HST := Lib.hid hst
      have HBx := Lib.hid Bx
      have HW := Lib.hid hW
      have HGF := Lib.hid hgf
      clear EV hst hW Bx hr hfit hp hok hx1 hx2 zf' hxk hgf
      cases r with
      | error e =>
        have hRR : R = .error (j, e) := by rw [HR.out]; exact evTo_err (evTo_stop HE.out HST.out) n (by omega)
        subst hRR
        rcases hre e rfl with rfl | rfl | rfl
        all_goals
          clear hre hsz hlp
          go_wp2_with fail
          rw [HW.out]
          with_reducible refine HEV.out.mono ?_
          rintro _ w1 ⟨rfl, b1⟩
          go_wp2_with fail
          go_ret3
          exact ⟨rfl, (bb hb (bb hb1 b1)).alloc (bb hb (bb hb1 b1)).size _⟩
      | ok X =>
        have hX := hsz X rfl
        have hl1 := fun hh => hlp hh X rfl
        clear hre hsz hlp
        by_cases hbig : 4096 < bitsQ X
        · have hRR : R = .error (j, 5) := by rw [HR.out]; exact evTo_err (evTo_stop HE.out (HST.out.trans (big_no hbig))) n (by omega)
          subst hRR
          unfold bitsQ at hbig
          go_wp2_with fail
          rw [HW.out]
          with_reducible refine HEV.out.mono ?_
          rintro _ w1 ⟨s1, A1, n1, c1', A2, n2, c2', rfl, q1, b1⟩
          obtain ⟨V2, hW2, Bv, hb2⟩ := box0 45 w1 #[.bool s1, .slice A1 n1 c1', .slice A2 n2 c2']
          have PB := pw_bits (q1.below hb2) hX (by omega)
          generalize max (blen X.num.natAbs : Int) (blen X.den) = t at *
          have HPB := Lib.hid PB
          have HW2 := Lib.hid hW2
          clear PB hW2 Bv
          go_wp2_with fail
          rw [HW2.out]
          with_reducible refine HPB.out.mono ?_
          rintro _ w2 ⟨rfl, b2⟩
          go_wp2_with fail
          go_ret3
          exact ⟨rfl, bb hb (bb hb1 (bb b1 (bb hb2 b2)))⟩
        · have hst2 := HST.out.trans (big_yes hbig)
          have hev2 := evTo_step HE.out hst2
          have hz2' := HZ.out.snoc (sz_of_bits hbig)
          have HEV2 := Lib.hid hev2
          have HZ2 := Lib.hid hz2'
          clear hst2 hev2 hz2' HST
          unfold bitsQ at hbig
          go_wp2_with fail
          rw [HW.out]
          with_reducible refine HEV.out.mono ?_
          rintro _ w1 ⟨s1, A1, n1, c1', A2, n2, c2', rfl, q1, b1⟩
          obtain ⟨V2, hW2, Bv, hb2⟩ := box0 45 w1 #[.bool s1, .slice A1 n1 c1', .slice A2 n2 c2']
          have PB := pw_bits (q1.below hb2) hX (by omega)
          generalize max (blen X.num.natAbs : Int) (blen X.den) = t at *
          have HPB := Lib.hid PB
          have HW2 := Lib.hid hW2
          have HBv := Lib.hid Bv
          clear PB hW2 Bv
          go_wp2_with fail
          rw [HW2.out]
          with_reducible refine HPB.out.mono ?_
          rintro _ w2 ⟨rfl, b2⟩
          have z1 : Below V.heap.size V w2 := bb b1 (bb hb2 b2)
          obtain ⟨k0, k1, k2, k3, k4, k5⟩ := (HBx.out.below' z1).six.1
          obtain ⟨p0, p1, p2⟩ := (HBv.out.below' b2).three.1
          have FO := Lib.hid (line_form x.op w2)
          have q2 := (q1.below hb2).below b2
          obtain ⟨vs, o1, o2, o3⟩ := HV.out.below (bb hb1 z1)
          have y2 : Below w.heap.size w w2 := bb hb (bb hb1 z1)
          have hgf := HGF.out
          have hvs : vs.length = j := by rw [o2]; exact HVL.out
          have hok2 : (⟨s1, A1, n1, c1', (words X.num.natAbs), A2, n2, c2', (words X.den)⟩ : RQ).ok w2 := ⟨q2.2.1, q2.2.2, show n1 ≤ maxLen by have := q2.2.1.small hX.1; unfold maxLen; omega, show n2 ≤ maxLen by have := q2.2.2.small hX.2; unfold maxLen; omega⟩
          generalize isForm x.op = fm at *
          have HO1 := Lib.hid o1
          have HO2 := Lib.hid o2
          have HO3 := Lib.hid o3
          have HVS := Lib.hid hvs
          have HQ2 := Lib.hid q2
          have HOK := Lib.hid hok2
          have HG2 := Lib.hid hgf
          clear o1 o2 o3 hvs q2 hok2 hgf HEV HPB HGF HV HE HZ HBv HBx q1 hX
          cases fm
          case false =>
            go_wp2_with fail
            with_reducible refine FO.out.mono ?_
            rintro _ w3 ⟨rfl, rfl⟩
            go_wp2_with (at_builtin; refine wpList_append_C _ rfl _ _ 23 rfl w.heap.size 45 i0 _ 56 Tryz.underlying23 hi0 hz0 hz1 hz2 rfl (by decide) zeroQ _ vs rfl (HO1.out.below (below_alloc _ _)) ⟨w2.heap.size, 0, none⟩ 1 (⟨s1, A1, n1, c1', (words X.num.natAbs), A2, n2, c2', (words X.den)⟩ : RQ) rfl rfl ?c1 (rq_one _) (rq_noW _) ?c3 ?c4 ?c5 ?_)
            case c1 => exact news_new w2 _ _
            case c3 => have := HVS.out; unfold maxLen; omega
            case c4 => have := HVS.out; omega
            case c5 => have := y2.size; simp; omega
            intro v' w4 hown hgrow
            have hbn := (y2.alloc y2.size _).grown hgrow (by have := y2.size; simp; omega) (HO1.out.base)
            have HOQ := Lib.hid (OwnQ.append HO1.out HO2.out HO3.out HOK.out HQ2.out hown hgrow)
            clear hown hgrow
            go_wp2_with fail
            go_roundw
            case rel => exact ⟨j + 1, v ++ [X], C', l', f', by omega, by go_num, rfl, Lib.hid (by rw [forms_same HG2.out]; exact HF.out), HOQ, HEV2, HZ2, hbn⟩
            case measure => simp [mes, intOf]; omega
          case true =>
            have hl2 := hl1 rfl
            obtain ⟨bf, off2, ef⟩ : ∃ bf off2, C' = some ⟨bf, off2, none⟩ := by
              obtain ⟨xs2, g1, g2, g3⟩ := HF.out
              obtain ⟨bf, off2, ef, _, _⟩ := g1.2 hl2
              exact ⟨bf, off2, ef⟩
            subst ef
            have hcf : l' ≤ f' := by
              obtain ⟨xs2, g1, g2, g3⟩ := HF.out
              exact g1.1.2.1
            have hcf2 : (f' = 1 ∧ l' = 1) ∨ 1 < f' := by omega
            rcases hcf2 with ⟨rfl, rfl⟩ | hcf2
            · go_wp2_with fail
              with_reducible refine FO.out.mono ?_
              rintro _ w3 ⟨rfl, rfl⟩
              go_wp2_with (at_builtin; refine wpList_append_C _ rfl _ _ 23 rfl w.heap.size 45 i0 _ 56 Tryz.underlying23 hi0 hz0 hz1 hz2 rfl (by decide) zeroQ _ vs rfl (HO1.out.below (below_alloc _ _)) ⟨w2.heap.size, 0, none⟩ 1 (⟨s1, A1, n1, c1', (words X.num.natAbs), A2, n2, c2', (words X.den)⟩ : RQ) rfl rfl ?c1 (rq_one _) (rq_noW _) ?c3 ?c4 ?c5 ?_)
              case c1 => exact news_new w2 _ _
              case c3 => have := HVS.out; unfold maxLen; omega
              case c4 => have := HVS.out; omega
              case c5 => have := y2.size; simp; omega
              intro v' w4 hown hgrow
              have hbn := (y2.alloc y2.size _).grown hgrow (by have := y2.size; simp; omega) (HO1.out.base)
              have HOQ := Lib.hid (OwnQ.append HO1.out HO2.out HO3.out HOK.out HQ2.out hown hgrow)
              clear hown hgrow
              go_wp2_with fail
              go_roundw
              case rel => exact ⟨j + 1, v ++ [X], _, _, _, by omega, by go_num, rfl, Lib.hid (by rw [forms_next HG2.out]; exact HF.out.tail1), HOQ, HEV2, HZ2, hbn⟩
              case measure => simp [mes, intOf]; omega
            · go_wp2_with fail
              with_reducible refine FO.out.mono ?_
              rintro _ w3 ⟨rfl, rfl⟩
              go_wp2_with (at_builtin; refine wpList_append_C _ rfl _ _ 23 rfl w.heap.size 45 i0 _ 56 Tryz.underlying23 hi0 hz0 hz1 hz2 rfl (by decide) zeroQ _ vs rfl (HO1.out.below (below_alloc _ _)) ⟨w2.heap.size, 0, none⟩ 1 (⟨s1, A1, n1, c1', (words X.num.natAbs), A2, n2, c2', (words X.den)⟩ : RQ) rfl rfl ?c1 (rq_one _) (rq_noW _) ?c3 ?c4 ?c5 ?_)
              case c1 => exact news_new w2 _ _
              case c3 => have := HVS.out; unfold maxLen; omega
              case c4 => have := HVS.out; omega
              case c5 => have := y2.size; simp; omega
              intro v' w4 hown hgrow
              have hbn := (y2.alloc y2.size _).grown hgrow (by have := y2.size; simp; omega) (HO1.out.base)
              have HOQ := Lib.hid (OwnQ.append HO1.out HO2.out HO3.out HOK.out HQ2.out hown hgrow)
              clear hown hgrow
              go_wp2_with fail
              go_roundw
              case rel => exact ⟨j + 1, v ++ [X], _, _, _, by omega, by go_num, rfl, Lib.hid (by rw [forms_next HG2.out]; exact HF.out.tail hl2), HOQ, HEV2, HZ2, hbn⟩
              case measure => simp [mes, intOf]; omega
    · obtain rfl : j = n := by omega
      have hRR : R = .ok v := by rw [HR.out, HE.out]
      subst hRR
      go_wp2_with fail
      go_ret3
      exact ⟨⟨_, _, _, rfl, HV.out.slq⟩, hb⟩

end Go.Proofs.YtfhihapgjiaobaaGreat

namespace Go.Proofs.YtfhihapgjiaobaaGreat
set_option maxRecDepth 100000
open Go.RowKit
set_option linter.unusedVariables false
set_option linter.unusedSimpArgs false

theorem boxes633 (t u : TypeId) (w : World) (vs us xs : Array Value) : ∃ W, ((w.alloc (.cells vs t)).alloc (.cells us u)).alloc (.cells xs u) = W ∧ Box t W w.heap.size vs ∧ Box u W (w.heap.size + 1) us ∧ Box u W (w.heap.size + 1 + 1) xs ∧ Below w.heap.size w W := by
  obtain ⟨W, h, h1, h2, h3⟩ := boxes63 t u w vs us
  have hs : W.heap.size = w.heap.size + 1 + 1 := by rw [← h]; simp
  refine ⟨_, rfl, ?_, ?_, ?_, ?_⟩
  · rw [h]; exact h1.alloc _
  · rw [h]; exact h2.alloc _
  · rw [h, ← hs]; exact Box.new W u xs
  · rw [h]; exact h3.alloc h3.size _
theorem boxes6333 (t u : TypeId) (w : World) (vs us xs ys : Array Value) : ∃ W, (((w.alloc (.cells vs t)).alloc (.cells us u)).alloc (.cells xs u)).alloc (.cells ys u) = W ∧ Box t W w.heap.size vs ∧ Box u W (w.heap.size + 1) us ∧ Box u W (w.heap.size + 1 + 1) xs ∧ Box u W (w.heap.size + 1 + 1 + 1) ys ∧ Below w.heap.size w W := by
  obtain ⟨W, h, h1, h2, h3, h4⟩ := boxes633 t u w vs us xs
  have hs : W.heap.size = w.heap.size + 1 + 1 + 1 := by rw [← h]; simp
  refine ⟨_, rfl, ?_, ?_, ?_, ?_, ?_⟩
  · rw [h]; exact h1.alloc _
  · rw [h]; exact h2.alloc _
  · rw [h]; exact h3.alloc _
  · rw [h, ← hs]; exact Box.new W u ys
  · rw [h]; exact h4.alloc h4.size _

set_option maxRecDepth 100000 in
set_option maxHeartbeats 4000000 in
theorem rs_neg {w : World} {A : Option Addr} {n c : Nat} {v : List Rat} {q : RQ} {i : Nat} {b : Int} (hv : SlQ w A n c v) (zv : AllSz 64 v) (hn : n ≤ 65536) (hi1 : i < n) :
    Calls Tryz.prog 40 #[.agg #[.int .i64 3, .int .i64 (i : Int), .int .i64 b, .bool q.s, .slice q.A q.n q.c, .slice q.A' q.n' q.c'], .slice A n c] w (RetQE (-(v.getD i 0)) 0 w) := by
  obtain ⟨b1, o1, sa, A1, n1, c1, A2, n2, c2, rfl, hb1, k0, k1, k2, qa⟩ := hv.at_ hi1
  have hlen := hv.len
  have hb1a : b1 < w.heap.size + 1 := by omega
  have hb1b : b1 < w.heap.size + 1 + 1 := by omega
  obtain ⟨V, hW, Bx, Br, Ba, hb0⟩ := boxes633 52 45 w #[.int .i64 3, .int .i64 (i : Int), .int .i64 b, .bool q.s, .slice q.A q.n q.c, .slice q.A' q.n' q.c'] #[.bool false, .slice none 0 0, .slice none 0 0] #[.bool sa, .slice A1 n1 c1, .slice A2 n2 c2]
  have K := ref_neg (qa.below hb0) (zv.at_ (by omega)) (by omega)
  have HK := Lib.hid K
  have HBr := Lib.hid Br
  have HW := Lib.hid hW
  clear K Bx Br Ba hW hv zv qa hlen
  go_enter Tryz.func40, Tryz.ntmps40
  go_wp2_with fail
  rw [HW.out]
  with_reducible refine HK.out.mono ?_
  rintro _ w1 ⟨s1, A3, n3, c3, A4, n4, c4, rfl, q3, b1⟩
  have x1 : Below V.heap.size V w1 := b1
  have B9 := HBr.out.below' x1
  obtain ⟨⟨r0, r1, r2⟩, f0, f1, f2⟩ := B9.three
  go_wp2_with fail
  refine bodyPost_ret (v := .tuple #[.agg #[.bool s1, .slice A3 n3 c3, .slice A4 n4 c4], .int .i64 0]) (by simp [results, Tryz.results40, go_sem, r0, r1, r2]) rfl ?_
  exact ⟨_, _, _, _, _, _, _, rfl, q3.put3 ⟨_, _, _, _, _, _, _, B9⟩, below_put3 (bb hb0 x1) (by omega) (Nat.le_refl _) _ _ _⟩

set_option maxRecDepth 100000 in
set_option maxHeartbeats 4000000 in
theorem rs_add {w : World} {A : Option Addr} {n c : Nat} {v : List Rat} {q : RQ} {i j : Nat} (hv : SlQ w A n c v) (zv : AllSz 64 v) (hn : n ≤ 65536) (hi1 : i < n) (hj1 : j < n) :
    Calls Tryz.prog 40 #[.agg #[.int .i64 4, .int .i64 (i : Int), .int .i64 (j : Int), .bool q.s, .slice q.A q.n q.c, .slice q.A' q.n' q.c'], .slice A n c] w (RetQE (v.getD i 0 + v.getD j 0) 0 w) := by
  obtain ⟨b1, o1, sa, A1, n1, c1, A2, n2, c2, rfl, hb1, k0, k1, k2, qa⟩ := hv.at_ hi1
  have hlen := hv.len
  have hb1a : b1 < w.heap.size + 1 := by omega
  have hb1b : b1 < w.heap.size + 1 + 1 := by omega
  obtain ⟨b2, o2, sb, A5, n5, c5, A6, n6, c6, eb, hb2, j0, j1, j2, qb⟩ := hv.at_ hj1
  injection eb with eb
  injection eb with e1 e2
  subst e1 e2
  obtain ⟨V, hW, Bx, Br, Ba, Bb, hb0⟩ := boxes6333 52 45 w #[.int .i64 4, .int .i64 (i : Int), .int .i64 (j : Int), .bool q.s, .slice q.A q.n q.c, .slice q.A' q.n' q.c'] #[.bool false, .slice none 0 0, .slice none 0 0] #[.bool sa, .slice A1 n1 c1, .slice A2 n2 c2] #[.bool sb, .slice A5 n5 c5, .slice A6 n6 c6]
  have K := ref_qadd (qa.below hb0) (qb.below hb0) (zv.at_ (by omega)) (zv.at_ (by omega)) (by omega)
  have HK := Lib.hid K
  have HBr := Lib.hid Br
  have HW := Lib.hid hW
  clear K Bx Br Ba Bb hW hv zv qa qb hlen
  go_enter Tryz.func40, Tryz.ntmps40
  go_wp2_with fail
  rw [HW.out]
  with_reducible refine HK.out.mono ?_
  rintro _ w1 ⟨s1, A3, n3, c3, A4, n4, c4, rfl, q3, b1⟩
  have x1 : Below V.heap.size V w1 := b1
  have B9 := HBr.out.below' x1
  obtain ⟨⟨r0, r1, r2⟩, f0, f1, f2⟩ := B9.three
  go_wp2_with fail
  refine bodyPost_ret (v := .tuple #[.agg #[.bool s1, .slice A3 n3 c3, .slice A4 n4 c4], .int .i64 0]) (by simp [results, Tryz.results40, go_sem, r0, r1, r2]) rfl ?_
  exact ⟨_, _, _, _, _, _, _, rfl, q3.put3 ⟨_, _, _, _, _, _, _, B9⟩, below_put3 (bb hb0 x1) (by omega) (Nat.le_refl _) _ _ _⟩

set_option maxRecDepth 100000 in
set_option maxHeartbeats 4000000 in
theorem rs_sub {w : World} {A : Option Addr} {n c : Nat} {v : List Rat} {q : RQ} {i j : Nat} (hv : SlQ w A n c v) (zv : AllSz 64 v) (hn : n ≤ 65536) (hi1 : i < n) (hj1 : j < n) :
    Calls Tryz.prog 40 #[.agg #[.int .i64 5, .int .i64 (i : Int), .int .i64 (j : Int), .bool q.s, .slice q.A q.n q.c, .slice q.A' q.n' q.c'], .slice A n c] w (RetQE (v.getD i 0 - v.getD j 0) 0 w) := by
  obtain ⟨b1, o1, sa, A1, n1, c1, A2, n2, c2, rfl, hb1, k0, k1, k2, qa⟩ := hv.at_ hi1
  have hlen := hv.len
  have hb1a : b1 < w.heap.size + 1 := by omega
  have hb1b : b1 < w.heap.size + 1 + 1 := by omega
  obtain ⟨b2, o2, sb, A5, n5, c5, A6, n6, c6, eb, hb2, j0, j1, j2, qb⟩ := hv.at_ hj1
  injection eb with eb
  injection eb with e1 e2
  subst e1 e2
  obtain ⟨V, hW, Bx, Br, Ba, Bb, hb0⟩ := boxes6333 52 45 w #[.int .i64 5, .int .i64 (i : Int), .int .i64 (j : Int), .bool q.s, .slice q.A q.n q.c, .slice q.A' q.n' q.c'] #[.bool false, .slice none 0 0, .slice none 0 0] #[.bool sa, .slice A1 n1 c1, .slice A2 n2 c2] #[.bool sb, .slice A5 n5 c5, .slice A6 n6 c6]
  have K := ref_qsub (qa.below hb0) (qb.below hb0) (zv.at_ (by omega)) (zv.at_ (by omega)) (by omega)
  have HK := Lib.hid K
  have HBr := Lib.hid Br
  have HW := Lib.hid hW
  clear K Bx Br Ba Bb hW hv zv qa qb hlen
  go_enter Tryz.func40, Tryz.ntmps40
  go_wp2_with fail
  rw [HW.out]
  with_reducible refine HK.out.mono ?_
  rintro _ w1 ⟨s1, A3, n3, c3, A4, n4, c4, rfl, q3, b1⟩
  have x1 : Below V.heap.size V w1 := b1
  have B9 := HBr.out.below' x1
  obtain ⟨⟨r0, r1, r2⟩, f0, f1, f2⟩ := B9.three
  go_wp2_with fail
  refine bodyPost_ret (v := .tuple #[.agg #[.bool s1, .slice A3 n3 c3, .slice A4 n4 c4], .int .i64 0]) (by simp [results, Tryz.results40, go_sem, r0, r1, r2]) rfl ?_
  exact ⟨_, _, _, _, _, _, _, rfl, q3.put3 ⟨_, _, _, _, _, _, _, B9⟩, below_put3 (bb hb0 x1) (by omega) (Nat.le_refl _) _ _ _⟩

set_option maxRecDepth 100000 in
set_option maxHeartbeats 4000000 in
theorem rs_mul {w : World} {A : Option Addr} {n c : Nat} {v : List Rat} {q : RQ} {i j : Nat} (hv : SlQ w A n c v) (zv : AllSz 64 v) (hn : n ≤ 65536) (hi1 : i < n) (hj1 : j < n) :
    Calls Tryz.prog 40 #[.agg #[.int .i64 6, .int .i64 (i : Int), .int .i64 (j : Int), .bool q.s, .slice q.A q.n q.c, .slice q.A' q.n' q.c'], .slice A n c] w (RetQE (v.getD i 0 * v.getD j 0) 0 w) := by
  obtain ⟨b1, o1, sa, A1, n1, c1, A2, n2, c2, rfl, hb1, k0, k1, k2, qa⟩ := hv.at_ hi1
  have hlen := hv.len
  have hb1a : b1 < w.heap.size + 1 := by omega
  have hb1b : b1 < w.heap.size + 1 + 1 := by omega
  obtain ⟨b2, o2, sb, A5, n5, c5, A6, n6, c6, eb, hb2, j0, j1, j2, qb⟩ := hv.at_ hj1
  injection eb with eb
  injection eb with e1 e2
  subst e1 e2
  obtain ⟨V, hW, Bx, Br, Ba, Bb, hb0⟩ := boxes6333 52 45 w #[.int .i64 6, .int .i64 (i : Int), .int .i64 (j : Int), .bool q.s, .slice q.A q.n q.c, .slice q.A' q.n' q.c'] #[.bool false, .slice none 0 0, .slice none 0 0] #[.bool sa, .slice A1 n1 c1, .slice A2 n2 c2] #[.bool sb, .slice A5 n5 c5, .slice A6 n6 c6]
  have K := ref_qmul (qa.below hb0) (qb.below hb0) (zv.at_ (by omega)) (zv.at_ (by omega)) (by omega)
  have HK := Lib.hid K
  have HBr := Lib.hid Br
  have HW := Lib.hid hW
  clear K Bx Br Ba Bb hW hv zv qa qb hlen
  go_enter Tryz.func40, Tryz.ntmps40
  go_wp2_with fail
  rw [HW.out]
  with_reducible refine HK.out.mono ?_
  rintro _ w1 ⟨s1, A3, n3, c3, A4, n4, c4, rfl, q3, b1⟩
  have x1 : Below V.heap.size V w1 := b1
  have B9 := HBr.out.below' x1
  obtain ⟨⟨r0, r1, r2⟩, f0, f1, f2⟩ := B9.three
  go_wp2_with fail
  refine bodyPost_ret (v := .tuple #[.agg #[.bool s1, .slice A3 n3 c3, .slice A4 n4 c4], .int .i64 0]) (by simp [results, Tryz.results40, go_sem, r0, r1, r2]) rfl ?_
  exact ⟨_, _, _, _, _, _, _, rfl, q3.put3 ⟨_, _, _, _, _, _, _, B9⟩, below_put3 (bb hb0 x1) (by omega) (Nat.le_refl _) _ _ _⟩

set_option maxRecDepth 100000 in
set_option maxHeartbeats 4000000 in
theorem rs_div {w : World} {A : Option Addr} {n c : Nat} {v : List Rat} {q : RQ} {i j : Nat} (hv : SlQ w A n c v) (zv : AllSz 64 v) (hn : n ≤ 65536) (hi1 : i < n) (hj1 : j < n) (h0 : v.getD j 0 ≠ 0) :
    Calls Tryz.prog 40 #[.agg #[.int .i64 7, .int .i64 (i : Int), .int .i64 (j : Int), .bool q.s, .slice q.A q.n q.c, .slice q.A' q.n' q.c'], .slice A n c] w (RetQE (v.getD i 0 / v.getD j 0) 0 w) := by
  obtain ⟨b1, o1, sa, A1, n1, c1, A2, n2, c2, rfl, hb1, k0, k1, k2, qa⟩ := hv.at_ hi1
  have hlen := hv.len
  have hb1a : b1 < w.heap.size + 1 := by omega
  have hb1b : b1 < w.heap.size + 1 + 1 := by omega
  obtain ⟨b2, o2, sb, A5, n5, c5, A6, n6, c6, eb, hb2, j0, j1, j2, qb⟩ := hv.at_ hj1
  injection eb with eb
  injection eb with e1 e2
  subst e1 e2
  obtain ⟨V, hW, Bx, Br, Ba, Bb, hb0⟩ := boxes6333 52 45 w #[.int .i64 7, .int .i64 (i : Int), .int .i64 (j : Int), .bool q.s, .slice q.A q.n q.c, .slice q.A' q.n' q.c'] #[.bool false, .slice none 0 0, .slice none 0 0] #[.bool sa, .slice A1 n1 c1, .slice A2 n2 c2] #[.bool sb, .slice A5 n5 c5, .slice A6 n6 c6]
  have K := fun (w1 : World) (hb : Below V.heap.size V w1) => ref_qdiv (qa.below (bb hb0 hb)) (qb.below (bb hb0 hb)) (zv.at_ (by omega)) (zv.at_ (by omega)) (by omega) h0
  have HK := Lib.hid K
  have Z := ref_zero (qb.below hb0)
  rw [decide_eq_false h0] at Z
  have hS : ∀ w', Below V.heap.size V w' → (w'.cell? ⟨w.heap.size + 1 + 1, 0, none⟩ = some (.bool sa) ∧ w'.cell? ⟨w.heap.size + 1 + 1, 1, none⟩ = some (.slice A1 n1 c1) ∧ w'.cell? ⟨w.heap.size + 1 + 1, 2, none⟩ = some (.slice A2 n2 c2)) ∧ (w'.cell? ⟨w.heap.size + 1 + 1 + 1, 0, none⟩ = some (.bool sb) ∧ w'.cell? ⟨w.heap.size + 1 + 1 + 1, 1, none⟩ = some (.slice A5 n5 c5) ∧ w'.cell? ⟨w.heap.size + 1 + 1 + 1, 2, none⟩ = some (.slice A6 n6 c6)) := fun w' hb => ⟨(Ba.below' hb).three.1, (Bb.below' hb).three.1⟩
  have HS := Lib.hid hS
  have HZ := Lib.hid Z
  have HBr := Lib.hid Br
  have HW := Lib.hid hW
  clear K Z hS Bx Br Ba Bb hW hv zv qa qb hlen
  go_enter Tryz.func40, Tryz.ntmps40
  go_wp2_with fail
  rw [HW.out]
  with_reducible refine HZ.out.mono ?_
  rintro _ w0 ⟨rfl, b0⟩
  obtain ⟨⟨p0, p1, p2⟩, p3, p4, p5⟩ := HS.out _ b0
  go_wp2_with fail
  with_reducible refine (HK.out _ b0).mono ?_
  rintro _ w1 ⟨s1, A3, n3, c3, A4, n4, c4, rfl, q3, b1⟩
  have x1 : Below V.heap.size V w1 := bb b0 b1
  have B9 := HBr.out.below' x1
  obtain ⟨⟨r0, r1, r2⟩, f0, f1, f2⟩ := B9.three
  go_wp2_with fail
  refine bodyPost_ret (v := .tuple #[.agg #[.bool s1, .slice A3 n3 c3, .slice A4 n4 c4], .int .i64 0]) (by simp [results, Tryz.results40, go_sem, r0, r1, r2]) rfl ?_
  exact ⟨_, _, _, _, _, _, _, rfl, q3.put3 ⟨_, _, _, _, _, _, _, B9⟩, below_put3 (bb hb0 x1) (by omega) (Nat.le_refl _) _ _ _⟩

set_option maxRecDepth 100000 in
set_option maxHeartbeats 4000000 in
theorem rs_div_no {w : World} {A : Option Addr} {n c : Nat} {v : List Rat} {q : RQ} {i j : Nat} (hv : SlQ w A n c v) (zv : AllSz 64 v) (hn : n ≤ 65536) (hi1 : i < n) (hj1 : j < n) (h0 : v.getD j 0 = 0) :
    Calls Tryz.prog 40 #[.agg #[.int .i64 7, .int .i64 (i : Int), .int .i64 (j : Int), .bool q.s, .slice q.A q.n q.c, .slice q.A' q.n' q.c'], .slice A n c] w (RetNo 4 w) := by
  obtain ⟨b1, o1, sa, A1, n1, c1, A2, n2, c2, rfl, hb1, k0, k1, k2, qa⟩ := hv.at_ hi1
  have hlen := hv.len
  have hb1a : b1 < w.heap.size + 1 := by omega
  have hb1b : b1 < w.heap.size + 1 + 1 := by omega
  obtain ⟨b2, o2, sb, A5, n5, c5, A6, n6, c6, eb, hb2, j0, j1, j2, qb⟩ := hv.at_ hj1
  injection eb with eb
  injection eb with e1 e2
  subst e1 e2
  obtain ⟨V, hW, Bx, Br, Ba, Bb, hb0⟩ := boxes6333 52 45 w #[.int .i64 7, .int .i64 (i : Int), .int .i64 (j : Int), .bool q.s, .slice q.A q.n q.c, .slice q.A' q.n' q.c'] #[.bool false, .slice none 0 0, .slice none 0 0] #[.bool sa, .slice A1 n1 c1, .slice A2 n2 c2] #[.bool sb, .slice A5 n5 c5, .slice A6 n6 c6]
  have Z := ref_zero (qb.below hb0)
  rw [decide_eq_true h0] at Z
  have hS : ∀ w', Below V.heap.size V w' → (w'.cell? ⟨w.heap.size + 1 + 1, 0, none⟩ = some (.bool sa) ∧ w'.cell? ⟨w.heap.size + 1 + 1, 1, none⟩ = some (.slice A1 n1 c1) ∧ w'.cell? ⟨w.heap.size + 1 + 1, 2, none⟩ = some (.slice A2 n2 c2)) ∧ (w'.cell? ⟨w.heap.size + 1 + 1 + 1, 0, none⟩ = some (.bool sb) ∧ w'.cell? ⟨w.heap.size + 1 + 1 + 1, 1, none⟩ = some (.slice A5 n5 c5) ∧ w'.cell? ⟨w.heap.size + 1 + 1 + 1, 2, none⟩ = some (.slice A6 n6 c6)) := fun w' hb => ⟨(Ba.below' hb).three.1, (Bb.below' hb).three.1⟩
  have HS := Lib.hid hS
  have HZ := Lib.hid Z
  have HBr := Lib.hid Br
  have HW := Lib.hid hW
  clear Z hS Bx Br Ba Bb hW hv zv qa qb hlen
  go_enter Tryz.func40, Tryz.ntmps40
  go_wp2_with fail
  rw [HW.out]
  with_reducible refine HZ.out.mono ?_
  rintro _ w0 ⟨rfl, b0⟩
  obtain ⟨⟨p0, p1, p2⟩, p3, p4, p5⟩ := HS.out _ b0
  have B9 := HBr.out.below' b0
  obtain ⟨⟨r0, r1, r2⟩, f0, f1, f2⟩ := B9.three
  go_wp2_with fail
  refine bodyPost_ret (v := .tuple #[.agg #[.bool false, .slice none 0 0, .slice none 0 0], .int .i64 4]) (by simp [results, Tryz.results40, go_sem, r0, r1, r2]) rfl ?_
  exact ⟨rfl, below_put3 (bb hb0 b0) (by omega) (Nat.le_refl _) _ _ _⟩

/-- one of the five that reckon -/
theorem ref_step {w : World} {A : Option Addr} {n c : Nat} {v ins fs : List Rat} {x : RI} (hv : SlQ w A n c v) (zv : AllSz 64 v) (hn : n ≤ 65536) (hfit : fits vq nq x.pi n) (h1 : ¬ x.op = 1) (h2 : ¬ x.op = 2) (hf : isForm x.op = false) :
    Calls Tryz.prog 40 #[.agg #[.int .i64 x.op, .int .i64 x.a, .int .i64 x.b, .bool x.q.s, .slice x.q.A x.q.n x.q.c, .slice x.q.A' x.q.n' x.q.c'], .slice A n c] w (RetEV (raw ins fs x.pi v) w) := by
  obtain ⟨op, a, b, q⟩ := x
  have hlv := hv.len
  simp only at h1 h2 hf ⊢
  have hfit : fits vq nq ⟨op, a, b, (q.s, q.z, q.z')⟩ n := hfit
  show Calls _ _ _ w (RetEV (raw ins fs ⟨op, a, b, (q.s, q.z, q.z')⟩ v) w)
  rcases op_cases op with (rfl | rfl | rfl | rfl | rfl | rfl | rfl | rfl | rfl | rfl) | hno
  · exact absurd rfl h1
  · exact absurd rfl h2
  · obtain ⟨g1, g2⟩ := fit_one (by decide) (by decide) (by decide) hfit
    obtain ⟨i, rfl⟩ : ∃ i : Nat, a = (i : Int) := ⟨a.toNat, by omega⟩
    rw [raw_neg]
    exact rs_neg hv zv hn (by omega)
  · obtain ⟨g1, g2, g3, g4⟩ := fit_two (by decide) (by decide) (by decide) hfit
    obtain ⟨i, rfl⟩ : ∃ i : Nat, a = (i : Int) := ⟨a.toNat, by omega⟩
    obtain ⟨j, rfl⟩ : ∃ j : Nat, b = (j : Int) := ⟨b.toNat, by omega⟩
    rw [raw_add]
    exact rs_add hv zv hn (by omega) (by omega)
  · obtain ⟨g1, g2, g3, g4⟩ := fit_two (by decide) (by decide) (by decide) hfit
    obtain ⟨i, rfl⟩ : ∃ i : Nat, a = (i : Int) := ⟨a.toNat, by omega⟩
    obtain ⟨j, rfl⟩ : ∃ j : Nat, b = (j : Int) := ⟨b.toNat, by omega⟩
    rw [raw_sub]
    exact rs_sub hv zv hn (by omega) (by omega)
  · obtain ⟨g1, g2, g3, g4⟩ := fit_two (by decide) (by decide) (by decide) hfit
    obtain ⟨i, rfl⟩ : ∃ i : Nat, a = (i : Int) := ⟨a.toNat, by omega⟩
    obtain ⟨j, rfl⟩ : ∃ j : Nat, b = (j : Int) := ⟨b.toNat, by omega⟩
    rw [raw_mul]
    exact rs_mul hv zv hn (by omega) (by omega)
  · obtain ⟨g1, g2, g3, g4⟩ := fit_two (by decide) (by decide) (by decide) hfit
    obtain ⟨i, rfl⟩ : ∃ i : Nat, a = (i : Int) := ⟨a.toNat, by omega⟩
    obtain ⟨j, rfl⟩ : ∃ j : Nat, b = (j : Int) := ⟨b.toNat, by omega⟩
    by_cases h0 : v.getD j 0 = 0
    · rw [raw_div_no (by simpa using h0)]
      exact rs_div_no hv zv hn (by omega) (by omega) h0
    · rw [raw_div (by simpa using h0)]
      exact rs_div hv zv hn (by omega) (by omega) h0
  · exact absurd hf (by decide)
  · exact absurd hf (by decide)
  · exact absurd hf (by decide)
  · exact (fit_no hno.2.1 hno.1 (arity_no hno) hfit).elim

end Go.Proofs.YtfhihapgjiaobaaGreat
