/-
  What gradineref17.Give returns: sums. Conditions: the numbers have at most 64 words.
-/
import Derived.Test.YtfhihapgjiaobaaGreatEvBAllB
import Derived.Test.YtfhihapgjiaobaaGreatTgSzAllB
import Derived.Test.YtfhihapgjiaobaaGreatTgAOneB
namespace Go.Proofs.YtfhihapgjiaobaaGreat
set_option maxRecDepth 100000
open Go.RowKit
set_option linter.unusedVariables false
set_option linter.unusedSimpArgs false

theorem inputs_ge {l : List PI} {i : Nat} : ∀ {n : Nat}, i < n → (l.getD i PI.nil).op = 1 → (l.getD i PI.nil).a < 65536 → (l.getD i PI.nil).a + 1 ≤ inputsTo l n := by
  intro n
  induction n with
  | zero => intro h; omega
  | succ n ih =>
    intro h h1 h2
    unfold inputsTo
    rcases Nat.lt_or_eq_of_le (Nat.le_of_lt_succ h) with g | g
    · have := ih g h1 h2
      split <;> omega
    · subst g
      rw [if_pos ⟨h1, h2⟩]
      omega
theorem prog_inputs {l : List PI} (h : IsProg vq nq l) : ∀ i, i < l.length → (l.getD i PI.nil).op = 1 → (l.getD i PI.nil).a.toNat < (inputsTo l l.length).toNat := by
  intro i hi h1
  have hf := h.1 i hi
  have h2 : 0 ≤ (l.getD i PI.nil).a ∧ (l.getD i PI.nil).a < 65536 := by
    generalize l.getD i PI.nil = x at *
    obtain ⟨op, a, b, q⟩ := x
    have h1' : op = 1 := h1
    subst h1'
    exact fit_in hf
  have := inputs_ge hi h1 h2.2
  omega
theorem sz_one : Sz 1 1 := ⟨by decide, by decide⟩
/-- how great the factors are with which an instruction gives on -/
theorem tden_sz {x : PI} {y : Rat} {v : List Rat} (hy : Sz y 64) (hv : AllSz 64 v) : Sz (tden x y v) 129 := by
  have h0 : ∀ j, Sz (v.getD j 0) 129 := fun j => by
    rcases Nat.lt_or_ge j v.length with h | h
    · exact (hv.at_ h).mono (by omega)
    · rw [List.getD_eq_getElem?_getD, List.getElem?_eq_none h]; exact sz_zero 129 (by omega)
  unfold tden
  split
  · exact h0 _
  split
  · exact (hy.add hy).mono (by omega)
  split
  · exact h0 _
  · exact sz_one.mono (by omega)
theorem dA_sz {x : PI} {y : Rat} {v : List Rat} (hy : Sz y 64) (hv : AllSz 64 v) : Sz (dA x y v) 129 := by
  have h0 : ∀ j, Sz (v.getD j 0) 129 := fun j => by
    rcases Nat.lt_or_ge j v.length with h | h
    · exact (hv.at_ h).mono (by omega)
    · rw [List.getD_eq_getElem?_getD, List.getElem?_eq_none h]; exact sz_zero 129 (by omega)
  unfold dA
  split
  · exact sz_one.neg.mono (by omega)
  split
  · exact sz_one.mono (by omega)
  split
  · exact sz_one.mono (by omega)
  split
  · exact h0 _
  split
  · exact hy.mono (by omega)
  · exact (tden_sz hy hv).inv
theorem dB_sz {x : PI} {y : Rat} {v : List Rat} (hy : Sz y 64) (hv : AllSz 64 v) : Sz (dB x y v) 193 := by
  have h0 : ∀ j, Sz (v.getD j 0) 193 := fun j => by
    rcases Nat.lt_or_ge j v.length with h | h
    · exact (hv.at_ h).mono (by omega)
    · rw [List.getD_eq_getElem?_getD, List.getElem?_eq_none h]; exact sz_zero 193 (by omega)
  unfold dB
  split
  · exact sz_one.mono (by omega)
  split
  · exact sz_one.neg.mono (by omega)
  split
  · exact h0 _
  split
  · exact (hy.mul (tden_sz hy hv).inv).neg
  · exact sz_zero 193 (by omega)
def sumTo (N : Nat → Nat) : Nat → Nat
  | 0 => 0
  | k + 1 => sumTo N k + N k
theorem sumTo_one : ∀ k, sumTo (fun _ => 1) k = k := by
  intro k
  induction k with
  | zero => rfl
  | succ k ih => show sumTo _ k + 1 = _; rw [ih]
theorem sumTo_up (N : Nat → Nat) (a d : Nat) : ∀ k, sumTo (fun j => if j = a then N j + d else N j) k ≤ sumTo N k + d ∧ (k ≤ a → sumTo (fun j => if j = a then N j + d else N j) k = sumTo N k) := by
  intro k
  induction k with
  | zero => exact ⟨Nat.zero_le _, fun _ => rfl⟩
  | succ k ih =>
    obtain ⟨h1, h2⟩ := ih
    show sumTo _ k + (if k = a then N k + d else N k) ≤ sumTo N k + N k + d ∧ (k + 1 ≤ a → sumTo _ k + (if k = a then N k + d else N k) = sumTo N k + N k)
    by_cases e : k = a
    · have := h2 (by omega)
      rw [if_pos e]
      exact ⟨by omega, fun h => by omega⟩
    · rw [if_neg e]
      exact ⟨by omega, fun h => by rw [h2 (by omega)]⟩
/-- what the inputs have, by sizes that do not grow much in all -/
theorem give_szs {v : List Rat} {l : List PI} (m : Nat) : ∀ n (s s' : List Rat × List Rat), giveTo v l n s = .ok s' → ∀ N : Nat → Nat, (∀ j, Sz (s.2.getD j 0) (N j)) → ∃ N' : Nat → Nat, (∀ j, Sz (s'.2.getD j 0) (N' j)) ∧ sumTo N' m ≤ sumTo N m + 65 * n := by
  intro n
  induction n with
  | zero =>
    intro s s' h N hN
    injection h with h
    subst h
    exact ⟨N, hN, by omega⟩
  | succ n ih =>
    intro s s' h N hN
    cases hg : giveSt v n (l.getD n PI.nil) s with
    | error e => rw [giveTo_err hg] at h; cases h
    | ok s1 =>
      rw [giveTo_ok hg] at h
      have key : ∃ N1 : Nat → Nat, (∀ j, Sz (s1.2.getD j 0) (N1 j)) ∧ sumTo N1 m ≤ sumTo N m + 65 := by
        unfold giveSt at hg
        by_cases hb : 4096 < bitsQ (s.1.getD n 0)
        · rw [if_pos hb] at hg; cases hg
        rw [if_neg hb] at hg
        by_cases h1 : (l.getD n PI.nil).op = 1
        · rw [if_pos h1] at hg
          injection hg with hg
          subst hg
          refine ⟨fun j => if j = (l.getD n PI.nil).a.toNat then N j + 65 else N j, fun j => ?_, (sumTo_up N _ 65 m).1⟩
          show Sz ((addAt s.2 (l.getD n PI.nil).a.toNat (s.1.getD n 0)).getD j 0) (if j = (l.getD n PI.nil).a.toNat then N j + 65 else N j)
          by_cases e : (l.getD n PI.nil).a.toNat = j
          · rw [if_pos e.symm]
            rcases Nat.lt_or_ge j s.2.length with hl | hl
            · rw [e, addAt_same _ hl]
              exact ((hN j).add (sz_of_bits hb)).mono (by omega)
            · rw [List.getD_eq_getElem?_getD, List.getElem?_eq_none (by rw [addAt_len]; exact hl)]
              exact sz_zero _ (by omega)
          · rw [addAt_other _ e, if_neg (fun h => e h.symm)]
            exact hN j
        · rw [if_neg h1] at hg
          refine ⟨N, fun j => ?_, by omega⟩
          split at hg
          · injection hg with hg; subst hg; exact hN j
          · split at hg
            · cases hg
            · injection hg with hg; subst hg; exact hN j
      obtain ⟨N1, k1, k2⟩ := key
      obtain ⟨N2, j1, j2⟩ := ih s1 s' h N1 k1
      exact ⟨N2, j1, by omega⟩
end Go.Proofs.YtfhihapgjiaobaaGreat

namespace Go.Proofs.YtfhihapgjiaobaaGreat
set_option maxRecDepth 100000
open Go.RowKit
set_option linter.unusedVariables false
set_option linter.unusedSimpArgs false

section
variable {ds v t : List Rat} {a b : Int} {q : Bool × List Int × List Int} {y : Rat}
theorem tanR_1 : tanR ds ⟨1, a, b, q⟩ y v t = .ok (ds.getD a.toNat 0) := rfl
theorem tanR_2 : tanR ds ⟨2, a, b, q⟩ y v t = .ok 0 := rfl
theorem rat_one_ne : ¬ (1 : Rat) = 0 := by decide
theorem tanR_of {op : Int} (h1 : ¬ op = 1) (h2 : ¬ op = 2) (h : ¬ tden ⟨op, a, b, q⟩ y v = 0) {X : Rat} (e : dA ⟨op, a, b, q⟩ y v * t.getD a.toNat 0 + dB ⟨op, a, b, q⟩ y v * t.getD b.toNat 0 = X) : tanR ds ⟨op, a, b, q⟩ y v t = .ok X := by
  unfold tanR
  simp only
  rw [if_neg h1, if_neg h2, if_neg h, e]
theorem tanR_no {op : Int} (h1 : ¬ op = 1) (h2 : ¬ op = 2) (h : tden ⟨op, a, b, q⟩ y v = 0) : tanR ds ⟨op, a, b, q⟩ y v t = .error 4 := by
  unfold tanR
  simp only
  rw [if_neg h1, if_neg h2, if_pos h]
theorem tanR_3 : tanR ds ⟨3, a, b, q⟩ y v t = .ok (-(t.getD a.toNat 0)) := tanR_of (by decide) (by decide) (by exact rat_one_ne) (by
  show (-1) * t.getD a.toNat 0 + 0 * t.getD b.toNat 0 = _
  grind)
theorem tanR_4 : tanR ds ⟨4, a, b, q⟩ y v t = .ok (t.getD a.toNat 0 + t.getD b.toNat 0) := tanR_of (by decide) (by decide) (by exact rat_one_ne) (by
  show 1 * t.getD a.toNat 0 + 1 * t.getD b.toNat 0 = _
  grind)
theorem tanR_5 : tanR ds ⟨5, a, b, q⟩ y v t = .ok (t.getD a.toNat 0 - t.getD b.toNat 0) := tanR_of (by decide) (by decide) (by exact rat_one_ne) (by
  show 1 * t.getD a.toNat 0 + (-1) * t.getD b.toNat 0 = _
  grind)
theorem tanR_6 : tanR ds ⟨6, a, b, q⟩ y v t = .ok (t.getD a.toNat 0 * v.getD b.toNat 0 + v.getD a.toNat 0 * t.getD b.toNat 0) := tanR_of (by decide) (by decide) (by exact rat_one_ne) (by
  show v.getD b.toNat 0 * t.getD a.toNat 0 + v.getD a.toNat 0 * t.getD b.toNat 0 = _
  grind)
theorem tanR_7 (h : ¬ v.getD b.toNat 0 = 0) : tanR ds ⟨7, a, b, q⟩ y v t = .ok ((t.getD a.toNat 0 - y * t.getD b.toNat 0) / v.getD b.toNat 0) := tanR_of (by decide) (by decide) (by exact h) (by
  show (v.getD b.toNat 0)⁻¹ * t.getD a.toNat 0 + (-(y * (v.getD b.toNat 0)⁻¹)) * t.getD b.toNat 0 = _
  rw [Rat.div_def]
  grind)
theorem tanR_7n (h : v.getD b.toNat 0 = 0) : tanR ds ⟨7, a, b, q⟩ y v t = .error 4 := tanR_no (by decide) (by decide) (by exact h)
theorem tanR_8 (h : ¬ y + y = 0) : tanR ds ⟨8, a, b, q⟩ y v t = .ok (t.getD a.toNat 0 / (y + y)) := tanR_of (by decide) (by decide) (by exact h) (by
  show (y + y)⁻¹ * t.getD a.toNat 0 + 0 * t.getD b.toNat 0 = _
  rw [Rat.div_def, Rat.zero_mul, Rat.add_zero, Rat.mul_comm])
theorem tanR_8n (h : y + y = 0) : tanR ds ⟨8, a, b, q⟩ y v t = .error 4 := tanR_no (by decide) (by decide) (by exact h)
theorem tanR_9 : tanR ds ⟨9, a, b, q⟩ y v t = .ok (t.getD a.toNat 0 * y) := tanR_of (by decide) (by decide) (by exact rat_one_ne) (by
  show y * t.getD a.toNat 0 + 0 * t.getD b.toNat 0 = _
  grind)
theorem tanR_10 (h : ¬ v.getD a.toNat 0 = 0) : tanR ds ⟨10, a, b, q⟩ y v t = .ok (t.getD a.toNat 0 / v.getD a.toNat 0) := tanR_of (by decide) (by decide) (by exact h) (by
  show (v.getD a.toNat 0)⁻¹ * t.getD a.toNat 0 + 0 * t.getD b.toNat 0 = _
  rw [Rat.div_def, Rat.zero_mul, Rat.add_zero, Rat.mul_comm])
theorem tanR_10n (h : v.getD a.toNat 0 = 0) : tanR ds ⟨10, a, b, q⟩ y v t = .error 4 := tanR_no (by decide) (by decide) (by exact h)
end
theorem tanR_err {ds v t : List Rat} {x : PI} {y : Rat} {e : Int} (h : tanR ds x y v t = .error e) : e = 4 := by
  unfold tanR at h
  split at h
  · cases h
  · split at h
    · cases h
    · split at h
      · injection h with h; exact h.symm
      · cases h
theorem getD_sz {N : Nat} {v : List Rat} (h : AllSz N v) (hN : 0 < N) (j : Nat) : Sz (v.getD j 0) N := by
  rcases Nat.lt_or_ge j v.length with h9 | h9
  · exact h.at_ h9
  · rw [List.getD_eq_getElem?_getD, List.getElem?_eq_none h9]; exact sz_zero N hN
theorem tanR_sz {ds v t : List Rat} {x : PI} {y X : Rat} (h : tanR ds x y v t = .ok X) (zy : Sz y 64) (zv : AllSz 64 v) (zt : AllSz 64 t) (zd : AllSz 64 ds) : Sz X 451 := by
  unfold tanR at h
  split at h
  · injection h with h; subst h; exact (getD_sz zd (by omega) _).mono (by omega)
  · split at h
    · injection h with h; subst h; exact sz_zero _ (by omega)
    · split at h
      · cases h
      · injection h with h
        subst h
        exact (((dA_sz zy zv).mul (getD_sz zt (by omega) _)).add ((dB_sz zy zv).mul (getD_sz zt (by omega) _))).mono (by omega)
/-- values that are not too long -/
theorem big_sz {r : Except Int Rat} {X : Rat} (h : big r = .ok X) : r = .ok X ∧ Sz X 64 := by
  cases r with
  | error e => rw [big_err] at h; cases h
  | ok Y =>
    by_cases hb : 4096 < bitsQ Y
    · rw [big_no hb] at h; cases h
    · rw [big_yes hb] at h
      injection h with h
      subst h
      exact ⟨rfl, sz_of_bits hb⟩
theorem evTo_sz {f : Nat → PI → List Rat → Except Int Rat} {l : List PI} {v : List Rat} {n : Nat} (h : evTo f l n = .ok v) (hb : ∀ i x u X, f i x u = .ok X → Sz X 64) : AllSz 64 v := by
  intro X hX
  obtain ⟨j, hj⟩ := List.mem_iff_getElem?.1 hX
  have hjl : j < v.length := by
    rcases Nat.lt_or_ge j v.length with h9 | h9
    · exact h9
    · rw [List.getElem?_eq_none h9] at hj; cases hj
  have h1 := (evTo_ok (d := (0 : Rat)) h j (by rw [evTo_len h] at hjl; exact hjl)).2
  have e : v.getD j 0 = X := by rw [List.getD_eq_getElem?_getD, hj]; rfl
  rw [e] at h1
  exact hb _ _ _ _ h1
theorem exact_sz {is fs : List Rat} {l : List PI} {v : List Rat} {n : Nat} (h : evTo (exSt is fs l) l n = .ok v) : AllSz 64 v := evTo_sz h (fun i x u X hX => (big_sz hX).2)
/-- the inputs of a program that has values are there -/
theorem exact_in {is fs : List Rat} {l : List PI} {v : List Rat} {n : Nat} (h : evTo (exSt is fs l) l n = .ok v) {i : Nat} (hi : i < n) (h1 : (l.getD i PI.nil).op = 1) : (l.getD i PI.nil).a.toNat < is.length := by
  have h2 := (big_sz (evTo_ok (d := (0 : Rat)) h i hi).2).1
  generalize l.getD i PI.nil = x at *
  obtain ⟨op, a, b, q⟩ := x
  have h1' : op = 1 := h1
  subst h1'
  by_cases hlt : a.toNat < is.length
  · exact hlt
  · rw [raw_in_no hlt] at h2; cases h2

theorem tg_value {w : World} {A B C : Option Addr} {n c m d l f : Nat} {v ts ds : List Rat} {x : RI} {sy : Bool} {Ay Dy : Option Addr} {ny cy my dy : Nat} {Y : Rat} (hy : Q w sy Ay ny cy Dy my dy Y) (zy : Sz Y 64) (hv : SlQ w A n c v) (ht : SlQ w B m d ts) (hd : SlQ w C l f ds) (zv : AllSz 64 v) (zt : AllSz 64 ts) (zd : AllSz 64 ds) (hn : n ≤ 65536) (hm : m ≤ 65536) (hl : l ≤ 65536) (hfit : fits vq nq x.pi m) (hmn : m ≤ n) (hin : x.op = 1 → x.a.toNat < l) :
    Calls Tryz.prog 28 #[.agg #[.int .i64 x.op, .int .i64 x.a, .int .i64 x.b, .bool x.q.s, .slice x.q.A x.q.n x.q.c, .slice x.q.A' x.q.n' x.q.c'], .agg #[.bool sy, .slice Ay ny cy, .slice Dy my dy], .slice A n c, .slice B m d, .slice C l f] w (RetEV (tanR ds x.pi Y v ts) w) := by
  obtain ⟨op, a, b, q⟩ := x
  simp only at hin ⊢
  have hfit : fits vq nq ⟨op, a, b, (q.s, q.z, q.z')⟩ m := hfit
  show Calls _ _ _ w (RetEV (tanR ds ⟨op, a, b, (q.s, q.z, q.z')⟩ Y v ts) w)
  rcases op_cases op with (rfl | rfl | rfl | rfl | rfl | rfl | rfl | rfl | rfl | rfl) | hno
  · obtain ⟨g1, g2⟩ := fit_in hfit
    have h3 := hin rfl
    obtain ⟨i, rfl⟩ : ∃ i : Nat, a = (i : Int) := ⟨a.toNat, by omega⟩
    rw [tanR_1]
    exact tg_in hy zy hv ht hd zv zt zd hn hm hl (by omega)
  · rw [tanR_2]
    exact tg_const hy zy hv ht hd zv zt zd hn hm hl
  · obtain ⟨g1, g2⟩ := fit_one (by decide) (by decide) (by decide) hfit
    obtain ⟨i, rfl⟩ : ∃ i : Nat, a = (i : Int) := ⟨a.toNat, by omega⟩
    rw [tanR_3]
    exact tg_neg hy zy hv ht hd zv zt zd hn hm hl (by omega)
  · obtain ⟨g1, g2, g3, g4⟩ := fit_two (by decide) (by decide) (by decide) hfit
    obtain ⟨i, rfl⟩ : ∃ i : Nat, a = (i : Int) := ⟨a.toNat, by omega⟩
    obtain ⟨j, rfl⟩ : ∃ j : Nat, b = (j : Int) := ⟨b.toNat, by omega⟩
    rw [tanR_4]
    exact tg_add hy zy hv ht hd zv zt zd hn hm hl (by omega) (by omega)
  · obtain ⟨g1, g2, g3, g4⟩ := fit_two (by decide) (by decide) (by decide) hfit
    obtain ⟨i, rfl⟩ : ∃ i : Nat, a = (i : Int) := ⟨a.toNat, by omega⟩
    obtain ⟨j, rfl⟩ : ∃ j : Nat, b = (j : Int) := ⟨b.toNat, by omega⟩
    rw [tanR_5]
    exact tg_sub hy zy hv ht hd zv zt zd hn hm hl (by omega) (by omega)
  · obtain ⟨g1, g2, g3, g4⟩ := fit_two (by decide) (by decide) (by decide) hfit
    obtain ⟨i, rfl⟩ : ∃ i : Nat, a = (i : Int) := ⟨a.toNat, by omega⟩
    obtain ⟨j, rfl⟩ : ∃ j : Nat, b = (j : Int) := ⟨b.toNat, by omega⟩
    rw [tanR_6]
    exact tg_mul hy zy hv ht hd zv zt zd hn hm hl (by omega) (by omega) (by omega) (by omega)
  · obtain ⟨g1, g2, g3, g4⟩ := fit_two (by decide) (by decide) (by decide) hfit
    obtain ⟨i, rfl⟩ : ∃ i : Nat, a = (i : Int) := ⟨a.toNat, by omega⟩
    obtain ⟨j, rfl⟩ : ∃ j : Nat, b = (j : Int) := ⟨b.toNat, by omega⟩
    by_cases h0 : v.getD j 0 = 0
    · rw [tanR_7n (by simpa using h0)]
      exact tg_div_no hy zy hv ht hd zv zt zd hn hm hl (by omega) (by omega) (by omega) h0
    · rw [tanR_7 (by simpa using h0)]
      exact tg_div hy zy hv ht hd zv zt zd hn hm hl (by omega) (by omega) (by omega) h0
  · obtain ⟨g1, g2⟩ := fit_one (by decide) (by decide) (by decide) hfit
    obtain ⟨i, rfl⟩ : ∃ i : Nat, a = (i : Int) := ⟨a.toNat, by omega⟩
    by_cases h0 : Y + Y = 0
    · rw [tanR_8n h0]
      exact tg_sqrt_no hy zy hv ht hd zv zt zd hn hm hl (by omega) h0
    · rw [tanR_8 h0]
      exact tg_sqrt hy zy hv ht hd zv zt zd hn hm hl (by omega) h0
  · obtain ⟨g1, g2⟩ := fit_one (by decide) (by decide) (by decide) hfit
    obtain ⟨i, rfl⟩ : ∃ i : Nat, a = (i : Int) := ⟨a.toNat, by omega⟩
    rw [tanR_9]
    exact tg_exp hy zy hv ht hd zv zt zd hn hm hl (by omega)
  · obtain ⟨g1, g2⟩ := fit_one (by decide) (by decide) (by decide) hfit
    obtain ⟨i, rfl⟩ : ∃ i : Nat, a = (i : Int) := ⟨a.toNat, by omega⟩
    by_cases h0 : v.getD i 0 = 0
    · rw [tanR_10n (by simpa using h0)]
      exact tg_log_no hy zy hv ht hd zv zt zd hn hm hl (by omega) (by omega) h0
    · rw [tanR_10 (by simpa using h0)]
      exact tg_log hy zy hv ht hd zv zt zd hn hm hl (by omega) (by omega) h0
  · exact (fit_no hno.2.1 hno.1 (arity_no hno) hfit).elim

end Go.Proofs.YtfhihapgjiaobaaGreat

namespace Go.Proofs.YtfhihapgjiaobaaGreat
set_option maxRecDepth 100000
open Go.RowKit
set_option linter.unusedVariables false
set_option linter.unusedSimpArgs false

/-- values and tangents, or the number of the instruction and the error -/
def RetTg (r : Except (Nat × Int) (List Rat × List Rat)) (w : World) (e : Ending) (w' : World) : Prop := match r with
  | .ok (v, t) => (∃ A n c B m d, e = .returned (.tuple #[.slice A n c, .slice B m d, .int .i64 0, .int .i64 0]) ∧ SlQ w' A n c v ∧ SlQ w' B m d t) ∧ Below w.heap.size w w'
  | .error (i, k) => e = .returned (.tuple #[.slice none 0 0, .slice none 0 0, .int .i64 (i : Int), .int .i64 k]) ∧ Below w.heap.size w w'
def tgRun (l : List PI) (v ds : List Rat) : Except (Nat × Int) (List Rat × List Rat) := match evTo (tanSt ds v) l l.length with
  | .ok t => .ok (v, t)
  | .error e => .error e
noncomputable def tgAll (l : List PI) (p q r s : Bool) (ins ds forms : List Rat) : Except (Nat × Int) (List Rat × List Rat) :=
  if s = true ∧ r = true then (match exAll l p q ins forms with
    | .error e => .error e
    | .ok v => tgRun l v ds) else .error (0, 1)
theorem tgAll_no {l : List PI} {p q r s : Bool} {ins ds forms : List Rat} (h : ¬ (s = true ∧ r = true)) : tgAll l p q r s ins ds forms = .error (0, 1) := by unfold tgAll; rw [if_neg h]
theorem tgAll_err {l : List PI} {p q : Bool} {ins ds forms : List Rat} {e : Nat × Int} (h : exAll l p q ins forms = .error e) : tgAll l p q true true ins ds forms = .error e := by unfold tgAll; rw [if_pos ⟨rfl, rfl⟩, h]
theorem tgAll_ok {l : List PI} {p q : Bool} {ins ds forms v : List Rat} (h : exAll l p q ins forms = .ok v) : tgAll l p q true true ins ds forms = tgRun l v ds := by unfold tgAll; rw [if_pos ⟨rfl, rfl⟩, h]
theorem tgRun_ok {l : List PI} {v ds t : List Rat} (h : evTo (tanSt ds v) l l.length = .ok t) : tgRun l v ds = .ok (v, t) := by unfold tgRun; rw [h]
theorem tgRun_err {l : List PI} {v ds : List Rat} {e : Nat × Int} (h : evTo (tanSt ds v) l l.length = .error e) : tgRun l v ds = .error e := by unfold tgRun; rw [h]
theorem exAll_ok {l : List PI} {p q : Bool} {ins forms v : List Rat} (h : exAll l p q ins forms = .ok v) : progB l = true ∧ p = true ∧ q = true ∧ evTo (exSt ins forms l) l l.length = .ok v := by
  unfold exAll at h
  split at h
  · rename_i h1
    exact ⟨h1.1, h1.2.1, h1.2.2, h⟩
  · cases h
theorem evTo_errs {f : Nat → PI → List Rat → Except Int Rat} {l : List PI} {n : Nat} {i : Nat} {e : Int} (h : evTo f l n = .error (i, e)) : i < n ∧ ∃ v, f i (l.getD i PI.nil) v = .error e := by
  induction n with
  | zero => cases h
  | succ n ih =>
    unfold evTo at h
    cases h1 : evTo f l n with
    | error e1 =>
      rw [h1] at h
      simp only at h
      injection h with h
      rw [h] at h1
      obtain ⟨g1, g2⟩ := ih h1
      exact ⟨by omega, g2⟩
    | ok v =>
      rw [h1] at h
      simp only at h
      cases h2 : f n (l.getD n PI.nil) v with
      | ok X => rw [h2] at h; cases h
      | error e1 =>
        rw [h2] at h
        simp only at h
        injection h with h
        injection h with h3 h4
        subst h3 h4
        exact ⟨Nat.lt_succ_self _, v, h2⟩
theorem big_errs {r : Except Int Rat} {e : Int} (h : big r = .error e) : e = 5 ∨ r = .error e := by
  cases r with
  | error e1 => rw [big_err] at h; injection h with h; subst h; exact .inr rfl
  | ok X =>
    by_cases hb : 4096 < bitsQ X
    · rw [big_no hb] at h; injection h with h; exact .inl h.symm
    · rw [big_yes hb] at h; cases h
theorem exAll_errs {l : List PI} {p q : Bool} {ins forms : List Rat} {i : Nat} {e : Int} (h : exAll l p q ins forms = .error (i, e)) : i ≤ l.length ∧ ((e = 1 ∧ i = 0) ∨ e = 4 ∨ e = 5 ∨ e = 6 ∨ e = 11) := by
  unfold exAll at h
  split at h
  · obtain ⟨g1, v, g2⟩ := evTo_errs h
    refine ⟨by omega, .inr ?_⟩
    rcases big_errs g2 with h5 | h5
    · exact .inr (.inl h5)
    · rcases raw_err h5 with h6 | h6 | h6
      · exact .inl h6
      · exact .inr (.inr (.inl h6))
      · exact .inr (.inr (.inr h6))
  · injection h with h
    injection h with h1 h2
    exact ⟨by omega, .inl ⟨h2.symm, h1.symm⟩⟩

theorem box_self {t : TypeId} {w : World} {g : Nat} {y0 y1 y2 : Value} (h : Box t w g #[y0, y1, y2]) (x0 x1 x2 : Value) : Box t (put3 w g x0 x1 x2) g #[x0, x1, x2] := by
  unfold Box put3 at *
  simp [World.setCell, Array.getElem?_modify, h]

set_option maxRecDepth 100000 in
set_option maxHeartbeats 4000000 in
theorem tg_of {w : World} {A B D C : Option Addr} {n c m d k e kf f : Nat} {xs : List RI} {is ds fs : List RQ} (h : SlP w A n c xs) (hs : Shrt 64 xs) (hi : SlR w B m d is) (his : ∀ x ∈ is, x.n ≤ 64 ∧ x.n' ≤ 64) (hd : SlR w D k e ds) (hds : ∀ x ∈ ds, x.n ≤ 64 ∧ x.n' ≤ 64) (hf : SlR w C kf f fs) (hfs : ∀ x ∈ fs, x.n ≤ 64 ∧ x.n' ≤ 64) (hn : n ≤ 300) (hm : m ≤ 1000) (hk : k ≤ 1000) (hkf : kf ≤ 1000) :
    Calls Tryz.prog 9 #[.slice A n c, .slice B m d, .slice D k e, .slice C kf f] w (RetTg (tgAll (xs.map RI.pi) (allR is) (allR fs) (allR ds) (decide (m = k)) (qvs is) (qvs ds) (qvs fs)) w) := by
  have hlen : (xs.map RI.pi).length = n := by rw [List.length_map]; exact h.1.1
  have P1 := tg_allRight hd hds (by omega) (by omega)
  have P2 := fun (w1 : World) (hb : Below w.heap.size w w1) => ev_exact (h.below hb) hs (hi.below hb) his (hf.below hb) hfs hn hm hkf
  have hsd := fun hh => slq_of hd hds hh
  have hil : (qvs is).length = m := by unfold qvs; rw [List.length_map]; exact hi.1.1
  have hex := fun v => @exAll_ok (xs.map RI.pi) (allR is) (allR fs) (qvs is) (qvs fs) v
  have hxe := fun i e => @exAll_errs (xs.map RI.pi) (allR is) (allR fs) (qvs is) (qvs fs) i e
  have ht1 := fun hh => @tgAll_no (xs.map RI.pi) (allR is) (allR fs) (allR ds) (decide (m = k)) (qvs is) (qvs ds) (qvs fs) hh
  have ht2 := fun e => @tgAll_err (xs.map RI.pi) (allR is) (allR fs) (qvs is) (qvs ds) (qvs fs) e
  have ht3 := fun v => @tgAll_ok (xs.map RI.pi) (allR is) (allR fs) (qvs is) (qvs ds) (qvs fs) v
  have HP1 := Lib.hid P1
  have HP2 := Lib.hid P2
  clear P1 P2
  by_cases hmk : m = k
  case neg =>
    rw [ht1 (by simp [hmk])]
    clear ht1 ht2 ht3 hex hxe hsd hil
    have hmk2 : ¬ (m : Int) = (k : Int) := by omega
    go_enter Tryz.func9, Tryz.ntmps9
    go_wp2_with fail
    refine bodyPost_ret (v := .tuple #[.slice none 0 0, .slice none 0 0, .int .i64 0, .int .i64 1]) (by simp [results, Tryz.results9, go_sem]) rfl ?_
    exact ⟨rfl, Below.refl _ _⟩
  case pos =>
  subst hmk
  generalize qvs is = Is at *
  generalize qvs ds = Ds at *
  generalize qvs fs = Fs at *
  generalize allR ds = p2 at *
  cases p2
  case false =>
    rw [ht1 (by simp)]
    clear ht1 ht2 ht3 hex hxe hsd hil
    go_enter Tryz.func9, Tryz.ntmps9
    go_wp2_with fail
    with_reducible refine HP1.out.mono ?_
    rintro _ w1 ⟨rfl, b1⟩
    go_wp2_with fail
    refine bodyPost_ret (v := .tuple #[.slice none 0 0, .slice none 0 0, .int .i64 0, .int .i64 1]) (by simp [results, Tryz.results9, go_sem]) rfl ?_
    exact ⟨rfl, b1⟩
  case true =>
  rw [show decide (m = m) = true from by simp]
  obtain ⟨r, hr⟩ : ∃ r, exAll (xs.map RI.pi) (allR is) (allR fs) Is Fs = r := ⟨_, rfl⟩
  rw [hr] at HP2
  cases r with
  | error er =>
    obtain ⟨i, er⟩ := er
    rw [ht2 _ hr]
    obtain ⟨_, hee⟩ := hxe i er hr
    have he0 : ¬ er = 0 := by omega
    clear ht1 ht2 ht3 hex hxe hsd hil hr hee
    go_enter Tryz.func9, Tryz.ntmps9
    go_wp2_with fail
    with_reducible refine HP1.out.mono ?_
    rintro _ w1 ⟨rfl, b1⟩
    go_wp2_with fail
    with_reducible refine (HP2.out _ b1).mono ?_
    rintro _ w2 ⟨rfl, b2⟩
    go_wp2_with fail
    refine bodyPost_ret (v := .tuple #[.slice none 0 0, .slice none 0 0, .int .i64 (i : Int), .int .i64 er]) (by simp [results, Tryz.results9, go_sem]) rfl ?_
    exact ⟨rfl, bb b1 b2⟩
  | ok v =>
  rw [ht3 _ hr]
  obtain ⟨hpb, _, _, hev⟩ := hex v hr
  obtain ⟨qd, zd⟩ := hsd rfl
  have zv : AllSz 64 v := exact_sz hev
  have hprog := (progB_iff (xs.map RI.pi)).1 hpb
  have hvl : v.length = n := by rw [evTo_len hev, hlen]
  have hin : ∀ j, j < n → ((xs.map RI.pi).getD j PI.nil).op = 1 → ((xs.map RI.pi).getD j PI.nil).a.toNat < m := fun j hj h1 => by
    have := exact_in hev (i := j) (by rw [hlen]; exact hj) h1
    omega
  have hr1 := fun t => @tgRun_ok (xs.map RI.pi) v Ds t
  have hr2 := fun e => @tgRun_err (xs.map RI.pi) v Ds e
  rw [hlen] at hr1 hr2
  have HL := Lib.hid hlen
  clear ht1 ht2 ht3 hex hxe hsd hil hr hpb hev hlen hi hf his hfs hds
  obtain ⟨R, hR⟩ : ∃ R, R = tgRun (xs.map RI.pi) v Ds := ⟨_, rfl⟩
  rw [← hR]
  rw [← hR] at hr1 hr2
  have HR1 := Lib.hid hr1
  have HR2 := Lib.hid hr2
  have HIN := Lib.hid hin
  have HVL := Lib.hid hvl
  clear hR hr1 hr2 hin hvl
  obtain ⟨i0, hi0, hz0, hz1, hz2⟩ := info_parts infoQ
  go_enter Tryz.func9, Tryz.ntmps9
  go_wp2_with fail
  with_reducible refine HP1.out.mono ?_
  rintro _ w1 ⟨rfl, b1⟩
  go_wp2_with fail
  with_reducible refine (HP2.out _ b1).mono ?_
  rintro _ w3 ⟨⟨Av, nv, cv, rfl, qv3⟩, b3⟩
  have y3 := bb b1 b3
  clear b1 b3 HP1 HP2
  obtain ⟨w4, hmk, ho4, b4⟩ := make_C (cells := RQ.cells) 23 45 _ 56 Tryz.underlying23 infoQ zeroQ rfl (by omega) w3 n (by omega) (by omega)
  have HO := Lib.hid (show OwnQ w3.heap.size w4 (.slice (some ⟨w3.heap.size, 0, none⟩) 0 n) [] from ⟨[], ho4, rfl, fun j x hx => by simp at hx⟩)
  clear ho4
  have hvn : nv = n := by rw [qv3.len]; exact HVL.out
  subst hvn
  go_wp2_with fail
  have h3 := h.below y3
  have HQV := Lib.hid qv3
  have HQD := Lib.hid (qd.below y3)
  have HPR := Lib.hid hprog
  have HSH := Lib.hid hs
  clear qd qv3 hprog hs hmk h hd
  go_loopw [15, 47] (fun vv iv wr => ∃ (j : Nat) (t : List Rat), j ≤ nv ∧ iv = .int .i64 j ∧ Hid (OwnQ w3.heap.size wr vv t) ∧ Hid (evTo (tanSt Ds v) (xs.map RI.pi) j = .ok t) ∧ Hid (AllSz 64 t) ∧ Below w3.heap.size w3 wr) (fun _ iv _ => nv - mes iv)
  case atStart => exact ⟨0, [], by omega, rfl, HO, Lib.hid rfl, Lib.hid (fun X hX => by simp at hX), b4⟩
  case round =>
    clear HO b4
    obtain ⟨j, t, hj, rfl, HV, HE, HZ, hb⟩ := hrel
    have htl : t.length = j := evTo_len HE.out
    obtain ⟨A', c', ev⟩ := HV.out.form
    rw [htl] at ev
    subst ev
    have HTL2 := Lib.hid htl
    clear htl
    by_cases hj2 : j < nv
    · obtain ⟨b0, off, x, rfl, hlt, hxk, hok, c0, c1, c2, c3, c4, c5⟩ := (h3.below hb).at_ hj2
      obtain ⟨bv, ov, sy, Ay, ny, cy, Dy, my, dy, rfl, hlv, g0, g1, g2, qy⟩ := (HQV.out.below hb).at_ hj2
      have hp := pi_at hxk
      have hfit : fits vq nq x.pi j := by rw [← hp]; exact HPR.out.1 j (by rw [HL.out]; exact hj2)
      have hin2 : x.op = 1 → x.a.toNat < m := fun h1 => by have := HIN.out j hj2; rw [hp] at this; exact this h1
      obtain ⟨V, hW, Bx, hb1⟩ := box0 52 wr #[.int .i64 x.op, .int .i64 x.a, .int .i64 x.b, .bool x.q.s, .slice x.q.A x.q.n x.q.c, .slice x.q.A' x.q.n' x.q.c']
      have zy : Sz (v.getD j 0) 64 := zv.at_ (by have := HVL.out; omega)
      have EV := fun (w1 : World) (hb9 : Below V.heap.size V w1) => tg_value (x := x) (qy.below (bb hb1 hb9)) zy (HQV.out.below (bb hb (bb hb1 hb9))) (HV.out.slq.below (bb hb1 hb9)) (HQD.out.below (bb hb (bb hb1 hb9))) zv HZ.out zd (by omega) (by omega) (by omega) hfit (by omega) hin2
      obtain ⟨r, hr⟩ : ∃ r, tanR Ds x.pi (v.getD j 0) v t = r := ⟨_, rfl⟩
      rw [hr] at EV
      have hst : tanSt Ds v j ((xs.map RI.pi).getD j PI.nil) t = big r := by rw [hp]; unfold tanSt; rw [hr]
      have hsz : ∀ X, r = .ok X → Sz X 451 := fun X hX => tanR_sz (hr.trans hX) zy zv HZ.out zd
      have hre : ∀ e, r = .error e → e = 4 := fun e he => tanR_err (hr.trans he)
      have hS : ∀ w', Below V.heap.size V w' → (w'.cell? ⟨wr.heap.size, 0, none⟩ = some (.int .i64 x.op) ∧ w'.cell? ⟨wr.heap.size, 1, none⟩ = some (.int .i64 x.a) ∧ w'.cell? ⟨wr.heap.size, 2, none⟩ = some (.int .i64 x.b) ∧ w'.cell? ⟨wr.heap.size, 3, none⟩ = some (.bool x.q.s) ∧ w'.cell? ⟨wr.heap.size, 4, none⟩ = some (.slice x.q.A x.q.n x.q.c) ∧ w'.cell? ⟨wr.heap.size, 5, none⟩ = some (.slice x.q.A' x.q.n' x.q.c')) ∧ w'.cell? ⟨bv, ov + j * 3, none⟩ = some (.bool sy) ∧ w'.cell? ⟨bv, ov + j * 3 + 1, none⟩ = some (.slice Ay ny cy) ∧ w'.cell? ⟨bv, ov + j * 3 + 2, none⟩ = some (.slice Dy my dy) := fun w' hb9 =>
        ⟨(Bx.below' hb9).six.1, ((bb hb1 hb9).cell (p := ⟨bv, ov + j * 3, none⟩) hlv).trans g0, ((bb hb1 hb9).cell (p := ⟨bv, ov + j * 3 + 1, none⟩) hlv).trans g1, ((bb hb1 hb9).cell (p := ⟨bv, ov + j * 3 + 2, none⟩) hlv).trans g2⟩
      generalize v.getD j 0 = Y at *
      have HEV := Lib.hid EV
      have HST := Lib.hid hst
      have HS := Lib.hid hS
      have HW := Lib.hid hW
      clear EV hst hW Bx hr hfit hp hok hxk hS hin2 qy zy g0 g1 g2
      cases r with
      | error e =>
        have hRR : R = .error (j, e) := HR2.out _ (evTo_err (evTo_stop HE.out HST.out) nv (by omega))
        subst hRR
        obtain rfl := hre e rfl
        clear hre hsz
        go_wp2_with fail
        rw [HW.out]
        obtain ⟨⟨p0, p1, p2, p3, p4, p5⟩, p6, p7, p8⟩ := HS.out _ (Below.refl _ V)
        have HO := Lib.hid (show Below V.heap.size V (V.drew.alloc (.cells #[.bool false, .slice none 0 0, .slice none 0 0] 45)) from (Below.refl _ V).drew.alloc (Nat.le_refl _) _)
        go_region_held3 (fun w' => (w'.cell? ⟨wr.heap.size, 0, none⟩ = some (.int .i64 x.op) ∧ w'.cell? ⟨wr.heap.size, 1, none⟩ = some (.int .i64 x.a) ∧ w'.cell? ⟨wr.heap.size, 2, none⟩ = some (.int .i64 x.b) ∧ w'.cell? ⟨wr.heap.size, 3, none⟩ = some (.bool x.q.s) ∧ w'.cell? ⟨wr.heap.size, 4, none⟩ = some (.slice x.q.A x.q.n x.q.c) ∧ w'.cell? ⟨wr.heap.size, 5, none⟩ = some (.slice x.q.A' x.q.n' x.q.c')) ∧ w'.cell? ⟨bv, ov + j * 3, none⟩ = some (.bool sy) ∧ w'.cell? ⟨bv, ov + j * 3 + 1, none⟩ = some (.slice Ay ny cy) ∧ w'.cell? ⟨bv, ov + j * 3 + 2, none⟩ = some (.slice Dy my dy)) (first | with_reducible exact HS.out _ (Below.refl _ V).drew | exact HS.out _ HO.out | with_reducible exact HS.out _ (xk1.alloc xk1.size _) | with_reducible exact HS.out _ xk1 | exact HS.out _ (below_put3 xk1 (Nat.le_refl _) (Nat.le_refl _) (.bool false) (.slice none 0 0) (.slice none 0 0)) | fail)
          (first
            | (go_at_call 28; (with_reducible refine (HEV.out _ ?hb1).mono ?_); (case hb1 => first | exact (Below.refl _ V).drew | exact HO.out); rintro _ w1 ⟨rfl, bk1⟩; have xk1 : Below V.heap.size V w1 := (by first | exact Below.undrew bk1 | exact bb HO.out bk1); (first | (have Bq : Box 45 w1 V.heap.size #[.bool false, .slice none 0 0, .slice none 0 0] := ((Box.new V.drew _ #[.bool false, .slice none 0 0, .slice none 0 0]).below' bk1)) | (have Bq : True := trivial)); (first | (obtain ⟨⟨t0, t1, t2⟩, f0, f1, f2⟩ := Bq.three) | skip)))
        all_goals
          go_wp2_with fail
          refine bodyPost_ret (v := .tuple #[.slice none 0 0, .slice none 0 0, .int .i64 (j : Int), .int .i64 4]) (by simp [results, Tryz.results9, go_sem]) rfl ?_
          first
            | exact ⟨rfl, bb y3 (bb hb (bb hb1 (xk1.alloc xk1.size _)))⟩
            | exact ⟨rfl, bb y3 (bb hb (bb hb1 (below_put3 xk1 (Nat.le_refl _) (Nat.le_refl _) _ _ _)))⟩
      | ok X =>
        have hX := hsz X rfl
        clear hre hsz
        by_cases hbig : 4096 < bitsQ X
        · have hRR : R = .error (j, 5) := HR2.out _ (evTo_err (evTo_stop HE.out (HST.out.trans (big_no hbig))) nv (by omega))
          subst hRR
          go_wp2_with fail
          rw [HW.out]
          obtain ⟨⟨p0, p1, p2, p3, p4, p5⟩, p6, p7, p8⟩ := HS.out _ (Below.refl _ V)
          have HO := Lib.hid (show Below V.heap.size V (V.drew.alloc (.cells #[.bool false, .slice none 0 0, .slice none 0 0] 45)) from (Below.refl _ V).drew.alloc (Nat.le_refl _) _)
          go_region_held3 (fun w' => (w'.cell? ⟨wr.heap.size, 0, none⟩ = some (.int .i64 x.op) ∧ w'.cell? ⟨wr.heap.size, 1, none⟩ = some (.int .i64 x.a) ∧ w'.cell? ⟨wr.heap.size, 2, none⟩ = some (.int .i64 x.b) ∧ w'.cell? ⟨wr.heap.size, 3, none⟩ = some (.bool x.q.s) ∧ w'.cell? ⟨wr.heap.size, 4, none⟩ = some (.slice x.q.A x.q.n x.q.c) ∧ w'.cell? ⟨wr.heap.size, 5, none⟩ = some (.slice x.q.A' x.q.n' x.q.c')) ∧ w'.cell? ⟨bv, ov + j * 3, none⟩ = some (.bool sy) ∧ w'.cell? ⟨bv, ov + j * 3 + 1, none⟩ = some (.slice Ay ny cy) ∧ w'.cell? ⟨bv, ov + j * 3 + 2, none⟩ = some (.slice Dy my dy)) (first | with_reducible exact HS.out _ (Below.refl _ V).drew | exact HS.out _ HO.out | with_reducible exact HS.out _ (xk1.alloc xk1.size _) | with_reducible exact HS.out _ xk1 | exact HS.out _ (below_put3 xk1 (Nat.le_refl _) (Nat.le_refl _) (.bool s1) (.slice A1 n1 c1) (.slice D1 m1 d1)) | fail)
            (first
              | (go_at_call 28; (with_reducible refine (HEV.out _ ?hb1).mono ?_); (case hb1 => first | exact (Below.refl _ V).drew | exact HO.out); rintro _ w1 ⟨s1, A1, n1, c1, D1, m1, d1, rfl, q1, bk1⟩; have xk1 : Below V.heap.size V w1 := (by first | exact Below.undrew bk1 | exact bb HO.out bk1); (first | (have Bq : Box 45 w1 V.heap.size #[.bool false, .slice none 0 0, .slice none 0 0] := ((Box.new V.drew _ #[.bool false, .slice none 0 0, .slice none 0 0]).below' bk1)) | (have Bq : True := trivial)); (first | (obtain ⟨⟨t0, t1, t2⟩, f0, f1, f2⟩ := Bq.three) | skip)))
          all_goals
            first
              | (obtain ⟨w2, hV2⟩ : ∃ W, w1.alloc (.cells #[.bool s1, .slice A1 n1 c1, .slice D1 m1 d1] 45) = W := ⟨_, rfl⟩; rw [hV2]; have B2 : Box 45 w2 w1.heap.size #[.bool s1, .slice A1 n1 c1, .slice D1 m1 d1] := (by rw [← hV2]; exact Box.new w1 _ _); have x2 : Below V.heap.size V w2 := (by rw [← hV2]; exact xk1.alloc xk1.size _); have q2 : Q w2 s1 A1 n1 c1 D1 m1 d1 X := (by rw [← hV2]; exact q1.below (below_alloc _ _)); clear hV2)
              | (obtain ⟨w2, hV2⟩ : ∃ W, ((w1.setCell ⟨V.heap.size, 0, none⟩ (.bool s1)).setCell ⟨V.heap.size, 1, none⟩ (.slice A1 n1 c1)).setCell ⟨V.heap.size, 2, none⟩ (.slice D1 m1 d1) = W := ⟨_, rfl⟩; rw [hV2]; have B2 : Box 45 w2 V.heap.size #[.bool s1, .slice A1 n1 c1, .slice D1 m1 d1] := (by rw [← hV2]; exact box_self Bq (.bool s1) (.slice A1 n1 c1) (.slice D1 m1 d1)); have x2 : Below V.heap.size V w2 := (by rw [← hV2]; exact below_put3 xk1 (Nat.le_refl _) (Nat.le_refl _) _ _ _); have q2 : Q w2 s1 A1 n1 c1 D1 m1 d1 X := (by rw [← hV2]; exact q1.put3 (x0 := .bool s1) (x1 := .slice A1 n1 c1) (x2 := .slice D1 m1 d1) ⟨_, _, _, _, _, _, _, Bq⟩); clear hV2)
            have TL := tg_tooLong q2 hX (by omega)
            rw [decide_eq_true hbig] at TL
            obtain ⟨b0, b1, b2⟩ := B2.three.1
            have HTL := Lib.hid TL
            clear TL
            go_wp2_with fail
            with_reducible refine HTL.out.mono ?_
            rintro _ w3 ⟨rfl, b3⟩
            go_wp2_with fail
            refine bodyPost_ret (v := .tuple #[.slice none 0 0, .slice none 0 0, .int .i64 (j : Int), .int .i64 5]) (by simp [results, Tryz.results9, go_sem]) rfl ?_
            exact ⟨rfl, bb y3 (bb hb (bb hb1 (bb x2 b3)))⟩
        · have hst2 := HST.out.trans (big_yes hbig)
          have HEV2 := Lib.hid (evTo_step HE.out hst2)
          have HZ2 := Lib.hid (HZ.out.snoc (sz_of_bits hbig))
          clear hst2 HST
          go_wp2_with fail
          rw [HW.out]
          obtain ⟨⟨p0, p1, p2, p3, p4, p5⟩, p6, p7, p8⟩ := HS.out _ (Below.refl _ V)
          have HO := Lib.hid (show Below V.heap.size V (V.drew.alloc (.cells #[.bool false, .slice none 0 0, .slice none 0 0] 45)) from (Below.refl _ V).drew.alloc (Nat.le_refl _) _)
          go_region_held3 (fun w' => (w'.cell? ⟨wr.heap.size, 0, none⟩ = some (.int .i64 x.op) ∧ w'.cell? ⟨wr.heap.size, 1, none⟩ = some (.int .i64 x.a) ∧ w'.cell? ⟨wr.heap.size, 2, none⟩ = some (.int .i64 x.b) ∧ w'.cell? ⟨wr.heap.size, 3, none⟩ = some (.bool x.q.s) ∧ w'.cell? ⟨wr.heap.size, 4, none⟩ = some (.slice x.q.A x.q.n x.q.c) ∧ w'.cell? ⟨wr.heap.size, 5, none⟩ = some (.slice x.q.A' x.q.n' x.q.c')) ∧ w'.cell? ⟨bv, ov + j * 3, none⟩ = some (.bool sy) ∧ w'.cell? ⟨bv, ov + j * 3 + 1, none⟩ = some (.slice Ay ny cy) ∧ w'.cell? ⟨bv, ov + j * 3 + 2, none⟩ = some (.slice Dy my dy)) (first | with_reducible exact HS.out _ (Below.refl _ V).drew | exact HS.out _ HO.out | with_reducible exact HS.out _ (xk1.alloc xk1.size _) | with_reducible exact HS.out _ xk1 | exact HS.out _ (below_put3 xk1 (Nat.le_refl _) (Nat.le_refl _) (.bool s1) (.slice A1 n1 c1) (.slice D1 m1 d1)) | fail)
            (first
              | (go_at_call 28; (with_reducible refine (HEV.out _ ?hb1).mono ?_); (case hb1 => first | exact (Below.refl _ V).drew | exact HO.out); rintro _ w1 ⟨s1, A1, n1, c1, D1, m1, d1, rfl, q1, bk1⟩; have xk1 : Below V.heap.size V w1 := (by first | exact Below.undrew bk1 | exact bb HO.out bk1); (first | (have Bq : Box 45 w1 V.heap.size #[.bool false, .slice none 0 0, .slice none 0 0] := ((Box.new V.drew _ #[.bool false, .slice none 0 0, .slice none 0 0]).below' bk1)) | (have Bq : True := trivial)); (first | (obtain ⟨⟨t0, t1, t2⟩, f0, f1, f2⟩ := Bq.three) | skip)))
          all_goals
            first
              | (obtain ⟨w2, hV2⟩ : ∃ W, w1.alloc (.cells #[.bool s1, .slice A1 n1 c1, .slice D1 m1 d1] 45) = W := ⟨_, rfl⟩; rw [hV2]; have B2 : Box 45 w2 w1.heap.size #[.bool s1, .slice A1 n1 c1, .slice D1 m1 d1] := (by rw [← hV2]; exact Box.new w1 _ _); have x2 : Below V.heap.size V w2 := (by rw [← hV2]; exact xk1.alloc xk1.size _); have q2 : Q w2 s1 A1 n1 c1 D1 m1 d1 X := (by rw [← hV2]; exact q1.below (below_alloc _ _)); clear hV2)
              | (obtain ⟨w2, hV2⟩ : ∃ W, ((w1.setCell ⟨V.heap.size, 0, none⟩ (.bool s1)).setCell ⟨V.heap.size, 1, none⟩ (.slice A1 n1 c1)).setCell ⟨V.heap.size, 2, none⟩ (.slice D1 m1 d1) = W := ⟨_, rfl⟩; rw [hV2]; have B2 : Box 45 w2 V.heap.size #[.bool s1, .slice A1 n1 c1, .slice D1 m1 d1] := (by rw [← hV2]; exact box_self Bq (.bool s1) (.slice A1 n1 c1) (.slice D1 m1 d1)); have x2 : Below V.heap.size V w2 := (by rw [← hV2]; exact below_put3 xk1 (Nat.le_refl _) (Nat.le_refl _) _ _ _); have q2 : Q w2 s1 A1 n1 c1 D1 m1 d1 X := (by rw [← hV2]; exact q1.put3 (x0 := .bool s1) (x1 := .slice A1 n1 c1) (x2 := .slice D1 m1 d1) ⟨_, _, _, _, _, _, _, Bq⟩); clear hV2)
            have TL := tg_tooLong q2 hX (by omega)
            rw [decide_eq_false (show ¬ (4096 : Int) < bitsQ X by omega)] at TL
            have HB2 := Lib.hid B2
            obtain ⟨b0, b1, b2⟩ := B2.three.1
            have HTL := Lib.hid TL
            clear TL B2
            go_wp2_with fail
            with_reducible refine HTL.out.mono ?_
            rintro _ w5 ⟨rfl, b3⟩
            have x5 : Below V.heap.size V w5 := bb x2 b3
            obtain ⟨e0, e1, e2⟩ := (HB2.out.below' b3).three.1
            have q5 := q2.below b3
            obtain ⟨vs, o1, o2, o3⟩ := HV.out.below (bb hb1 x5)
            have y5 : Below w3.heap.size w3 w5 := bb hb (bb hb1 x5)
            have hvs : vs.length = j := by rw [o2]; exact HTL2.out
            have hok2 : (⟨s1, A1, n1, c1, (words X.num.natAbs), D1, m1, d1, (words X.den)⟩ : RQ).ok w5 := ⟨q5.2.1, q5.2.2, show n1 ≤ maxLen by have := q5.2.1.small hX.1; unfold maxLen; omega, show m1 ≤ maxLen by have := q5.2.2.small hX.2; unfold maxLen; omega⟩
            have HO1 := Lib.hid o1
            have HO2 := Lib.hid o2
            have HO3 := Lib.hid o3
            have HVS := Lib.hid hvs
            have HQ5 := Lib.hid q5
            have HOK := Lib.hid hok2
            clear o1 o2 o3 hvs q5 hok2 q2 q1
            go_wp2_with (at_builtin; refine wpList_append_C _ rfl _ _ 23 rfl w3.heap.size 45 i0 _ 56 Tryz.underlying23 hi0 hz0 hz1 hz2 rfl (by decide) zeroQ _ vs rfl (HO1.out.below (below_alloc _ _)) ⟨w5.heap.size, 0, none⟩ 1 (⟨s1, A1, n1, c1, (words X.num.natAbs), D1, m1, d1, (words X.den)⟩ : RQ) rfl rfl ?c1 (rq_one _) (rq_noW _) ?c3 ?c4 ?c5 ?_)
            case c1 => exact news_new w5 _ _
            case c3 => have := HVS.out; unfold maxLen; omega
            case c4 => have := HVS.out; omega
            case c5 => have := y5.size; simp; omega
            intro v' w6 hown hgrow
            have hbn := (y5.alloc y5.size _).grown hgrow (by have := y5.size; simp; omega) (HO1.out.base)
            have HOQ := Lib.hid (OwnQ.append HO1.out HO2.out HO3.out HOK.out HQ5.out hown hgrow)
            clear hown hgrow
            go_wp2_with fail
            go_roundw
            case rel => exact ⟨j + 1, t ++ [X], by omega, by go_num, HOQ, HEV2, HZ2, hbn⟩
            case measure => simp [mes, intOf]; omega
    · obtain rfl : j = nv := by omega
      have hRR : R = .ok (v, t) := HR1.out t HE.out
      subst hRR
      go_wp2_with fail
      refine bodyPost_ret (v := .tuple #[.slice Av j cv, .slice A' j c', .int .i64 0, .int .i64 0]) (by simp [results, Tryz.results9, go_sem]) rfl ?_
      exact ⟨⟨_, _, _, _, _, _, rfl, HQV.out.below hb, HV.out.slq⟩, bb y3 hb⟩

end Go.Proofs.YtfhihapgjiaobaaGreat

namespace Go.Proofs.YtfhihapgjiaobaaGreat
set_option maxRecDepth 100000
open Go.RowKit
set_option linter.unusedVariables false
set_option linter.unusedSimpArgs false

set_option maxRecDepth 100000 in
set_option maxHeartbeats 4000000 in
theorem rf_twice {w : World} {s : Bool} {A A' : Option Addr} {n n' c c' N : Nat} {X : Rat} (h : Q w s A n c A' n' c' X) (hX : Sz X N) (hN : N ≤ 400) :
    Calls Tryz.prog 81 #[.agg #[.bool s, .slice A n c, .slice A' n' c']] w (RetQ (X + X) w) := by
  obtain ⟨V, hW, Ba, Br, hb0⟩ := boxes1 45 w #[.bool s, .slice A n c, .slice A' n' c'] #[.bool false, .slice none 0 0, .slice none 0 0]
  have K := ref_qadd (h.below hb0) (h.below hb0) hX hX hN
  have HK := Lib.hid K
  have HBr := Lib.hid Br
  have HW := Lib.hid hW
  clear K Ba Br hW h
  go_enter Tryz.func81, Tryz.ntmps81
  go_wp2_with fail
  rw [HW.out]
  with_reducible refine HK.out.mono ?_
  rintro _ w1 ⟨s1, A1, n1, c1, D1, m1, d1, rfl, q1, b1⟩
  have B9 := HBr.out.below' b1
  obtain ⟨⟨r0, r1, r2⟩, f0, f1, f2⟩ := B9.three
  go_wp2_with fail
  refine bodyPost_ret (v := .agg #[.bool s1, .slice A1 n1 c1, .slice D1 m1 d1]) (by simp [results, Tryz.results81, go_sem, r0, r1, r2]) rfl ?_
  exact ⟨_, _, _, _, _, _, _, rfl, q1.put3 ⟨_, _, _, _, _, _, _, B9⟩, below_put3 (bb hb0 b1) (by omega) (Nat.le_refl _) _ _ _⟩

theorem boxesV (t1 t2 t3 t4 t5 : TypeId) (w : World) (v1 v2 v3 v4 v5 : Array Value) : ∃ W, ((((w.alloc (.cells v1 t1)).alloc (.cells v2 t2)).alloc (.cells v3 t3)).alloc (.cells v4 t4)).alloc (.cells v5 t5) = W ∧
    Box t1 W w.heap.size v1 ∧ Box t2 W (w.heap.size + 1) v2 ∧ Box t3 W (w.heap.size + 1 + 1) v3 ∧ Box t4 W (w.heap.size + 1 + 1 + 1) v4 ∧ Box t5 W (w.heap.size + 1 + 1 + 1 + 1) v5 ∧ Below w.heap.size w W ∧ W.heap.size = w.heap.size + 1 + 1 + 1 + 1 + 1 := by
  have e2 : (w.alloc (.cells v1 t1)).heap.size = w.heap.size + 1 := by simp
  have e3 : ((w.alloc (.cells v1 t1)).alloc (.cells v2 t2)).heap.size = w.heap.size + 1 + 1 := by simp
  have e4 : (((w.alloc (.cells v1 t1)).alloc (.cells v2 t2)).alloc (.cells v3 t3)).heap.size = w.heap.size + 1 + 1 + 1 := by simp
  have e5 : ((((w.alloc (.cells v1 t1)).alloc (.cells v2 t2)).alloc (.cells v3 t3)).alloc (.cells v4 t4)).heap.size = w.heap.size + 1 + 1 + 1 + 1 := by simp
  refine ⟨_, rfl, ((((Box.new w t1 v1).alloc _).alloc _).alloc _).alloc _, ?_, ?_, ?_, ?_, ?_, by simp⟩
  · rw [← e2]; exact (((Box.new _ t2 v2).alloc _).alloc _).alloc _
  · rw [← e3]; exact ((Box.new _ t3 v3).alloc _).alloc _
  · rw [← e4]; exact (Box.new _ t4 v4).alloc _
  · rw [← e5]; exact Box.new _ t5 v5
  · exact ((((below_alloc _ _).alloc (by simp) _).alloc (by simp; omega) _).alloc (by simp; omega) _).alloc (by simp; omega) _

end Go.Proofs.YtfhihapgjiaobaaGreat

namespace Go.Proofs.YtfhihapgjiaobaaGreat
set_option maxRecDepth 100000
open Go.RowKit
set_option linter.unusedVariables false
set_option linter.unusedSimpArgs false

/-- two numbers (the second one only where it counts) and no error -/
def RetGv (two : Bool) (X Y : Rat) (w : World) (e : Ending) (w' : World) : Prop :=
  ∃ s A n c D m d s' A' n' c' D' m' d', e = .returned (.tuple #[.agg #[.bool s, .slice A n c, .slice D m d], .agg #[.bool s', .slice A' n' c', .slice D' m' d'], .int .i64 0]) ∧ Q w' s A n c D m d X ∧ (two = true → Q w' s' A' n' c' D' m' d' Y) ∧ Below w.heap.size w w'
def RetGvNo (w : World) (e : Ending) (w' : World) : Prop := e = .returned (.tuple #[.agg #[.bool false, .slice none 0 0, .slice none 0 0], .agg #[.bool false, .slice none 0 0, .slice none 0 0], .int .i64 4]) ∧ Below w.heap.size w w'
theorem boxesW (t1 t2 t3 t4 t5 t6 : TypeId) (w : World) (v1 v2 v3 v4 v5 v6 : Array Value) : ∃ W, (((((w.alloc (.cells v1 t1)).alloc (.cells v2 t2)).alloc (.cells v3 t3)).alloc (.cells v4 t4)).alloc (.cells v5 t5)).alloc (.cells v6 t6) = W ∧
    Box t1 W w.heap.size v1 ∧ Box t2 W (w.heap.size + 1) v2 ∧ Box t3 W (w.heap.size + 1 + 1) v3 ∧ Box t4 W (w.heap.size + 1 + 1 + 1) v4 ∧ Box t5 W (w.heap.size + 1 + 1 + 1 + 1) v5 ∧ Box t6 W (w.heap.size + 1 + 1 + 1 + 1 + 1) v6 ∧ Below w.heap.size w W ∧ W.heap.size = w.heap.size + 1 + 1 + 1 + 1 + 1 + 1 := by
  obtain ⟨W, h, h1, h2, h3, h4, h5, hb, hs⟩ := boxesV t1 t2 t3 t4 t5 w v1 v2 v3 v4 v5
  refine ⟨_, rfl, ?_⟩
  rw [h]
  have h6 := Box.new W t6 v6
  rw [hs] at h6
  exact ⟨h1.alloc _, h2.alloc _, h3.alloc _, h4.alloc _, h5.alloc _, h6, hb.alloc hb.size _, by simp [hs]⟩
/-- two numbers are stored into two boxes: what lies elsewhere stays -/
theorem two_puts {t : TypeId} {a w : World} {g1 g2 : Nat} {y0 y1 y2 z0 z1 z2 : Value} {s s' : Bool} {A A' D D' : Option Addr} {n c m d n' c' m' d' : Nat} (B1 : Box t w g1 #[.bool s, .slice A n c, .slice D m d]) (B2 : Box t w g2 #[.bool s', .slice A' n' c', .slice D' m' d']) (hne : g2 ≠ g1) (hb : Below a.heap.size a w) (h1 : a.heap.size ≤ g1) (h2 : a.heap.size ≤ g2) :
    (∀ s A n c D m d X, Q w s A n c D m d X → Q (put3 (put3 w g1 y0 y1 y2) g2 z0 z1 z2) s A n c D m d X) ∧ Below a.heap.size a (put3 (put3 w g1 y0 y1 y2) g2 z0 z1 z2) :=
  ⟨fun _ _ _ _ _ _ _ _ q => Q.put3 (t := t) ⟨_, _, _, _, _, _, _, B2.put3 hne _ _ _⟩ (Q.put3 (t := t) ⟨_, _, _, _, _, _, _, B1⟩ q), below_put3 (below_put3 hb h1 (Nat.le_refl _) _ _ _) h2 (Nat.le_refl _) _ _ _⟩

set_option maxRecDepth 100000 in
set_option maxHeartbeats 8000000 in
theorem gv_neg {w : World} {s_y : Bool} {A_y D_y : Option Addr} {n_y c_y m_y d_y : Nat} {X_y : Rat} {s_va : Bool} {A_va D_va : Option Addr} {n_va c_va m_va d_va : Nat} {X_va : Rat} {s_vb : Bool} {A_vb D_vb : Option Addr} {n_vb c_vb m_vb d_vb : Nat} {X_vb : Rat} {s_g : Bool} {A_g D_g : Option Addr} {n_g c_g m_g d_g : Nat} {X_g : Rat} {q : RQ} {a b : Int} (q_y : Q w s_y A_y n_y c_y D_y m_y d_y X_y) (z_y : Sz X_y 64) (q_va : Q w s_va A_va n_va c_va D_va m_va d_va X_va) (z_va : Sz X_va 64) (q_vb : Q w s_vb A_vb n_vb c_vb D_vb m_vb d_vb X_vb) (z_vb : Sz X_vb 64) (q_g : Q w s_g A_g n_g c_g D_g m_g d_g X_g) (z_g : Sz X_g 64) :
    Calls Tryz.prog 44 #[.agg #[.int .i64 3, .int .i64 a, .int .i64 b, .bool q.s, .slice q.A q.n q.c, .slice q.A' q.n' q.c'], .agg #[.bool s_y, .slice A_y n_y c_y, .slice D_y m_y d_y], .agg #[.bool s_va, .slice A_va n_va c_va, .slice D_va m_va d_va, .bool s_vb, .slice A_vb n_vb c_vb, .slice D_vb m_vb d_vb], .agg #[.bool s_g, .slice A_g n_g c_g, .slice D_g m_g d_g]] w (RetGv false (-X_g) 0 w) := by
  obtain ⟨V, hW, Bx, By, Bv, Bg, Br, Bs, hb0, hsz⟩ := boxesW 52 45 74 45 45 45 w #[.int .i64 3, .int .i64 a, .int .i64 b, .bool q.s, .slice q.A q.n q.c, .slice q.A' q.n' q.c'] #[.bool s_y, .slice A_y n_y c_y, .slice D_y m_y d_y] #[.bool s_va, .slice A_va n_va c_va, .slice D_va m_va d_va, .bool s_vb, .slice A_vb n_vb c_vb, .slice D_vb m_vb d_vb] #[.bool s_g, .slice A_g n_g c_g, .slice D_g m_g d_g] #[.bool false, .slice none 0 0, .slice none 0 0] #[.bool false, .slice none 0 0, .slice none 0 0]
  have K := ref_neg (q_g.below hb0) z_g (by omega)
  have HK := Lib.hid K
  have HBr := Lib.hid Br
  have HBs := Lib.hid Bs
  have HW := Lib.hid hW
  clear K Bx By Bv Bg Br Bs hW q_y q_va q_vb q_g
  go_enter Tryz.func44, Tryz.ntmps44
  go_wp2_with fail
  rw [HW.out]
  with_reducible refine HK.out.mono ?_
  rintro _ w1 ⟨s1, A1, n1, c1, E1, m1, d1, rfl, q1, b1⟩
  have x1 : Below V.heap.size V w1 := b1
  have B9 := HBr.out.below' x1
  have C9 := HBs.out.below' x1
  obtain ⟨⟨r0, r1, r2⟩, f0, f1, f2⟩ := B9.three
  obtain ⟨⟨u0, u1, u2⟩, g0, g1, g2⟩ := C9.three
  go_wp2_with fail
  refine bodyPost_ret (v := .tuple #[.agg #[.bool s1, .slice A1 n1 c1, .slice E1 m1 d1], .agg #[.bool false, .slice none 0 0, .slice none 0 0], .int .i64 0]) (by simp [results, Tryz.results44, go_sem, r0, r1, r2, u0, u1, u2]) rfl ?_
  obtain ⟨P9, x9⟩ := two_puts (y0 := .bool s1) (y1 := .slice A1 n1 c1) (y2 := .slice E1 m1 d1) (z0 := .bool false) (z1 := .slice none 0 0) (z2 := .slice none 0 0) B9 C9 (by omega) (bb hb0 x1) (by omega) (by omega)
  exact ⟨_, _, _, _, _, _, _, _, _, _, _, _, _, _, rfl, P9 _ _ _ _ _ _ _ _ q1, (fun h9 => by cases h9), x9⟩

set_option maxRecDepth 100000 in
set_option maxHeartbeats 8000000 in
theorem gv_exp {w : World} {s_y : Bool} {A_y D_y : Option Addr} {n_y c_y m_y d_y : Nat} {X_y : Rat} {s_va : Bool} {A_va D_va : Option Addr} {n_va c_va m_va d_va : Nat} {X_va : Rat} {s_vb : Bool} {A_vb D_vb : Option Addr} {n_vb c_vb m_vb d_vb : Nat} {X_vb : Rat} {s_g : Bool} {A_g D_g : Option Addr} {n_g c_g m_g d_g : Nat} {X_g : Rat} {q : RQ} {a b : Int} (q_y : Q w s_y A_y n_y c_y D_y m_y d_y X_y) (z_y : Sz X_y 64) (q_va : Q w s_va A_va n_va c_va D_va m_va d_va X_va) (z_va : Sz X_va 64) (q_vb : Q w s_vb A_vb n_vb c_vb D_vb m_vb d_vb X_vb) (z_vb : Sz X_vb 64) (q_g : Q w s_g A_g n_g c_g D_g m_g d_g X_g) (z_g : Sz X_g 64) :
    Calls Tryz.prog 44 #[.agg #[.int .i64 9, .int .i64 a, .int .i64 b, .bool q.s, .slice q.A q.n q.c, .slice q.A' q.n' q.c'], .agg #[.bool s_y, .slice A_y n_y c_y, .slice D_y m_y d_y], .agg #[.bool s_va, .slice A_va n_va c_va, .slice D_va m_va d_va, .bool s_vb, .slice A_vb n_vb c_vb, .slice D_vb m_vb d_vb], .agg #[.bool s_g, .slice A_g n_g c_g, .slice D_g m_g d_g]] w (RetGv false (X_g * X_y) 0 w) := by
  obtain ⟨V, hW, Bx, By, Bv, Bg, Br, Bs, hb0, hsz⟩ := boxesW 52 45 74 45 45 45 w #[.int .i64 9, .int .i64 a, .int .i64 b, .bool q.s, .slice q.A q.n q.c, .slice q.A' q.n' q.c'] #[.bool s_y, .slice A_y n_y c_y, .slice D_y m_y d_y] #[.bool s_va, .slice A_va n_va c_va, .slice D_va m_va d_va, .bool s_vb, .slice A_vb n_vb c_vb, .slice D_vb m_vb d_vb] #[.bool s_g, .slice A_g n_g c_g, .slice D_g m_g d_g] #[.bool false, .slice none 0 0, .slice none 0 0] #[.bool false, .slice none 0 0, .slice none 0 0]
  have K := ref_qmul (q_g.below hb0) (q_y.below hb0) z_g z_y (by omega)
  have HK := Lib.hid K
  have HBr := Lib.hid Br
  have HBs := Lib.hid Bs
  have HW := Lib.hid hW
  clear K Bx By Bv Bg Br Bs hW q_y q_va q_vb q_g
  go_enter Tryz.func44, Tryz.ntmps44
  go_wp2_with fail
  rw [HW.out]
  with_reducible refine HK.out.mono ?_
  rintro _ w1 ⟨s1, A1, n1, c1, E1, m1, d1, rfl, q1, b1⟩
  have x1 : Below V.heap.size V w1 := b1
  have B9 := HBr.out.below' x1
  have C9 := HBs.out.below' x1
  obtain ⟨⟨r0, r1, r2⟩, f0, f1, f2⟩ := B9.three
  obtain ⟨⟨u0, u1, u2⟩, g0, g1, g2⟩ := C9.three
  go_wp2_with fail
  refine bodyPost_ret (v := .tuple #[.agg #[.bool s1, .slice A1 n1 c1, .slice E1 m1 d1], .agg #[.bool false, .slice none 0 0, .slice none 0 0], .int .i64 0]) (by simp [results, Tryz.results44, go_sem, r0, r1, r2, u0, u1, u2]) rfl ?_
  obtain ⟨P9, x9⟩ := two_puts (y0 := .bool s1) (y1 := .slice A1 n1 c1) (y2 := .slice E1 m1 d1) (z0 := .bool false) (z1 := .slice none 0 0) (z2 := .slice none 0 0) B9 C9 (by omega) (bb hb0 x1) (by omega) (by omega)
  exact ⟨_, _, _, _, _, _, _, _, _, _, _, _, _, _, rfl, P9 _ _ _ _ _ _ _ _ q1, (fun h9 => by cases h9), x9⟩

end Go.Proofs.YtfhihapgjiaobaaGreat

namespace Go.Proofs.YtfhihapgjiaobaaGreat
set_option maxRecDepth 100000
open Go.RowKit
set_option linter.unusedVariables false
set_option linter.unusedSimpArgs false


set_option maxRecDepth 100000 in
set_option maxHeartbeats 8000000 in
theorem gv_add {w : World} {s_y : Bool} {A_y D_y : Option Addr} {n_y c_y m_y d_y : Nat} {X_y : Rat} {s_va : Bool} {A_va D_va : Option Addr} {n_va c_va m_va d_va : Nat} {X_va : Rat} {s_vb : Bool} {A_vb D_vb : Option Addr} {n_vb c_vb m_vb d_vb : Nat} {X_vb : Rat} {s_g : Bool} {A_g D_g : Option Addr} {n_g c_g m_g d_g : Nat} {X_g : Rat} {q : RQ} {a b : Int} (q_y : Q w s_y A_y n_y c_y D_y m_y d_y X_y) (z_y : Sz X_y 64) (q_va : Q w s_va A_va n_va c_va D_va m_va d_va X_va) (z_va : Sz X_va 64) (q_vb : Q w s_vb A_vb n_vb c_vb D_vb m_vb d_vb X_vb) (z_vb : Sz X_vb 64) (q_g : Q w s_g A_g n_g c_g D_g m_g d_g X_g) (z_g : Sz X_g 64) :
    Calls Tryz.prog 44 #[.agg #[.int .i64 4, .int .i64 a, .int .i64 b, .bool q.s, .slice q.A q.n q.c, .slice q.A' q.n' q.c'], .agg #[.bool s_y, .slice A_y n_y c_y, .slice D_y m_y d_y], .agg #[.bool s_va, .slice A_va n_va c_va, .slice D_va m_va d_va, .bool s_vb, .slice A_vb n_vb c_vb, .slice D_vb m_vb d_vb], .agg #[.bool s_g, .slice A_g n_g c_g, .slice D_g m_g d_g]] w (RetGv true X_g X_g w) := by
  obtain ⟨V, hW, Bx, By, Bv, Bg, Br, Bs, hb0, hsz⟩ := boxesW 52 45 74 45 45 45 w #[.int .i64 4, .int .i64 a, .int .i64 b, .bool q.s, .slice q.A q.n q.c, .slice q.A' q.n' q.c'] #[.bool s_y, .slice A_y n_y c_y, .slice D_y m_y d_y] #[.bool s_va, .slice A_va n_va c_va, .slice D_va m_va d_va, .bool s_vb, .slice A_vb n_vb c_vb, .slice D_vb m_vb d_vb] #[.bool s_g, .slice A_g n_g c_g, .slice D_g m_g d_g] #[.bool false, .slice none 0 0, .slice none 0 0] #[.bool false, .slice none 0 0, .slice none 0 0]
  have hS : ∀ w', Below V.heap.size V w' → w'.cell? ⟨w.heap.size, 0, none⟩ = some (.int .i64 4) ∧ w'.cell? ⟨w.heap.size + 1 + 1 + 1, 0, none⟩ = some (.bool s_g) ∧ w'.cell? ⟨w.heap.size + 1 + 1 + 1, 1, none⟩ = some (.slice A_g n_g c_g) ∧ w'.cell? ⟨w.heap.size + 1 + 1 + 1, 2, none⟩ = some (.slice D_g m_g d_g) := fun w' hb => ⟨(Bx.below' hb).six.1.1, (Bg.below' hb).three.1.1, (Bg.below' hb).three.1.2.1, (Bg.below' hb).three.1.2.2⟩
  have H_g := Lib.hid (fun (w1 : World) (hb : Below V.heap.size V w1) => q_g.below (bb hb0 hb))
  have HBr := Lib.hid Br
  have HBs := Lib.hid Bs
  have HW := Lib.hid hW
  have HS := Lib.hid hS
  clear hS Bx By Bv Bg Br Bs hW q_y q_va q_vb q_g
  go_enter Tryz.func44, Tryz.ntmps44
  go_wp2_with fail
  rw [HW.out]
  obtain ⟨p0, p1, p2, p3⟩ := HS.out _ (Below.refl _ V)
  have B9 := HBr.out.below' (Below.refl _ V)
  have C9 := HBs.out.below' (Below.refl _ V)
  obtain ⟨⟨r0, r1, r2⟩, f0, f1, f2⟩ := B9.three
  obtain ⟨⟨u0, u1, u2⟩, g0, g1, g2⟩ := C9.three
  go_region
  all_goals
    go_wp2_with fail
    have x1 := Below.refl V.heap.size V
    have q1 := H_g.out _ x1
    refine bodyPost_ret (v := .tuple #[.agg #[.bool s_g, .slice A_g n_g c_g, .slice D_g m_g d_g], .agg #[.bool s_g, .slice A_g n_g c_g, .slice D_g m_g d_g], .int .i64 0]) (by simp [results, Tryz.results44, go_sem, r0, r1, r2, u0, u1, u2]) rfl ?_
    obtain ⟨P9, x9⟩ := two_puts (y0 := .bool s_g) (y1 := .slice A_g n_g c_g) (y2 := .slice D_g m_g d_g) (z0 := .bool s_g) (z1 := .slice A_g n_g c_g) (z2 := .slice D_g m_g d_g) B9 C9 (by omega) (bb hb0 x1) (by omega) (by omega)
    have d9 := (Below.refl (put3 (put3 V (w.heap.size + 1 + 1 + 1 + 1) (.bool s_g) (.slice A_g n_g c_g) (.slice D_g m_g d_g)) (w.heap.size + 1 + 1 + 1 + 1 + 1) (.bool s_g) (.slice A_g n_g c_g) (.slice D_g m_g d_g)).heap.size (put3 (put3 V (w.heap.size + 1 + 1 + 1 + 1) (.bool s_g) (.slice A_g n_g c_g) (.slice D_g m_g d_g)) (w.heap.size + 1 + 1 + 1 + 1 + 1) (.bool s_g) (.slice A_g n_g c_g) (.slice D_g m_g d_g))).drew
    exact ⟨_, _, _, _, _, _, _, _, _, _, _, _, _, _, rfl, (P9 _ _ _ _ _ _ _ _ q1).below d9, fun _ => (P9 _ _ _ _ _ _ _ _ q1).below d9, bb x9 d9⟩

end Go.Proofs.YtfhihapgjiaobaaGreat
