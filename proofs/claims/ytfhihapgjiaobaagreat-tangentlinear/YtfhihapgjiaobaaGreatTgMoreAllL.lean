/-
  Rows of exact numbers that are stored into, element by element. No Go function in sight. Conditions: as each lemma says.
-/
import Derived.Test.YtfhihapgjiaobaaGreatTgMathAllL
import Derived.Test.YtfhihapgjiaobaaGreatTgAOneL
namespace Go.Proofs.YtfhihapgjiaobaaGreat
set_option maxRecDepth 100000
open Go.RowKit
set_option linter.unusedVariables false
set_option linter.unusedSimpArgs false

theorem inputs_ge {l : List PI} {i : Nat} : ∀ {n : Nat}, i < n → (l.getD i PI.nil).op = 1 → (l.getD i PI.nil).a < 65536 → (l.getD i PI.nil).a + 1 ≤ inputsTo l n := by
  intro n
  induction n with
  | zero => intro h; omega
  | succ n ih =>
    intro h h1 h2
    unfold inputsTo
    rcases Nat.lt_or_eq_of_le (Nat.le_of_lt_succ h) with g | g
    · have := ih g h1 h2
      split <;> omega
    · subst g
      rw [if_pos ⟨h1, h2⟩]
      omega
theorem prog_inputs {l : List PI} (h : IsProg vq nq l) : ∀ i, i < l.length → (l.getD i PI.nil).op = 1 → (l.getD i PI.nil).a.toNat < (inputsTo l l.length).toNat := by
  intro i hi h1
  have hf := h.1 i hi
  have h2 : 0 ≤ (l.getD i PI.nil).a ∧ (l.getD i PI.nil).a < 65536 := by
    generalize l.getD i PI.nil = x at *
    obtain ⟨op, a, b, q⟩ := x
    have h1' : op = 1 := h1
    subst h1'
    exact fit_in hf
  have := inputs_ge hi h1 h2.2
  omega
theorem sz_one : Sz 1 1 := ⟨by decide, by decide⟩
/-- how great the factors are with which an instruction gives on -/
theorem tden_sz {x : PI} {y : Rat} {v : List Rat} (hy : Sz y 64) (hv : AllSz 64 v) : Sz (tden x y v) 129 := by
  have h0 : ∀ j, Sz (v.getD j 0) 129 := fun j => by
    rcases Nat.lt_or_ge j v.length with h | h
    · exact (hv.at_ h).mono (by omega)
    · rw [List.getD_eq_getElem?_getD, List.getElem?_eq_none h]; exact sz_zero 129 (by omega)
  unfold tden
  split
  · exact h0 _
  split
  · exact (hy.add hy).mono (by omega)
  split
  · exact h0 _
  · exact sz_one.mono (by omega)
theorem dA_sz {x : PI} {y : Rat} {v : List Rat} (hy : Sz y 64) (hv : AllSz 64 v) : Sz (dA x y v) 129 := by
  have h0 : ∀ j, Sz (v.getD j 0) 129 := fun j => by
    rcases Nat.lt_or_ge j v.length with h | h
    · exact (hv.at_ h).mono (by omega)
    · rw [List.getD_eq_getElem?_getD, List.getElem?_eq_none h]; exact sz_zero 129 (by omega)
  unfold dA
  split
  · exact sz_one.neg.mono (by omega)
  split
  · exact sz_one.mono (by omega)
  split
  · exact sz_one.mono (by omega)
  split
  · exact h0 _
  split
  · exact hy.mono (by omega)
  · exact (tden_sz hy hv).inv
theorem dB_sz {x : PI} {y : Rat} {v : List Rat} (hy : Sz y 64) (hv : AllSz 64 v) : Sz (dB x y v) 193 := by
  have h0 : ∀ j, Sz (v.getD j 0) 193 := fun j => by
    rcases Nat.lt_or_ge j v.length with h | h
    · exact (hv.at_ h).mono (by omega)
    · rw [List.getD_eq_getElem?_getD, List.getElem?_eq_none h]; exact sz_zero 193 (by omega)
  unfold dB
  split
  · exact sz_one.mono (by omega)
  split
  · exact sz_one.neg.mono (by omega)
  split
  · exact h0 _
  split
  · exact (hy.mul (tden_sz hy hv).inv).neg
  · exact sz_zero 193 (by omega)
end Go.Proofs.YtfhihapgjiaobaaGreat

namespace Go.Proofs.YtfhihapgjiaobaaGreat
set_option maxRecDepth 100000
open Go.RowKit
set_option linter.unusedVariables false
set_option linter.unusedSimpArgs false

section
variable {ds v t : List Rat} {a b : Int} {q : Bool × List Int × List Int} {y : Rat}
theorem tanR_1 : tanR ds ⟨1, a, b, q⟩ y v t = .ok (ds.getD a.toNat 0) := rfl
theorem tanR_2 : tanR ds ⟨2, a, b, q⟩ y v t = .ok 0 := rfl
theorem rat_one_ne : ¬ (1 : Rat) = 0 := by decide
theorem tanR_of {op : Int} (h1 : ¬ op = 1) (h2 : ¬ op = 2) (h : ¬ tden ⟨op, a, b, q⟩ y v = 0) {X : Rat} (e : dA ⟨op, a, b, q⟩ y v * t.getD a.toNat 0 + dB ⟨op, a, b, q⟩ y v * t.getD b.toNat 0 = X) : tanR ds ⟨op, a, b, q⟩ y v t = .ok X := by
  unfold tanR
  simp only
  rw [if_neg h1, if_neg h2, if_neg h, e]
theorem tanR_no {op : Int} (h1 : ¬ op = 1) (h2 : ¬ op = 2) (h : tden ⟨op, a, b, q⟩ y v = 0) : tanR ds ⟨op, a, b, q⟩ y v t = .error 4 := by
  unfold tanR
  simp only
  rw [if_neg h1, if_neg h2, if_pos h]
theorem tanR_3 : tanR ds ⟨3, a, b, q⟩ y v t = .ok (-(t.getD a.toNat 0)) := tanR_of (by decide) (by decide) (by exact rat_one_ne) (by
  show (-1) * t.getD a.toNat 0 + 0 * t.getD b.toNat 0 = _
  grind)
theorem tanR_4 : tanR ds ⟨4, a, b, q⟩ y v t = .ok (t.getD a.toNat 0 + t.getD b.toNat 0) := tanR_of (by decide) (by decide) (by exact rat_one_ne) (by
  show 1 * t.getD a.toNat 0 + 1 * t.getD b.toNat 0 = _
  grind)
theorem tanR_5 : tanR ds ⟨5, a, b, q⟩ y v t = .ok (t.getD a.toNat 0 - t.getD b.toNat 0) := tanR_of (by decide) (by decide) (by exact rat_one_ne) (by
  show 1 * t.getD a.toNat 0 + (-1) * t.getD b.toNat 0 = _
  grind)
theorem tanR_6 : tanR ds ⟨6, a, b, q⟩ y v t = .ok (t.getD a.toNat 0 * v.getD b.toNat 0 + v.getD a.toNat 0 * t.getD b.toNat 0) := tanR_of (by decide) (by decide) (by exact rat_one_ne) (by
  show v.getD b.toNat 0 * t.getD a.toNat 0 + v.getD a.toNat 0 * t.getD b.toNat 0 = _
  grind)
theorem tanR_7 (h : ¬ v.getD b.toNat 0 = 0) : tanR ds ⟨7, a, b, q⟩ y v t = .ok ((t.getD a.toNat 0 - y * t.getD b.toNat 0) / v.getD b.toNat 0) := tanR_of (by decide) (by decide) (by exact h) (by
  show (v.getD b.toNat 0)⁻¹ * t.getD a.toNat 0 + (-(y * (v.getD b.toNat 0)⁻¹)) * t.getD b.toNat 0 = _
  rw [Rat.div_def]
  grind)
theorem tanR_7n (h : v.getD b.toNat 0 = 0) : tanR ds ⟨7, a, b, q⟩ y v t = .error 4 := tanR_no (by decide) (by decide) (by exact h)
theorem tanR_8 (h : ¬ y + y = 0) : tanR ds ⟨8, a, b, q⟩ y v t = .ok (t.getD a.toNat 0 / (y + y)) := tanR_of (by decide) (by decide) (by exact h) (by
  show (y + y)⁻¹ * t.getD a.toNat 0 + 0 * t.getD b.toNat 0 = _
  rw [Rat.div_def, Rat.zero_mul, Rat.add_zero, Rat.mul_comm])
theorem tanR_8n (h : y + y = 0) : tanR ds ⟨8, a, b, q⟩ y v t = .error 4 := tanR_no (by decide) (by decide) (by exact h)
theorem tanR_9 : tanR ds ⟨9, a, b, q⟩ y v t = .ok (t.getD a.toNat 0 * y) := tanR_of (by decide) (by decide) (by exact rat_one_ne) (by
  show y * t.getD a.toNat 0 + 0 * t.getD b.toNat 0 = _
  grind)
theorem tanR_10 (h : ¬ v.getD a.toNat 0 = 0) : tanR ds ⟨10, a, b, q⟩ y v t = .ok (t.getD a.toNat 0 / v.getD a.toNat 0) := tanR_of (by decide) (by decide) (by exact h) (by
  show (v.getD a.toNat 0)⁻¹ * t.getD a.toNat 0 + 0 * t.getD b.toNat 0 = _
  rw [Rat.div_def, Rat.zero_mul, Rat.add_zero, Rat.mul_comm])
theorem tanR_10n (h : v.getD a.toNat 0 = 0) : tanR ds ⟨10, a, b, q⟩ y v t = .error 4 := tanR_no (by decide) (by decide) (by exact h)
end
theorem tanR_err {ds v t : List Rat} {x : PI} {y : Rat} {e : Int} (h : tanR ds x y v t = .error e) : e = 4 := by
  unfold tanR at h
  split at h
  · cases h
  · split at h
    · cases h
    · split at h
      · injection h with h; exact h.symm
      · cases h
theorem getD_sz {N : Nat} {v : List Rat} (h : AllSz N v) (hN : 0 < N) (j : Nat) : Sz (v.getD j 0) N := by
  rcases Nat.lt_or_ge j v.length with h9 | h9
  · exact h.at_ h9
  · rw [List.getD_eq_getElem?_getD, List.getElem?_eq_none h9]; exact sz_zero N hN
theorem tanR_sz {ds v t : List Rat} {x : PI} {y X : Rat} (h : tanR ds x y v t = .ok X) (zy : Sz y 64) (zv : AllSz 64 v) (zt : AllSz 64 t) (zd : AllSz 64 ds) : Sz X 451 := by
  unfold tanR at h
  split at h
  · injection h with h; subst h; exact (getD_sz zd (by omega) _).mono (by omega)
  · split at h
    · injection h with h; subst h; exact sz_zero _ (by omega)
    · split at h
      · cases h
      · injection h with h
        subst h
        exact (((dA_sz zy zv).mul (getD_sz zt (by omega) _)).add ((dB_sz zy zv).mul (getD_sz zt (by omega) _))).mono (by omega)
/-- values that are not too long -/
theorem big_sz {r : Except Int Rat} {X : Rat} (h : big r = .ok X) : r = .ok X ∧ Sz X 64 := by
  cases r with
  | error e => rw [big_err] at h; cases h
  | ok Y =>
    by_cases hb : 4096 < bitsQ Y
    · rw [big_no hb] at h; cases h
    · rw [big_yes hb] at h
      injection h with h
      subst h
      exact ⟨rfl, sz_of_bits hb⟩
theorem evTo_sz {f : Nat → PI → List Rat → Except Int Rat} {l : List PI} {v : List Rat} {n : Nat} (h : evTo f l n = .ok v) (hb : ∀ i x u X, f i x u = .ok X → Sz X 64) : AllSz 64 v := by
  intro X hX
  obtain ⟨j, hj⟩ := List.mem_iff_getElem?.1 hX
  have hjl : j < v.length := by
    rcases Nat.lt_or_ge j v.length with h9 | h9
    · exact h9
    · rw [List.getElem?_eq_none h9] at hj; cases hj
  have h1 := (evTo_ok (d := (0 : Rat)) h j (by rw [evTo_len h] at hjl; exact hjl)).2
  have e : v.getD j 0 = X := by rw [List.getD_eq_getElem?_getD, hj]; rfl
  rw [e] at h1
  exact hb _ _ _ _ h1
theorem exact_sz {is fs : List Rat} {l : List PI} {v : List Rat} {n : Nat} (h : evTo (exSt is fs l) l n = .ok v) : AllSz 64 v := evTo_sz h (fun i x u X hX => (big_sz hX).2)
theorem tans_sz {ds v : List Rat} {l : List PI} {t : List Rat} {n : Nat} (h : evTo (tanSt ds v) l n = .ok t) : AllSz 64 t := evTo_sz h (fun i x u X hX => (big_sz hX).2)
/-- the inputs of a program that has values are there -/
theorem exact_in {is fs : List Rat} {l : List PI} {v : List Rat} {n : Nat} (h : evTo (exSt is fs l) l n = .ok v) {i : Nat} (hi : i < n) (h1 : (l.getD i PI.nil).op = 1) : (l.getD i PI.nil).a.toNat < is.length := by
  have h2 := (big_sz (evTo_ok (d := (0 : Rat)) h i hi).2).1
  generalize l.getD i PI.nil = x at *
  obtain ⟨op, a, b, q⟩ := x
  have h1' : op = 1 := h1
  subst h1'
  by_cases hlt : a.toNat < is.length
  · exact hlt
  · rw [raw_in_no hlt] at h2; cases h2

theorem tg_value {w : World} {A B C : Option Addr} {n c m d l f : Nat} {v ts ds : List Rat} {x : RI} {sy : Bool} {Ay Dy : Option Addr} {ny cy my dy : Nat} {Y : Rat} (hy : Q w sy Ay ny cy Dy my dy Y) (zy : Sz Y 64) (hv : SlQ w A n c v) (ht : SlQ w B m d ts) (hd : SlQ w C l f ds) (zv : AllSz 64 v) (zt : AllSz 64 ts) (zd : AllSz 64 ds) (hn : n ≤ 65536) (hm : m ≤ 65536) (hl : l ≤ 65536) (hfit : fits vq nq x.pi m) (hmn : m ≤ n) (hin : x.op = 1 → x.a.toNat < l) :
    Calls Tryz.prog 28 #[.agg #[.int .i64 x.op, .int .i64 x.a, .int .i64 x.b, .bool x.q.s, .slice x.q.A x.q.n x.q.c, .slice x.q.A' x.q.n' x.q.c'], .agg #[.bool sy, .slice Ay ny cy, .slice Dy my dy], .slice A n c, .slice B m d, .slice C l f] w (RetEV (tanR ds x.pi Y v ts) w) := by
  obtain ⟨op, a, b, q⟩ := x
  simp only at hin ⊢
  have hfit : fits vq nq ⟨op, a, b, (q.s, q.z, q.z')⟩ m := hfit
  show Calls _ _ _ w (RetEV (tanR ds ⟨op, a, b, (q.s, q.z, q.z')⟩ Y v ts) w)
  rcases op_cases op with (rfl | rfl | rfl | rfl | rfl | rfl | rfl | rfl | rfl | rfl) | hno
  · obtain ⟨g1, g2⟩ := fit_in hfit
    have h3 := hin rfl
    obtain ⟨i, rfl⟩ : ∃ i : Nat, a = (i : Int) := ⟨a.toNat, by omega⟩
    rw [tanR_1]
    exact tg_in hy zy hv ht hd zv zt zd hn hm hl (by omega)
  · rw [tanR_2]
    exact tg_const hy zy hv ht hd zv zt zd hn hm hl
  · obtain ⟨g1, g2⟩ := fit_one (by decide) (by decide) (by decide) hfit
    obtain ⟨i, rfl⟩ : ∃ i : Nat, a = (i : Int) := ⟨a.toNat, by omega⟩
    rw [tanR_3]
    exact tg_neg hy zy hv ht hd zv zt zd hn hm hl (by omega)
  · obtain ⟨g1, g2, g3, g4⟩ := fit_two (by decide) (by decide) (by decide) hfit
    obtain ⟨i, rfl⟩ : ∃ i : Nat, a = (i : Int) := ⟨a.toNat, by omega⟩
    obtain ⟨j, rfl⟩ : ∃ j : Nat, b = (j : Int) := ⟨b.toNat, by omega⟩
    rw [tanR_4]
    exact tg_add hy zy hv ht hd zv zt zd hn hm hl (by omega) (by omega)
  · obtain ⟨g1, g2, g3, g4⟩ := fit_two (by decide) (by decide) (by decide) hfit
    obtain ⟨i, rfl⟩ : ∃ i : Nat, a = (i : Int) := ⟨a.toNat, by omega⟩
    obtain ⟨j, rfl⟩ : ∃ j : Nat, b = (j : Int) := ⟨b.toNat, by omega⟩
    rw [tanR_5]
    exact tg_sub hy zy hv ht hd zv zt zd hn hm hl (by omega) (by omega)
  · obtain ⟨g1, g2, g3, g4⟩ := fit_two (by decide) (by decide) (by decide) hfit
    obtain ⟨i, rfl⟩ : ∃ i : Nat, a = (i : Int) := ⟨a.toNat, by omega⟩
    obtain ⟨j, rfl⟩ : ∃ j : Nat, b = (j : Int) := ⟨b.toNat, by omega⟩
    rw [tanR_6]
    exact tg_mul hy zy hv ht hd zv zt zd hn hm hl (by omega) (by omega) (by omega) (by omega)
  · obtain ⟨g1, g2, g3, g4⟩ := fit_two (by decide) (by decide) (by decide) hfit
    obtain ⟨i, rfl⟩ : ∃ i : Nat, a = (i : Int) := ⟨a.toNat, by omega⟩
    obtain ⟨j, rfl⟩ : ∃ j : Nat, b = (j : Int) := ⟨b.toNat, by omega⟩
    by_cases h0 : v.getD j 0 = 0
    · rw [tanR_7n (by simpa using h0)]
      exact tg_div_no hy zy hv ht hd zv zt zd hn hm hl (by omega) (by omega) (by omega) h0
    · rw [tanR_7 (by simpa using h0)]
      exact tg_div hy zy hv ht hd zv zt zd hn hm hl (by omega) (by omega) (by omega) h0
  · obtain ⟨g1, g2⟩ := fit_one (by decide) (by decide) (by decide) hfit
    obtain ⟨i, rfl⟩ : ∃ i : Nat, a = (i : Int) := ⟨a.toNat, by omega⟩
    by_cases h0 : Y + Y = 0
    · rw [tanR_8n h0]
      exact tg_sqrt_no hy zy hv ht hd zv zt zd hn hm hl (by omega) h0
    · rw [tanR_8 h0]
      exact tg_sqrt hy zy hv ht hd zv zt zd hn hm hl (by omega) h0
  · obtain ⟨g1, g2⟩ := fit_one (by decide) (by decide) (by decide) hfit
    obtain ⟨i, rfl⟩ : ∃ i : Nat, a = (i : Int) := ⟨a.toNat, by omega⟩
    rw [tanR_9]
    exact tg_exp hy zy hv ht hd zv zt zd hn hm hl (by omega)
  · obtain ⟨g1, g2⟩ := fit_one (by decide) (by decide) (by decide) hfit
    obtain ⟨i, rfl⟩ : ∃ i : Nat, a = (i : Int) := ⟨a.toNat, by omega⟩
    by_cases h0 : v.getD i 0 = 0
    · rw [tanR_10n (by simpa using h0)]
      exact tg_log_no hy zy hv ht hd zv zt zd hn hm hl (by omega) (by omega) h0
    · rw [tanR_10 (by simpa using h0)]
      exact tg_log hy zy hv ht hd zv zt zd hn hm hl (by omega) (by omega) h0
  · exact (fit_no hno.2.1 hno.1 (arity_no hno) hfit).elim

end Go.Proofs.YtfhihapgjiaobaaGreat

namespace Go.Proofs.YtfhihapgjiaobaaGreat
set_option maxRecDepth 100000
open Go.RowKit
set_option linter.unusedVariables false
set_option linter.unusedSimpArgs false

/-- values and tangents, or the number of the instruction and the error -/
def RetTg (r : Except (Nat × Int) (List Rat × List Rat)) (w : World) (e : Ending) (w' : World) : Prop := match r with
  | .ok (v, t) => (∃ A n c B m d, e = .returned (.tuple #[.slice A n c, .slice B m d, .int .i64 0, .int .i64 0]) ∧ SlQ w' A n c v ∧ SlQ w' B m d t) ∧ Below w.heap.size w w'
  | .error (i, k) => e = .returned (.tuple #[.slice none 0 0, .slice none 0 0, .int .i64 (i : Int), .int .i64 k]) ∧ Below w.heap.size w w'
def tgRun (l : List PI) (v ds : List Rat) : Except (Nat × Int) (List Rat × List Rat) := match evTo (tanSt ds v) l l.length with
  | .ok t => .ok (v, t)
  | .error e => .error e
noncomputable def tgAll (l : List PI) (p q r s : Bool) (ins ds forms : List Rat) : Except (Nat × Int) (List Rat × List Rat) :=
  if s = true ∧ r = true then (match exAll l p q ins forms with
    | .error e => .error e
    | .ok v => tgRun l v ds) else .error (0, 1)
theorem tgAll_no {l : List PI} {p q r s : Bool} {ins ds forms : List Rat} (h : ¬ (s = true ∧ r = true)) : tgAll l p q r s ins ds forms = .error (0, 1) := by unfold tgAll; rw [if_neg h]
theorem tgAll_err {l : List PI} {p q : Bool} {ins ds forms : List Rat} {e : Nat × Int} (h : exAll l p q ins forms = .error e) : tgAll l p q true true ins ds forms = .error e := by unfold tgAll; rw [if_pos ⟨rfl, rfl⟩, h]
theorem tgAll_ok {l : List PI} {p q : Bool} {ins ds forms v : List Rat} (h : exAll l p q ins forms = .ok v) : tgAll l p q true true ins ds forms = tgRun l v ds := by unfold tgAll; rw [if_pos ⟨rfl, rfl⟩, h]
theorem tgRun_ok {l : List PI} {v ds t : List Rat} (h : evTo (tanSt ds v) l l.length = .ok t) : tgRun l v ds = .ok (v, t) := by unfold tgRun; rw [h]
theorem tgRun_err {l : List PI} {v ds : List Rat} {e : Nat × Int} (h : evTo (tanSt ds v) l l.length = .error e) : tgRun l v ds = .error e := by unfold tgRun; rw [h]
theorem exAll_ok {l : List PI} {p q : Bool} {ins forms v : List Rat} (h : exAll l p q ins forms = .ok v) : progB l = true ∧ p = true ∧ q = true ∧ evTo (exSt ins forms l) l l.length = .ok v := by
  unfold exAll at h
  split at h
  · rename_i h1
    exact ⟨h1.1, h1.2.1, h1.2.2, h⟩
  · cases h
theorem evTo_errs {f : Nat → PI → List Rat → Except Int Rat} {l : List PI} {n : Nat} {i : Nat} {e : Int} (h : evTo f l n = .error (i, e)) : i < n ∧ ∃ v, f i (l.getD i PI.nil) v = .error e := by
  induction n with
  | zero => cases h
  | succ n ih =>
    unfold evTo at h
    cases h1 : evTo f l n with
    | error e1 =>
      rw [h1] at h
      simp only at h
      injection h with h
      rw [h] at h1
      obtain ⟨g1, g2⟩ := ih h1
      exact ⟨by omega, g2⟩
    | ok v =>
      rw [h1] at h
      simp only at h
      cases h2 : f n (l.getD n PI.nil) v with
      | ok X => rw [h2] at h; cases h
      | error e1 =>
        rw [h2] at h
        simp only at h
        injection h with h
        injection h with h3 h4
        subst h3 h4
        exact ⟨Nat.lt_succ_self _, v, h2⟩
theorem big_errs {r : Except Int Rat} {e : Int} (h : big r = .error e) : e = 5 ∨ r = .error e := by
  cases r with
  | error e1 => rw [big_err] at h; injection h with h; subst h; exact .inr rfl
  | ok X =>
    by_cases hb : 4096 < bitsQ X
    · rw [big_no hb] at h; injection h with h; exact .inl h.symm
    · rw [big_yes hb] at h; cases h
theorem exAll_errs {l : List PI} {p q : Bool} {ins forms : List Rat} {i : Nat} {e : Int} (h : exAll l p q ins forms = .error (i, e)) : i ≤ l.length ∧ ((e = 1 ∧ i = 0) ∨ e = 4 ∨ e = 5 ∨ e = 6 ∨ e = 11) := by
  unfold exAll at h
  split at h
  · obtain ⟨g1, v, g2⟩ := evTo_errs h
    refine ⟨by omega, .inr ?_⟩
    rcases big_errs g2 with h5 | h5
    · exact .inr (.inl h5)
    · rcases raw_err h5 with h6 | h6 | h6
      · exact .inl h6
      · exact .inr (.inr (.inl h6))
      · exact .inr (.inr (.inr h6))
  · injection h with h
    injection h with h1 h2
    exact ⟨by omega, .inl ⟨h2.symm, h1.symm⟩⟩

theorem box_self {t : TypeId} {w : World} {g : Nat} {y0 y1 y2 : Value} (h : Box t w g #[y0, y1, y2]) (x0 x1 x2 : Value) : Box t (put3 w g x0 x1 x2) g #[x0, x1, x2] := by
  unfold Box put3 at *
  simp [World.setCell, Array.getElem?_modify, h]

set_option maxRecDepth 100000 in
set_option maxHeartbeats 4000000 in
theorem tg_of {w : World} {A B D C : Option Addr} {n c m d k e kf f : Nat} {xs : List RI} {is ds fs : List RQ} (h : SlP w A n c xs) (hs : Shrt 64 xs) (hi : SlR w B m d is) (his : ∀ x ∈ is, x.n ≤ 64 ∧ x.n' ≤ 64) (hd : SlR w D k e ds) (hds : ∀ x ∈ ds, x.n ≤ 64 ∧ x.n' ≤ 64) (hf : SlR w C kf f fs) (hfs : ∀ x ∈ fs, x.n ≤ 64 ∧ x.n' ≤ 64) (hn : n ≤ 300) (hm : m ≤ 1000) (hk : k ≤ 1000) (hkf : kf ≤ 1000) :
    Calls Tryz.prog 9 #[.slice A n c, .slice B m d, .slice D k e, .slice C kf f] w (RetTg (tgAll (xs.map RI.pi) (allR is) (allR fs) (allR ds) (decide (m = k)) (qvs is) (qvs ds) (qvs fs)) w) := by
  have hlen : (xs.map RI.pi).length = n := by rw [List.length_map]; exact h.1.1
  have P1 := tg_allRight hd hds (by omega) (by omega)
  have P2 := fun (w1 : World) (hb : Below w.heap.size w w1) => ev_exact (h.below hb) hs (hi.below hb) his (hf.below hb) hfs hn hm hkf
  have hsd := fun hh => slq_of hd hds hh
  have hil : (qvs is).length = m := by unfold qvs; rw [List.length_map]; exact hi.1.1
  have hex := fun v => @exAll_ok (xs.map RI.pi) (allR is) (allR fs) (qvs is) (qvs fs) v
  have hxe := fun i e => @exAll_errs (xs.map RI.pi) (allR is) (allR fs) (qvs is) (qvs fs) i e
  have ht1 := fun hh => @tgAll_no (xs.map RI.pi) (allR is) (allR fs) (allR ds) (decide (m = k)) (qvs is) (qvs ds) (qvs fs) hh
  have ht2 := fun e => @tgAll_err (xs.map RI.pi) (allR is) (allR fs) (qvs is) (qvs ds) (qvs fs) e
  have ht3 := fun v => @tgAll_ok (xs.map RI.pi) (allR is) (allR fs) (qvs is) (qvs ds) (qvs fs) v
  have HP1 := Lib.hid P1
  have HP2 := Lib.hid P2
  clear P1 P2
  by_cases hmk : m = k
  case neg =>
    rw [ht1 (by simp [hmk])]
    clear ht1 ht2 ht3 hex hxe hsd hil
    have hmk2 : ¬ (m : Int) = (k : Int) := by omega
    go_enter Tryz.func9, Tryz.ntmps9
    go_wp2_with fail
    refine bodyPost_ret (v := .tuple #[.slice none 0 0, .slice none 0 0, .int .i64 0, .int .i64 1]) (by simp [results, Tryz.results9, go_sem]) rfl ?_
    exact ⟨rfl, Below.refl _ _⟩
  case pos =>
  subst hmk
  generalize qvs is = Is at *
  generalize qvs ds = Ds at *
  generalize qvs fs = Fs at *
  generalize allR ds = p2 at *
  cases p2
  case false =>
    rw [ht1 (by simp)]
    clear ht1 ht2 ht3 hex hxe hsd hil
    go_enter Tryz.func9, Tryz.ntmps9
    go_wp2_with fail
    with_reducible refine HP1.out.mono ?_
    rintro _ w1 ⟨rfl, b1⟩
    go_wp2_with fail
    refine bodyPost_ret (v := .tuple #[.slice none 0 0, .slice none 0 0, .int .i64 0, .int .i64 1]) (by simp [results, Tryz.results9, go_sem]) rfl ?_
    exact ⟨rfl, b1⟩
  case true =>
  rw [show decide (m = m) = true from by simp]
  obtain ⟨r, hr⟩ : ∃ r, exAll (xs.map RI.pi) (allR is) (allR fs) Is Fs = r := ⟨_, rfl⟩
  rw [hr] at HP2
  cases r with
  | error er =>
    obtain ⟨i, er⟩ := er
    rw [ht2 _ hr]
    obtain ⟨_, hee⟩ := hxe i er hr
    have he0 : ¬ er = 0 := by omega
    clear ht1 ht2 ht3 hex hxe hsd hil hr hee
    go_enter Tryz.func9, Tryz.ntmps9
    go_wp2_with fail
    with_reducible refine HP1.out.mono ?_
    rintro _ w1 ⟨rfl, b1⟩
    go_wp2_with fail
    with_reducible refine (HP2.out _ b1).mono ?_
    rintro _ w2 ⟨rfl, b2⟩
    go_wp2_with fail
    refine bodyPost_ret (v := .tuple #[.slice none 0 0, .slice none 0 0, .int .i64 (i : Int), .int .i64 er]) (by simp [results, Tryz.results9, go_sem]) rfl ?_
    exact ⟨rfl, bb b1 b2⟩
  | ok v =>
  rw [ht3 _ hr]
  obtain ⟨hpb, _, _, hev⟩ := hex v hr
  obtain ⟨qd, zd⟩ := hsd rfl
  have zv : AllSz 64 v := exact_sz hev
  have hprog := (progB_iff (xs.map RI.pi)).1 hpb
  have hvl : v.length = n := by rw [evTo_len hev, hlen]
  have hin : ∀ j, j < n → ((xs.map RI.pi).getD j PI.nil).op = 1 → ((xs.map RI.pi).getD j PI.nil).a.toNat < m := fun j hj h1 => by
    have := exact_in hev (i := j) (by rw [hlen]; exact hj) h1
    omega
  have hr1 := fun t => @tgRun_ok (xs.map RI.pi) v Ds t
  have hr2 := fun e => @tgRun_err (xs.map RI.pi) v Ds e
  rw [hlen] at hr1 hr2
  have HL := Lib.hid hlen
  clear ht1 ht2 ht3 hex hxe hsd hil hr hpb hev hlen hi hf his hfs hds
  obtain ⟨R, hR⟩ : ∃ R, R = tgRun (xs.map RI.pi) v Ds := ⟨_, rfl⟩
  rw [← hR]
  rw [← hR] at hr1 hr2
  have HR1 := Lib.hid hr1
  have HR2 := Lib.hid hr2
  have HIN := Lib.hid hin
  have HVL := Lib.hid hvl
  clear hR hr1 hr2 hin hvl
  obtain ⟨i0, hi0, hz0, hz1, hz2⟩ := info_parts infoQ
  go_enter Tryz.func9, Tryz.ntmps9
  go_wp2_with fail
  with_reducible refine HP1.out.mono ?_
  rintro _ w1 ⟨rfl, b1⟩
  go_wp2_with fail
  with_reducible refine (HP2.out _ b1).mono ?_
  rintro _ w3 ⟨⟨Av, nv, cv, rfl, qv3⟩, b3⟩
  have y3 := bb b1 b3
  clear b1 b3 HP1 HP2
  obtain ⟨w4, hmk, ho4, b4⟩ := make_C (cells := RQ.cells) 23 45 _ 56 Tryz.underlying23 infoQ zeroQ rfl (by omega) w3 n (by omega) (by omega)
  have HO := Lib.hid (show OwnQ w3.heap.size w4 (.slice (some ⟨w3.heap.size, 0, none⟩) 0 n) [] from ⟨[], ho4, rfl, fun j x hx => by simp at hx⟩)
  clear ho4
  have hvn : nv = n := by rw [qv3.len]; exact HVL.out
  subst hvn
  go_wp2_with fail
  have h3 := h.below y3
  have HQV := Lib.hid qv3
  have HQD := Lib.hid (qd.below y3)
  have HPR := Lib.hid hprog
  have HSH := Lib.hid hs
  clear qd qv3 hprog hs hmk h hd
  go_loopw [15, 47] (fun vv iv wr => ∃ (j : Nat) (t : List Rat), j ≤ nv ∧ iv = .int .i64 j ∧ Hid (OwnQ w3.heap.size wr vv t) ∧ Hid (evTo (tanSt Ds v) (xs.map RI.pi) j = .ok t) ∧ Hid (AllSz 64 t) ∧ Below w3.heap.size w3 wr) (fun _ iv _ => nv - mes iv)
  case atStart => exact ⟨0, [], by omega, rfl, HO, Lib.hid rfl, Lib.hid (fun X hX => by simp at hX), b4⟩
  case round =>
    clear HO b4
    obtain ⟨j, t, hj, rfl, HV, HE, HZ, hb⟩ := hrel
    have htl : t.length = j := evTo_len HE.out
    obtain ⟨A', c', ev⟩ := HV.out.form
    rw [htl] at ev
    subst ev
    have HTL2 := Lib.hid htl
    clear htl
    by_cases hj2 : j < nv
    · obtain ⟨b0, off, x, rfl, hlt, hxk, hok, c0, c1, c2, c3, c4, c5⟩ := (h3.below hb).at_ hj2
      obtain ⟨bv, ov, sy, Ay, ny, cy, Dy, my, dy, rfl, hlv, g0, g1, g2, qy⟩ := (HQV.out.below hb).at_ hj2
      have hp := pi_at hxk
      have hfit : fits vq nq x.pi j := by rw [← hp]; exact HPR.out.1 j (by rw [HL.out]; exact hj2)
      have hin2 : x.op = 1 → x.a.toNat < m := fun h1 => by have := HIN.out j hj2; rw [hp] at this; exact this h1
      obtain ⟨V, hW, Bx, hb1⟩ := box0 52 wr #[.int .i64 x.op, .int .i64 x.a, .int .i64 x.b, .bool x.q.s, .slice x.q.A x.q.n x.q.c, .slice x.q.A' x.q.n' x.q.c']
      have zy : Sz (v.getD j 0) 64 := zv.at_ (by have := HVL.out; omega)
      have EV := fun (w1 : World) (hb9 : Below V.heap.size V w1) => tg_value (x := x) (qy.below (bb hb1 hb9)) zy (HQV.out.below (bb hb (bb hb1 hb9))) (HV.out.slq.below (bb hb1 hb9)) (HQD.out.below (bb hb (bb hb1 hb9))) zv HZ.out zd (by omega) (by omega) (by omega) hfit (by omega) hin2
      obtain ⟨r, hr⟩ : ∃ r, tanR Ds x.pi (v.getD j 0) v t = r := ⟨_, rfl⟩
      rw [hr] at EV
      have hst : tanSt Ds v j ((xs.map RI.pi).getD j PI.nil) t = big r := by rw [hp]; unfold tanSt; rw [hr]
      have hsz : ∀ X, r = .ok X → Sz X 451 := fun X hX => tanR_sz (hr.trans hX) zy zv HZ.out zd
      have hre : ∀ e, r = .error e → e = 4 := fun e he => tanR_err (hr.trans he)
      have hS : ∀ w', Below V.heap.size V w' → (w'.cell? ⟨wr.heap.size, 0, none⟩ = some (.int .i64 x.op) ∧ w'.cell? ⟨wr.heap.size, 1, none⟩ = some (.int .i64 x.a) ∧ w'.cell? ⟨wr.heap.size, 2, none⟩ = some (.int .i64 x.b) ∧ w'.cell? ⟨wr.heap.size, 3, none⟩ = some (.bool x.q.s) ∧ w'.cell? ⟨wr.heap.size, 4, none⟩ = some (.slice x.q.A x.q.n x.q.c) ∧ w'.cell? ⟨wr.heap.size, 5, none⟩ = some (.slice x.q.A' x.q.n' x.q.c')) ∧ w'.cell? ⟨bv, ov + j * 3, none⟩ = some (.bool sy) ∧ w'.cell? ⟨bv, ov + j * 3 + 1, none⟩ = some (.slice Ay ny cy) ∧ w'.cell? ⟨bv, ov + j * 3 + 2, none⟩ = some (.slice Dy my dy) := fun w' hb9 =>
        ⟨(Bx.below' hb9).six.1, ((bb hb1 hb9).cell (p := ⟨bv, ov + j * 3, none⟩) hlv).trans g0, ((bb hb1 hb9).cell (p := ⟨bv, ov + j * 3 + 1, none⟩) hlv).trans g1, ((bb hb1 hb9).cell (p := ⟨bv, ov + j * 3 + 2, none⟩) hlv).trans g2⟩
      generalize v.getD j 0 = Y at *
      have HEV := Lib.hid EV
      have HST := Lib.hid hst
      have HS := Lib.hid hS
      have HW := Lib.hid hW
      clear EV hst hW Bx hr hfit hp hok hxk hS hin2 qy zy g0 g1 g2
      cases r with
      | error e =>
        have hRR : R = .error (j, e) := HR2.out _ (evTo_err (evTo_stop HE.out HST.out) nv (by omega))
        subst hRR
        obtain rfl := hre e rfl
        clear hre hsz
        go_wp2_with fail
        rw [HW.out]
        obtain ⟨⟨p0, p1, p2, p3, p4, p5⟩, p6, p7, p8⟩ := HS.out _ (Below.refl _ V)
        have HO := Lib.hid (show Below V.heap.size V (V.drew.alloc (.cells #[.bool false, .slice none 0 0, .slice none 0 0] 45)) from (Below.refl _ V).drew.alloc (Nat.le_refl _) _)
        go_region_held3 (fun w' => (w'.cell? ⟨wr.heap.size, 0, none⟩ = some (.int .i64 x.op) ∧ w'.cell? ⟨wr.heap.size, 1, none⟩ = some (.int .i64 x.a) ∧ w'.cell? ⟨wr.heap.size, 2, none⟩ = some (.int .i64 x.b) ∧ w'.cell? ⟨wr.heap.size, 3, none⟩ = some (.bool x.q.s) ∧ w'.cell? ⟨wr.heap.size, 4, none⟩ = some (.slice x.q.A x.q.n x.q.c) ∧ w'.cell? ⟨wr.heap.size, 5, none⟩ = some (.slice x.q.A' x.q.n' x.q.c')) ∧ w'.cell? ⟨bv, ov + j * 3, none⟩ = some (.bool sy) ∧ w'.cell? ⟨bv, ov + j * 3 + 1, none⟩ = some (.slice Ay ny cy) ∧ w'.cell? ⟨bv, ov + j * 3 + 2, none⟩ = some (.slice Dy my dy)) (first | with_reducible exact HS.out _ (Below.refl _ V).drew | exact HS.out _ HO.out | with_reducible exact HS.out _ (xk1.alloc xk1.size _) | with_reducible exact HS.out _ xk1 | exact HS.out _ (below_put3 xk1 (Nat.le_refl _) (Nat.le_refl _) (.bool false) (.slice none 0 0) (.slice none 0 0)) | fail)
          (first
            | (go_at_call 28; (with_reducible refine (HEV.out _ ?hb1).mono ?_); (case hb1 => first | exact (Below.refl _ V).drew | exact HO.out); rintro _ w1 ⟨rfl, bk1⟩; have xk1 : Below V.heap.size V w1 := (by first | exact Below.undrew bk1 | exact bb HO.out bk1); (first | (have Bq : Box 45 w1 V.heap.size #[.bool false, .slice none 0 0, .slice none 0 0] := ((Box.new V.drew _ #[.bool false, .slice none 0 0, .slice none 0 0]).below' bk1)) | (have Bq : True := trivial)); (first | (obtain ⟨⟨t0, t1, t2⟩, f0, f1, f2⟩ := Bq.three) | skip)))
        all_goals
          go_wp2_with fail
          refine bodyPost_ret (v := .tuple #[.slice none 0 0, .slice none 0 0, .int .i64 (j : Int), .int .i64 4]) (by simp [results, Tryz.results9, go_sem]) rfl ?_
          first
            | exact ⟨rfl, bb y3 (bb hb (bb hb1 (xk1.alloc xk1.size _)))⟩
            | exact ⟨rfl, bb y3 (bb hb (bb hb1 (below_put3 xk1 (Nat.le_refl _) (Nat.le_refl _) _ _ _)))⟩
      | ok X =>
        have hX := hsz X rfl
        clear hre hsz
        by_cases hbig : 4096 < bitsQ X
        · have hRR : R = .error (j, 5) := HR2.out _ (evTo_err (evTo_stop HE.out (HST.out.trans (big_no hbig))) nv (by omega))
          subst hRR
          go_wp2_with fail
          rw [HW.out]
          obtain ⟨⟨p0, p1, p2, p3, p4, p5⟩, p6, p7, p8⟩ := HS.out _ (Below.refl _ V)
          have HO := Lib.hid (show Below V.heap.size V (V.drew.alloc (.cells #[.bool false, .slice none 0 0, .slice none 0 0] 45)) from (Below.refl _ V).drew.alloc (Nat.le_refl _) _)
          go_region_held3 (fun w' => (w'.cell? ⟨wr.heap.size, 0, none⟩ = some (.int .i64 x.op) ∧ w'.cell? ⟨wr.heap.size, 1, none⟩ = some (.int .i64 x.a) ∧ w'.cell? ⟨wr.heap.size, 2, none⟩ = some (.int .i64 x.b) ∧ w'.cell? ⟨wr.heap.size, 3, none⟩ = some (.bool x.q.s) ∧ w'.cell? ⟨wr.heap.size, 4, none⟩ = some (.slice x.q.A x.q.n x.q.c) ∧ w'.cell? ⟨wr.heap.size, 5, none⟩ = some (.slice x.q.A' x.q.n' x.q.c')) ∧ w'.cell? ⟨bv, ov + j * 3, none⟩ = some (.bool sy) ∧ w'.cell? ⟨bv, ov + j * 3 + 1, none⟩ = some (.slice Ay ny cy) ∧ w'.cell? ⟨bv, ov + j * 3 + 2, none⟩ = some (.slice Dy my dy)) (first | with_reducible exact HS.out _ (Below.refl _ V).drew | exact HS.out _ HO.out | with_reducible exact HS.out _ (xk1.alloc xk1.size _) | with_reducible exact HS.out _ xk1 | exact HS.out _ (below_put3 xk1 (Nat.le_refl _) (Nat.le_refl _) (.bool s1) (.slice A1 n1 c1) (.slice D1 m1 d1)) | fail)
            (first
              | (go_at_call 28; (with_reducible refine (HEV.out _ ?hb1).mono ?_); (case hb1 => first | exact (Below.refl _ V).drew | exact HO.out); rintro _ w1 ⟨s1, A1, n1, c1, D1, m1, d1, rfl, q1, bk1⟩; have xk1 : Below V.heap.size V w1 := (by first | exact Below.undrew bk1 | exact bb HO.out bk1); (first | (have Bq : Box 45 w1 V.heap.size #[.bool false, .slice none 0 0, .slice none 0 0] := ((Box.new V.drew _ #[.bool false, .slice none 0 0, .slice none 0 0]).below' bk1)) | (have Bq : True := trivial)); (first | (obtain ⟨⟨t0, t1, t2⟩, f0, f1, f2⟩ := Bq.three) | skip)))
          all_goals
            first
              | (obtain ⟨w2, hV2⟩ : ∃ W, w1.alloc (.cells #[.bool s1, .slice A1 n1 c1, .slice D1 m1 d1] 45) = W := ⟨_, rfl⟩; rw [hV2]; have B2 : Box 45 w2 w1.heap.size #[.bool s1, .slice A1 n1 c1, .slice D1 m1 d1] := (by rw [← hV2]; exact Box.new w1 _ _); have x2 : Below V.heap.size V w2 := (by rw [← hV2]; exact xk1.alloc xk1.size _); have q2 : Q w2 s1 A1 n1 c1 D1 m1 d1 X := (by rw [← hV2]; exact q1.below (below_alloc _ _)); clear hV2)
              | (obtain ⟨w2, hV2⟩ : ∃ W, ((w1.setCell ⟨V.heap.size, 0, none⟩ (.bool s1)).setCell ⟨V.heap.size, 1, none⟩ (.slice A1 n1 c1)).setCell ⟨V.heap.size, 2, none⟩ (.slice D1 m1 d1) = W := ⟨_, rfl⟩; rw [hV2]; have B2 : Box 45 w2 V.heap.size #[.bool s1, .slice A1 n1 c1, .slice D1 m1 d1] := (by rw [← hV2]; exact box_self Bq (.bool s1) (.slice A1 n1 c1) (.slice D1 m1 d1)); have x2 : Below V.heap.size V w2 := (by rw [← hV2]; exact below_put3 xk1 (Nat.le_refl _) (Nat.le_refl _) _ _ _); have q2 : Q w2 s1 A1 n1 c1 D1 m1 d1 X := (by rw [← hV2]; exact q1.put3 (x0 := .bool s1) (x1 := .slice A1 n1 c1) (x2 := .slice D1 m1 d1) ⟨_, _, _, _, _, _, _, Bq⟩); clear hV2)
            have TL := tg_tooLong q2 hX (by omega)
            rw [decide_eq_true hbig] at TL
            obtain ⟨b0, b1, b2⟩ := B2.three.1
            have HTL := Lib.hid TL
            clear TL
            go_wp2_with fail
            with_reducible refine HTL.out.mono ?_
            rintro _ w3 ⟨rfl, b3⟩
            go_wp2_with fail
            refine bodyPost_ret (v := .tuple #[.slice none 0 0, .slice none 0 0, .int .i64 (j : Int), .int .i64 5]) (by simp [results, Tryz.results9, go_sem]) rfl ?_
            exact ⟨rfl, bb y3 (bb hb (bb hb1 (bb x2 b3)))⟩
        · have hst2 := HST.out.trans (big_yes hbig)
          have HEV2 := Lib.hid (evTo_step HE.out hst2)
          have HZ2 := Lib.hid (HZ.out.snoc (sz_of_bits hbig))
          clear hst2 HST
          go_wp2_with fail
          rw [HW.out]
          obtain ⟨⟨p0, p1, p2, p3, p4, p5⟩, p6, p7, p8⟩ := HS.out _ (Below.refl _ V)
          have HO := Lib.hid (show Below V.heap.size V (V.drew.alloc (.cells #[.bool false, .slice none 0 0, .slice none 0 0] 45)) from (Below.refl _ V).drew.alloc (Nat.le_refl _) _)
          go_region_held3 (fun w' => (w'.cell? ⟨wr.heap.size, 0, none⟩ = some (.int .i64 x.op) ∧ w'.cell? ⟨wr.heap.size, 1, none⟩ = some (.int .i64 x.a) ∧ w'.cell? ⟨wr.heap.size, 2, none⟩ = some (.int .i64 x.b) ∧ w'.cell? ⟨wr.heap.size, 3, none⟩ = some (.bool x.q.s) ∧ w'.cell? ⟨wr.heap.size, 4, none⟩ = some (.slice x.q.A x.q.n x.q.c) ∧ w'.cell? ⟨wr.heap.size, 5, none⟩ = some (.slice x.q.A' x.q.n' x.q.c')) ∧ w'.cell? ⟨bv, ov + j * 3, none⟩ = some (.bool sy) ∧ w'.cell? ⟨bv, ov + j * 3 + 1, none⟩ = some (.slice Ay ny cy) ∧ w'.cell? ⟨bv, ov + j * 3 + 2, none⟩ = some (.slice Dy my dy)) (first | with_reducible exact HS.out _ (Below.refl _ V).drew | exact HS.out _ HO.out | with_reducible exact HS.out _ (xk1.alloc xk1.size _) | with_reducible exact HS.out _ xk1 | exact HS.out _ (below_put3 xk1 (Nat.le_refl _) (Nat.le_refl _) (.bool s1) (.slice A1 n1 c1) (.slice D1 m1 d1)) | fail)
            (first
              | (go_at_call 28; (with_reducible refine (HEV.out _ ?hb1).mono ?_); (case hb1 => first | exact (Below.refl _ V).drew | exact HO.out); rintro _ w1 ⟨s1, A1, n1, c1, D1, m1, d1, rfl, q1, bk1⟩; have xk1 : Below V.heap.size V w1 := (by first | exact Below.undrew bk1 | exact bb HO.out bk1); (first | (have Bq : Box 45 w1 V.heap.size #[.bool false, .slice none 0 0, .slice none 0 0] := ((Box.new V.drew _ #[.bool false, .slice none 0 0, .slice none 0 0]).below' bk1)) | (have Bq : True := trivial)); (first | (obtain ⟨⟨t0, t1, t2⟩, f0, f1, f2⟩ := Bq.three) | skip)))
          all_goals
            first
              | (obtain ⟨w2, hV2⟩ : ∃ W, w1.alloc (.cells #[.bool s1, .slice A1 n1 c1, .slice D1 m1 d1] 45) = W := ⟨_, rfl⟩; rw [hV2]; have B2 : Box 45 w2 w1.heap.size #[.bool s1, .slice A1 n1 c1, .slice D1 m1 d1] := (by rw [← hV2]; exact Box.new w1 _ _); have x2 : Below V.heap.size V w2 := (by rw [← hV2]; exact xk1.alloc xk1.size _); have q2 : Q w2 s1 A1 n1 c1 D1 m1 d1 X := (by rw [← hV2]; exact q1.below (below_alloc _ _)); clear hV2)
              | (obtain ⟨w2, hV2⟩ : ∃ W, ((w1.setCell ⟨V.heap.size, 0, none⟩ (.bool s1)).setCell ⟨V.heap.size, 1, none⟩ (.slice A1 n1 c1)).setCell ⟨V.heap.size, 2, none⟩ (.slice D1 m1 d1) = W := ⟨_, rfl⟩; rw [hV2]; have B2 : Box 45 w2 V.heap.size #[.bool s1, .slice A1 n1 c1, .slice D1 m1 d1] := (by rw [← hV2]; exact box_self Bq (.bool s1) (.slice A1 n1 c1) (.slice D1 m1 d1)); have x2 : Below V.heap.size V w2 := (by rw [← hV2]; exact below_put3 xk1 (Nat.le_refl _) (Nat.le_refl _) _ _ _); have q2 : Q w2 s1 A1 n1 c1 D1 m1 d1 X := (by rw [← hV2]; exact q1.put3 (x0 := .bool s1) (x1 := .slice A1 n1 c1) (x2 := .slice D1 m1 d1) ⟨_, _, _, _, _, _, _, Bq⟩); clear hV2)
            have TL := tg_tooLong q2 hX (by omega)
            rw [decide_eq_false (show ¬ (4096 : Int) < bitsQ X by omega)] at TL
            have HB2 := Lib.hid B2
            obtain ⟨b0, b1, b2⟩ := B2.three.1
            have HTL := Lib.hid TL
            clear TL B2
            go_wp2_with fail
            with_reducible refine HTL.out.mono ?_
            rintro _ w5 ⟨rfl, b3⟩
            have x5 : Below V.heap.size V w5 := bb x2 b3
            obtain ⟨e0, e1, e2⟩ := (HB2.out.below' b3).three.1
            have q5 := q2.below b3
            obtain ⟨vs, o1, o2, o3⟩ := HV.out.below (bb hb1 x5)
            have y5 : Below w3.heap.size w3 w5 := bb hb (bb hb1 x5)
            have hvs : vs.length = j := by rw [o2]; exact HTL2.out
            have hok2 : (⟨s1, A1, n1, c1, (words X.num.natAbs), D1, m1, d1, (words X.den)⟩ : RQ).ok w5 := ⟨q5.2.1, q5.2.2, show n1 ≤ maxLen by have := q5.2.1.small hX.1; unfold maxLen; omega, show m1 ≤ maxLen by have := q5.2.2.small hX.2; unfold maxLen; omega⟩
            have HO1 := Lib.hid o1
            have HO2 := Lib.hid o2
            have HO3 := Lib.hid o3
            have HVS := Lib.hid hvs
            have HQ5 := Lib.hid q5
            have HOK := Lib.hid hok2
            clear o1 o2 o3 hvs q5 hok2 q2 q1
            go_wp2_with (at_builtin; refine wpList_append_C _ rfl _ _ 23 rfl w3.heap.size 45 i0 _ 56 Tryz.underlying23 hi0 hz0 hz1 hz2 rfl (by decide) zeroQ _ vs rfl (HO1.out.below (below_alloc _ _)) ⟨w5.heap.size, 0, none⟩ 1 (⟨s1, A1, n1, c1, (words X.num.natAbs), D1, m1, d1, (words X.den)⟩ : RQ) rfl rfl ?c1 (rq_one _) (rq_noW _) ?c3 ?c4 ?c5 ?_)
            case c1 => exact news_new w5 _ _
            case c3 => have := HVS.out; unfold maxLen; omega
            case c4 => have := HVS.out; omega
            case c5 => have := y5.size; simp; omega
            intro v' w6 hown hgrow
            have hbn := (y5.alloc y5.size _).grown hgrow (by have := y5.size; simp; omega) (HO1.out.base)
            have HOQ := Lib.hid (OwnQ.append HO1.out HO2.out HO3.out HOK.out HQ5.out hown hgrow)
            clear hown hgrow
            go_wp2_with fail
            go_roundw
            case rel => exact ⟨j + 1, t ++ [X], by omega, by go_num, HOQ, HEV2, HZ2, hbn⟩
            case measure => simp [mes, intOf]; omega
    · obtain rfl : j = nv := by omega
      have hRR : R = .ok (v, t) := HR1.out t HE.out
      subst hRR
      go_wp2_with fail
      refine bodyPost_ret (v := .tuple #[.slice Av j cv, .slice A' j c', .int .i64 0, .int .i64 0]) (by simp [results, Tryz.results9, go_sem]) rfl ?_
      exact ⟨⟨_, _, _, _, _, _, rfl, HQV.out.below hb, HV.out.slq⟩, bb y3 hb⟩

end Go.Proofs.YtfhihapgjiaobaaGreat

namespace Go.Proofs.YtfhihapgjiaobaaGreat
set_option maxRecDepth 100000
open Go.RowKit
set_option linter.unusedVariables false
set_option linter.unusedSimpArgs false

end Go.Proofs.YtfhihapgjiaobaaGreat

namespace Go.Proofs.YtfhihapgjiaobaaGreat
set_option maxRecDepth 100000
open Go.RowKit
set_option linter.unusedVariables false
set_option linter.unusedSimpArgs false

end Go.Proofs.YtfhihapgjiaobaaGreat

namespace Go.Proofs.YtfhihapgjiaobaaGreat
set_option maxRecDepth 100000
open Go.RowKit
set_option linter.unusedVariables false
set_option linter.unusedSimpArgs false

end Go.Proofs.YtfhihapgjiaobaaGreat

namespace Go.Proofs.YtfhihapgjiaobaaGreat
set_option maxRecDepth 100000
open Go.RowKit
set_option linter.unusedVariables false
set_option linter.unusedSimpArgs false

/-- a number is stored into block g at o -/
def put3o (w : World) (g o : Nat) (x0 x1 x2 : Value) : World := ((w.setCell ⟨g, o, none⟩ x0).setCell ⟨g, o + 1, none⟩ x1).setCell ⟨g, o + 2, none⟩ x2
theorem keep_put3o (w : World) (g o : Nat) (x0 x1 x2 : Value) : Keep g w (put3o w g o x0 x1 x2) := (((Keep.refl g w).setCell o x0).setCell (o + 1) x1).setCell (o + 2) x2
theorem block_put3o {t : TypeId} {w : World} {g o : Nat} {cur : Array Value} (h : w.heap[g]? = some (.cells cur t (0, 0))) (x0 x1 x2 : Value) : (put3o w g o x0 x1 x2).heap[g]? = some (.cells (((cur.setIfInBounds o x0).setIfInBounds (o + 1) x1).setIfInBounds (o + 2) x2) t (0, 0)) := by
  unfold put3o World.setCell
  simp [Array.getElem?_modify, h]
section
variable {t : TypeId} {B : Nat} {w w' : World} {xs : List RQ} {g n cap : Nat}
theorem OwnC.put3o (h : OwnC 3 RQ.cells t B w (.slice (some ⟨g, 0, none⟩) n cap) xs) {i : Nat} (hi : i < n) (x : RQ) : OwnC 3 RQ.cells t B (put3o w g (i * 3) (.bool x.s) (.slice x.A x.n x.c) (.slice x.A' x.n' x.c')) (.slice (some ⟨g, 0, none⟩) n cap) (xs.set i x) := by
  obtain ⟨hl, h2⟩ := h
  refine ⟨fun y hy => rfl, ?_⟩
  rcases h2 with ⟨e, _⟩ | ⟨g', cap', cur, e, h1, h2, h3, h4, h5, h6, h7⟩
  · injection e with e1; cases e1
  · injection e with e1 e2 e3
    injection e1 with e1
    injection e1 with e1
    subst e1 e2 e3
    have hsz : xs.length * 3 ≤ cur.size := by have := Nat.mul_le_mul_right 3 h3; omega
    have hio : i * 3 + 2 < cur.size := by omega
    refine .inr ⟨g, cap, _, by rw [List.length_set], h1, block_put3o h2 _ _ _, by rw [List.length_set]; exact h3, h4, by simp; exact h5, ?_, ?_⟩
    · rw [List.length_set]
      apply List.ext_getElem?
      intro k
      rw [List.getElem?_take]
      by_cases hk : k < xs.length * 3
      · rw [if_pos hk]
        have hk3 : k = k / 3 * 3 + k % 3 := by omega
        have hr : k % 3 < 3 := Nat.mod_lt _ (by omega)
        have old : cur.toList[k]? = (xs[k / 3]?).bind fun y => (RQ.cells y)[k % 3]? := by
          rw [← flat_at xs hl (k / 3) (k % 3) hr, ← hk3, ← h6, List.getElem?_take, if_pos hk]
        conv => rhs; rw [hk3]
        rw [flat_at (k := 3) (xs.set i x) (fun y _ => rfl) (k / 3) (k % 3) hr]
        simp only [Array.toList_setIfInBounds, List.getElem?_set, List.length_set, Array.length_toList]
        by_cases he : k / 3 = i
        · have hki : i * 3 ≤ k ∧ k < i * 3 + 3 := by omega
          rw [if_pos he.symm, if_pos (show i < xs.length from hi)]
          have h3' : k % 3 = 0 ∨ k % 3 = 1 ∨ k % 3 = 2 := by omega
          rcases h3' with e | e | e
          · rw [e, if_neg (by omega), if_neg (by omega), if_pos (by omega), if_pos (by omega)]; rfl
          · rw [e, if_neg (by omega), if_pos (by omega), if_pos (by omega)]; rfl
          · rw [e, if_pos (by omega), if_pos (by omega)]; rfl
        · rw [if_neg (by omega), if_neg (by omega), if_neg (by omega), if_neg (fun e => he e.symm)]
          exact old
      · rw [if_neg hk, List.getElem?_eq_none]
        rw [flat_len (xs.set i x) (k := 3) (fun y _ => rfl), List.length_set]
        omega
    · intro u hu
      have hm := List.mem_iff_getElem?.1 hu
      obtain ⟨k, hk⟩ := hm
      simp only [Array.toList_setIfInBounds, List.getElem?_set, List.length_set, Array.length_toList] at hk
      by_cases e2 : i * 3 + 2 = k
      · rw [if_pos e2, if_pos (by omega)] at hk
        injection hk with hk; subst hk; exact NoW_slice _ _ _
      · rw [if_neg e2] at hk
        by_cases e1 : i * 3 + 1 = k
        · rw [if_pos e1, if_pos (by omega)] at hk
          injection hk with hk; subst hk; exact NoW_slice _ _ _
        · rw [if_neg e1] at hk
          by_cases e0 : i * 3 = k
          · rw [if_pos e0, if_pos (by omega)] at hk
            injection hk with hk; subst hk; exact NoW_bool _
          · rw [if_neg e0] at hk
            exact h7 u (List.mem_of_getElem? hk)
theorem OwnC.lt_ (h : OwnC 3 RQ.cells t B w (.slice (some ⟨g, 0, none⟩) n cap) xs) : g < w.heap.size ∧ B ≤ g ∧ xs.length = n := by
  rcases h.2 with ⟨e, _⟩ | ⟨g', cap', cur, e, h1, h2, h3⟩
  · injection e with e1; cases e1
  · injection e with e1 e2 e3
    injection e1 with e1
    injection e1 with e1
    subst e1 e2 e3
    refine ⟨?_, h1, rfl⟩
    rcases Nat.lt_or_ge g w.heap.size with h9 | h9
    · exact h9
    · rw [Array.getElem?_eq_none h9] at h2; cases h2
theorem OwnC.keepG {g' : Nat} (h : OwnC 3 RQ.cells t B w (.slice (some ⟨g, 0, none⟩) n cap) xs) (k : Keep g' w w') (hne : g ≠ g') : OwnC 3 RQ.cells t B w' (.slice (some ⟨g, 0, none⟩) n cap) xs := by
  have hlt := h.lt_.1
  refine ⟨h.1, ?_⟩
  rcases h.2 with ⟨e, _⟩ | ⟨g1, cap', cur, e, h1, h2, h3⟩
  · injection e with e1; cases e1
  · have e' := e
    injection e' with e1 e2 e3
    injection e1 with e1
    injection e1 with e1
    subst e1
    exact .inr ⟨g, cap', cur, e, h1, (k.block g hlt hne).trans h2, h3⟩
end
theorem Sl.keepN {w w' : World} {A : Option Addr} {n c g : Nat} {xs : List Int} (h : Sl w A n c xs) (hg : NoWAt w g) (k : Keep g w w') : Sl w' A n c xs := by
  refine ⟨h.1, fun h0 => ?_⟩
  obtain ⟨b, off, e, hlt, hc⟩ := h.2 h0
  have hne : b ≠ g := fun e2 => by subst e2; exact hg _ _ (hc 0 h0)
  exact ⟨b, off, e, Nat.lt_of_lt_of_le hlt k.size, fun j hj => (World.cell?_of_block (a := ⟨b, off + j, none⟩) (k.block b hlt hne)).trans (hc j hj)⟩
theorem Q.keepN {w w' : World} {s : Bool} {A A' : Option Addr} {n c n' c' g : Nat} {X : Rat} (h : Q w s A n c A' n' c' X) (hg : NoWAt w g) (k : Keep g w w') : Q w' s A n c A' n' c' X := ⟨h.1, h.2.1.keepN hg k, h.2.2.keepN hg k⟩
theorem RQ.keepN {w w' : World} {g : Nat} {x : RQ} (h : x.ok w) (hg : NoWAt w g) (k : Keep g w w') : x.ok w' := ⟨h.1.keepN hg k, h.2.1.keepN hg k, h.2.2⟩
/-- slices elsewhere -/
theorem SlC.keepN {k : Nat} {V : Type} {cells : V → List Value} {ok : World → V → Prop} {w w' : World} {A : Option Addr} {n c g : Nat} {xs : List V} (h : SlC k cells ok w A n c xs) (hok : ∀ x ∈ xs, ok w' x) (kp : Keep g w w') (hne : ∀ b off, A = some ⟨b, off, none⟩ → b ≠ g) : SlC k cells ok w' A n c xs := by
  refine ⟨⟨h.1.1, h.1.2.1, h.1.2.2.1, fun x hx => ⟨hok x hx, (h.1.2.2.2 x hx).2⟩⟩, fun h0 => ?_⟩
  obtain ⟨b, off, e, hlt, hc⟩ := h.2 h0
  exact ⟨b, off, e, Nat.lt_of_lt_of_le hlt kp.size, fun j hj i hi => (World.cell?_of_block (a := ⟨b, off + j * k + i, none⟩) (kp.block b hlt (hne b off e))).trans (hc j hj i hi)⟩
/-- a number is put in the place of an element -/
theorem OwnQ.put {B : Nat} {w : World} {g n cap : Nat} {Xs : List Rat} (h : OwnQ B w (.slice (some ⟨g, 0, none⟩) n cap) Xs) {i : Nat} (hi : i < n) {x : RQ} {X : Rat} (hx : x.ok w) (hX : x.is w X) :
    OwnQ B (put3o w g (i * 3) (.bool x.s) (.slice x.A x.n x.c) (.slice x.A' x.n' x.c')) (.slice (some ⟨g, 0, none⟩) n cap) (Xs.set i X) := by
  obtain ⟨xs, h1, h2, h3⟩ := h
  have hn := h1.noW g rfl
  have hk := keep_put3o w g (i * 3) (.bool x.s) (.slice x.A x.n x.c) (.slice x.A' x.n' x.c')
  have hl := h1.lt_.2.2
  refine ⟨xs.set i x, h1.put3o hi x, by rw [List.length_set, List.length_set, h2], fun j y hy => ?_⟩
  rw [List.getElem?_set] at hy
  rw [List.getD_eq_getElem?_getD, List.getElem?_set]
  by_cases e : i = j
  · subst e
    rw [if_pos rfl, if_pos (by omega)] at hy
    injection hy with hy
    subst hy
    rw [if_pos rfl, if_pos (by omega)]
    exact ⟨RQ.keepN hx hn hk, Q.keepN hX hn hk⟩
  · rw [if_neg e] at hy
    rw [if_neg e, ← List.getD_eq_getElem?_getD]
    obtain ⟨g1, g2⟩ := h3 j y hy
    exact ⟨RQ.keepN g1 hn hk, Q.keepN g2 hn hk⟩
theorem OwnQ.noW {B : Nat} {w : World} {g n cap : Nat} {Xs : List Rat} (h : OwnQ B w (.slice (some ⟨g, 0, none⟩) n cap) Xs) : NoWAt w g := by
  obtain ⟨xs, h1, _⟩ := h
  exact h1.noW g rfl
theorem OwnQ.lt {B : Nat} {w : World} {g n cap : Nat} {Xs : List Rat} (h : OwnQ B w (.slice (some ⟨g, 0, none⟩) n cap) Xs) : g < w.heap.size ∧ B ≤ g ∧ Xs.length = n := by
  obtain ⟨xs, h1, h2, _⟩ := h
  obtain ⟨g1, g2, g3⟩ := h1.lt_
  exact ⟨g1, g2, by omega⟩
/-- another row -/
theorem OwnQ.keepG {B : Nat} {w w' : World} {g g' n cap : Nat} {Xs : List Rat} (h : OwnQ B w (.slice (some ⟨g, 0, none⟩) n cap) Xs) (hn : NoWAt w g') (k : Keep g' w w') (hne : g ≠ g') : OwnQ B w' (.slice (some ⟨g, 0, none⟩) n cap) Xs := by
  obtain ⟨xs, h1, h2, h3⟩ := h
  exact ⟨xs, h1.keepG k hne, h2, fun j x hx => ⟨RQ.keepN (h3 j x hx).1 hn k, Q.keepN (h3 j x hx).2 hn k⟩⟩
theorem SlQ.keepN {w w' : World} {A : Option Addr} {n c g : Nat} {Xs : List Rat} (h : SlQ w A n c Xs) (hn : NoWAt w g) (k : Keep g w w') (hne : ∀ b off, A = some ⟨b, off, none⟩ → b ≠ g) : SlQ w' A n c Xs := by
  obtain ⟨xs, h1, h2, h3⟩ := h
  exact ⟨xs, SlC.keepN h1 (fun x hx => RQ.keepN (h1.1.2.2.2 x hx).1 hn k) k hne, h2, fun j x hx => Q.keepN (h3 j x hx) hn k⟩
/-- an element as it lies -/
theorem OwnQ.at_ {B : Nat} {w : World} {g n cap : Nat} {Xs : List Rat} (h : OwnQ B w (.slice (some ⟨g, 0, none⟩) n cap) Xs) {j : Nat} (hj : j < n) : ∃ s A1 n1 c1 A2 n2 c2,
    w.cell? ⟨g, j * 3, none⟩ = some (.bool s) ∧ w.cell? ⟨g, j * 3 + 1, none⟩ = some (.slice A1 n1 c1) ∧ w.cell? ⟨g, j * 3 + 2, none⟩ = some (.slice A2 n2 c2) ∧ Q w s A1 n1 c1 A2 n2 c2 (Xs.getD j 0) ∧
    w.frozen? ⟨g, j * 3, none⟩ = false ∧ w.frozen? ⟨g, j * 3 + 1, none⟩ = false ∧ w.frozen? ⟨g, j * 3 + 2, none⟩ = false := by
  obtain ⟨b, off, s, A1, n1, c1, A2, n2, c2, e, hlt, k0, k1, k2, q⟩ := h.slq.at_ hj
  injection e with e
  injection e with e1 e2
  subst e1 e2
  rw [Nat.zero_add] at k0 k1 k2
  obtain ⟨xs, h1, _⟩ := h
  have hf : ∀ i, w.frozen? ⟨g, i, none⟩ = false := fun i => by
    rcases h1.2 with ⟨e, _⟩ | ⟨g1, cap', cur, e, _, h2, _⟩
    · injection e with e1; cases e1
    · injection e with e1 e2 e3
      injection e1 with e1
      injection e1 with e1
      subst e1
      simp [World.frozen?, h2]
  exact ⟨s, A1, n1, c1, A2, n2, c2, k0, k1, k2, q, hf _, hf _, hf _⟩

end Go.Proofs.YtfhihapgjiaobaaGreat
