/-
  Dims: products, the error of dims, steps. Plain lists of integers, no Go function in sight. Conditions: as each lemma says.
-/
import Derived.Test.YthhmofmncjodfaaLnMem
namespace Go.Proofs.Ythhmofmncjodfaa
set_option linter.unusedVariables false
set_option linter.unusedSimpArgs false

/-- the product of dims -/
def prodZ : List Int → Int
  | [] => 1
  | x :: xs => x * prodZ xs
theorem prodZ_append (a b : List Int) : prodZ (a ++ b) = prodZ a * prodZ b := by
  induction a with
  | nil => simp [prodZ]
  | cons x xs ih => rw [List.cons_append, prodZ, prodZ, ih, Int.mul_assoc]
theorem prodZ_one (x : Int) : prodZ [x] = x := by simp [prodZ]
theorem prodZ_snoc (l : List Int) (x : Int) : prodZ (l ++ [x]) = prodZ l * x := by rw [prodZ_append, prodZ_one]
/-- all dims are at least 1 -/
def Pos1 (d : List Int) : Prop := ∀ x ∈ d, 1 ≤ x
theorem Pos1.take {d : List Int} (h : Pos1 d) (k : Nat) : Pos1 (d.take k) := fun x hx => h x (List.mem_of_mem_take hx)
theorem Pos1.drop {d : List Int} (h : Pos1 d) (k : Nat) : Pos1 (d.drop k) := fun x hx => h x (List.mem_of_mem_drop hx)
theorem mul_ge_one {a b : Int} (ha : 1 ≤ a) (hb : 1 ≤ b) : 1 ≤ a * b ∧ a ≤ a * b ∧ b ≤ a * b := by
  have h1 : a * 1 ≤ a * b := Int.mul_le_mul_of_nonneg_left hb (by omega)
  have h2 : 1 * b ≤ a * b := Int.mul_le_mul_of_nonneg_right ha (by omega)
  omega
theorem prodZ_pos : ∀ {d : List Int}, Pos1 d → 1 ≤ prodZ d
  | [], _ => by simp [prodZ]
  | x :: xs, h => (mul_ge_one (h x (by simp)) (prodZ_pos (fun y hy => h y (by simp [hy])))).1
theorem prodZ_split (d : List Int) (k : Nat) : prodZ d = prodZ (d.take k) * prodZ (d.drop k) := by rw [← prodZ_append, List.take_append_drop]
theorem prodZ_take_le {d : List Int} (h : Pos1 d) (k : Nat) : prodZ (d.take k) ≤ prodZ d := by
  rw [prodZ_split d k]
  exact (mul_ge_one (prodZ_pos (h.take k)) (prodZ_pos (h.drop k))).2.1
theorem prodZ_drop_le {d : List Int} (h : Pos1 d) (k : Nat) : prodZ (d.drop k) ≤ prodZ d := by
  rw [prodZ_split d k]
  exact (mul_ge_one (prodZ_pos (h.take k)) (prodZ_pos (h.drop k))).2.2
theorem getD_eq {d : List Int} {k : Nat} (hk : k < d.length) : d.getD k 0 = d[k] := by rw [List.getD_eq_getElem?_getD, List.getElem?_eq_getElem hk]; rfl
theorem take_snocZ {d : List Int} {k : Nat} (hk : k < d.length) : d.take (k + 1) = d.take k ++ [d.getD k 0] := by
  rw [List.take_succ_eq_append_getElem hk, getD_eq hk]
theorem prodZ_take {d : List Int} {k : Nat} (hk : k < d.length) : prodZ (d.take (k + 1)) = prodZ (d.take k) * d.getD k 0 := by rw [take_snocZ hk, prodZ_snoc]
theorem drop_consZ {d : List Int} {k : Nat} (hk : k < d.length) : d.drop k = d.getD k 0 :: d.drop (k + 1) := by
  rw [List.drop_eq_getElem_cons hk, getD_eq hk]
theorem prodZ_drop {d : List Int} {k : Nat} (hk : k < d.length) : prodZ (d.drop k) = d.getD k 0 * prodZ (d.drop (k + 1)) := by rw [drop_consZ hk, prodZ]
theorem Pos1.at {d : List Int} (h : Pos1 d) {k : Nat} (hk : k < d.length) : 1 ≤ d.getD k 0 := by rw [getD_eq hk]; exact h _ (List.getElem_mem hk)
/-- all dims are at least 1, as a truth -/
def pos1 (d : List Int) : Bool := d.all fun x => decide (1 ≤ x)
theorem pos1_iff (d : List Int) : pos1 d = true ↔ Pos1 d := by unfold pos1 Pos1; simp
theorem pos1_no {d : List Int} {k : Nat} (hk : k < d.length) (h : d.getD k 0 < 1) : pos1 d = false := by
  rw [Bool.eq_false_iff]
  intro hh
  have := ((pos1_iff d).1 hh).at hk
  omega
theorem pos1_of {d : List Int} (h : ∀ j, j < d.length → 1 ≤ d.getD j 0) : pos1 d = true := by
  rw [pos1_iff]
  intro x hx
  obtain ⟨j, hj, rfl⟩ := List.getElem_of_mem hx
  rw [← getD_eq hj]
  exact h j hj
/-- the error of dims -/
def chk (d : List Int) : Int := if 6 < d.length then 9 else if pos1 d then (if 64 < prodZ d then 12 else 0) else 8
theorem chk_rank {d : List Int} (h : 6 < d.length) : chk d = 9 := by unfold chk; rw [if_pos h]
theorem chk_shape {d : List Int} (h : ¬ 6 < d.length) (hp : pos1 d = false) : chk d = 8 := by unfold chk; rw [if_neg h, hp]; rfl
theorem chk_many {d : List Int} (h : ¬ 6 < d.length) (hp : pos1 d = true) (hm : 64 < prodZ d) : chk d = 12 := by unfold chk; rw [if_neg h, hp, if_pos hm]; rfl
theorem chk_ok {d : List Int} (h : ¬ 6 < d.length) (hp : pos1 d = true) (hm : ¬ 64 < prodZ d) : chk d = 0 := by unfold chk; rw [if_neg h, hp, if_neg hm]; rfl
theorem chk_cases (d : List Int) : (6 < d.length ∧ chk d = 9) ∨ (¬ 6 < d.length ∧ pos1 d = false ∧ chk d = 8) ∨ (¬ 6 < d.length ∧ pos1 d = true ∧ 64 < prodZ d ∧ chk d = 12) ∨ (¬ 6 < d.length ∧ pos1 d = true ∧ ¬ 64 < prodZ d ∧ chk d = 0) := by
  by_cases h : 6 < d.length
  · exact .inl ⟨h, chk_rank h⟩
  · cases hp : pos1 d
    · exact .inr (.inl ⟨h, rfl, chk_shape h hp⟩)
    · by_cases hm : 64 < prodZ d
      · exact .inr (.inr (.inl ⟨h, rfl, hm, chk_many h hp hm⟩))
      · exact .inr (.inr (.inr ⟨h, rfl, hm, chk_ok h hp hm⟩))
/-- valid dims -/
structure Vd (d : List Int) : Prop where
  len : d.length ≤ 6
  pos : Pos1 d
  prod : prodZ d ≤ 64
theorem vd_of {d : List Int} (h : chk d = 0) : Vd d := by
  rcases chk_cases d with ⟨_, e⟩ | ⟨_, _, e⟩ | ⟨_, _, _, e⟩ | ⟨h1, h2, h3, _⟩
  · rw [e] at h; omega
  · rw [e] at h; omega
  · rw [e] at h; omega
  · exact ⟨by omega, (pos1_iff d).1 h2, by omega⟩
theorem Vd.chk {d : List Int} (h : Vd d) : Go.Proofs.Ythhmofmncjodfaa.chk d = 0 := chk_ok (by have := h.len; omega) ((pos1_iff d).2 h.pos) (by have := h.prod; omega)
theorem Vd.drop {d : List Int} (h : Vd d) (k : Nat) : Vd (d.drop k) := ⟨by rw [List.length_drop]; have := h.len; omega, h.pos.drop k, Int.le_trans (prodZ_drop_le h.pos k) h.prod⟩
theorem Vd.at {d : List Int} (h : Vd d) {k : Nat} (hk : k < d.length) : 1 ≤ d.getD k 0 ∧ d.getD k 0 ≤ 64 := by
  refine ⟨h.pos.at hk, ?_⟩
  have h1 := prodZ_drop hk
  have h2 := prodZ_drop_le h.pos k
  have h3 := h.prod
  have h4 := (mul_ge_one (h.pos.at hk) (prodZ_pos (h.pos.drop (k + 1)))).2.1
  omega
theorem chk_range (d : List Int) : 0 ≤ chk d ∧ chk d ≤ 12 := by
  rcases chk_cases d with ⟨_, e⟩ | ⟨_, _, e⟩ | ⟨_, _, _, e⟩ | ⟨_, _, _, e⟩ <;> omega
/-- the number of elements -/
def cntZ (d : List Int) : Int := if chk d = 0 then prodZ d else 0
theorem cntZ_ok {d : List Int} (h : chk d = 0) : cntZ d = prodZ d := by unfold cntZ; rw [if_pos h]
theorem cntZ_no {d : List Int} (h : ¬ chk d = 0) : cntZ d = 0 := by unfold cntZ; rw [if_neg h]
theorem cntZ_range (d : List Int) : 0 ≤ cntZ d ∧ cntZ d ≤ 64 := by
  by_cases h : chk d = 0
  · rw [cntZ_ok h]
    have := vd_of h
    have h1 := prodZ_pos this.pos
    have h2 := this.prod
    omega
  · rw [cntZ_no h]; omega
/-- a step of the product that is still small enough -/
theorem quo_lt {n x : Int} (hn : 1 ≤ n) (h : 64 / n < x) : 64 < n * x := by
  have h1 := Int.lt_mul_of_ediv_lt (c := n) (by omega) h
  rwa [Int.mul_comm] at h1
theorem quo_le {n x : Int} (hn : 1 ≤ n) (h : ¬ 64 / n < x) : n * x ≤ 64 := by
  have h1 : x ≤ 64 / n := by omega
  have h2 := Int.mul_le_of_le_ediv (by omega) h1
  rwa [Int.mul_comm] at h2
/-- the distances of elements along each axis -/
def stepsZ (d : List Int) : List Int := (List.range d.length).map fun i => prodZ (d.drop (i + 1))
theorem length_stepsZ (d : List Int) : (stepsZ d).length = d.length := by simp [stepsZ]
theorem stepsZ_at {d : List Int} {i : Nat} (hi : i < d.length) : (stepsZ d).getD i 0 = prodZ (d.drop (i + 1)) := by simp [stepsZ, hi]
def stps (d : List Int) : List Int := if chk d = 0 then stepsZ d else []
theorem stps_ok {d : List Int} (h : chk d = 0) : stps d = stepsZ d := by unfold stps; rw [if_pos h]
theorem stps_no {d : List Int} (h : ¬ chk d = 0) : stps d = [] := by unfold stps; rw [if_neg h]

end Go.Proofs.Ythhmofmncjodfaa
