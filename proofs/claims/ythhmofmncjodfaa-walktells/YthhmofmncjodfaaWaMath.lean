/-
  Places of elements: plain lists of naturals, no Go function in sight. Conditions: as each lemma says.
-/
import Derived.Test.YthhmofmncjodfaaShMath
namespace Go.Proofs.Ythhmofmncjodfaa
set_option linter.unusedVariables false
set_option linter.unusedSimpArgs false

def prodN : List Nat → Nat
  | [] => 1
  | x :: xs => x * prodN xs
theorem prodN_append (a b : List Nat) : prodN (a ++ b) = prodN a * prodN b := by
  induction a with
  | nil => simp [prodN]
  | cons x xs ih => rw [List.cons_append, prodN, prodN, ih, Nat.mul_assoc]
theorem prodN_snoc (l : List Nat) (x : Nat) : prodN (l ++ [x]) = prodN l * x := by rw [prodN_append]; simp [prodN]
/-- the place of element m -/
def placeN : List Nat → Nat → List Nat
  | [], _ => []
  | _ :: ds, m => (m / prodN ds) :: placeN ds (m % prodN ds)
theorem length_placeN (ds : List Nat) (m : Nat) : (placeN ds m).length = ds.length := by
  induction ds generalizing m with
  | nil => rfl
  | cons d ds ih => rw [placeN, List.length_cons, ih, List.length_cons]
/-- the number of the element at a place -/
def numN : List Nat → List Nat → Nat
  | _ :: ds, a :: as => a * prodN ds + numN ds as
  | _, _ => 0
/-- a place -/
def ValN : List Nat → List Nat → Prop
  | [], [] => True
  | d :: ds, a :: as => a < d ∧ ValN ds as
  | _, _ => False
theorem ValN.len {ds as : List Nat} (h : ValN ds as) : as.length = ds.length := by
  induction ds generalizing as with
  | nil => cases as with
    | nil => rfl
    | cons a as => exact h.elim
  | cons d ds ih => cases as with
    | nil => exact h.elim
    | cons a as => rw [List.length_cons, List.length_cons, ih h.2]
theorem numN_lt {ds as : List Nat} (h : ValN ds as) : numN ds as < prodN ds := by
  induction ds generalizing as with
  | nil => cases as <;> simp [numN, prodN]
  | cons d ds ih => cases as with
    | nil => exact h.elim
    | cons a as =>
      have h1 := ih h.2
      have h2 : (a + 1) * prodN ds ≤ d * prodN ds := Nat.mul_le_mul_right _ h.1
      rw [Nat.add_mul] at h2
      rw [numN, prodN]
      omega
theorem placeN_val {ds : List Nat} {m : Nat} (h : m < prodN ds) : ValN ds (placeN ds m) := by
  induction ds generalizing m with
  | nil => exact trivial
  | cons d ds ih =>
    rw [prodN] at h
    rw [placeN]
    have hp : 0 < prodN ds := by
      rcases Nat.eq_zero_or_pos (prodN ds) with h0 | h0
      · rw [h0, Nat.mul_zero] at h; omega
      · exact h0
    exact ⟨(Nat.div_lt_iff_lt_mul hp).2 h, ih (Nat.mod_lt _ hp)⟩
theorem num_place {ds : List Nat} {m : Nat} (h : m < prodN ds) : numN ds (placeN ds m) = m := by
  induction ds generalizing m with
  | nil => simp [prodN] at h; simp [placeN, numN, h]
  | cons d ds ih =>
    rw [prodN] at h
    have hp : 0 < prodN ds := by
      rcases Nat.eq_zero_or_pos (prodN ds) with h0 | h0
      · rw [h0, Nat.mul_zero] at h; omega
      · exact h0
    rw [placeN, numN, ih (Nat.mod_lt _ hp), Nat.mul_comm]
    exact Nat.div_add_mod m (prodN ds)
theorem place_num {ds as : List Nat} (h : ValN ds as) : placeN ds (numN ds as) = as := by
  induction ds generalizing as with
  | nil => cases as with
    | nil => rfl
    | cons a as => exact h.elim
  | cons d ds ih => cases as with
    | nil => exact h.elim
    | cons a as =>
      have h1 := numN_lt h.2
      have hp : 0 < prodN ds := by omega
      rw [numN, placeN, Nat.mul_comm, Nat.mul_add_div hp, Nat.div_eq_of_lt h1, Nat.mul_add_mod, Nat.mod_eq_of_lt h1, ih h.2, Nat.add_zero]
theorem placeN_snoc {ds : List Nat} {x m : Nat} (h : m < prodN ds * x) : placeN (ds ++ [x]) m = placeN ds (m / x) ++ [m % x] := by
  induction ds generalizing m with
  | nil =>
    simp [prodN] at h
    simp [placeN, prodN, Nat.mod_eq_of_lt h]
  | cons e es ih =>
    rw [prodN] at h
    have hx : 0 < x := by
      rcases Nat.eq_zero_or_pos x with h0 | h0
      · rw [h0, Nat.mul_zero] at h; omega
      · exact h0
    have hp : 0 < prodN es := by
      rcases Nat.eq_zero_or_pos (prodN es) with h0 | h0
      · rw [h0, Nat.mul_zero, Nat.zero_mul] at h; omega
      · exact h0
    rw [List.cons_append, placeN, placeN, List.cons_append, prodN_snoc, ih (Nat.mod_lt _ (Nat.mul_pos hp hx)), Nat.div_div_eq_div_mul, Nat.mul_comm x (prodN es)]
    congr 1
    rw [Nat.mod_mul_left_div_self, Nat.mod_mul_left_mod]
theorem range_mul (p x : Nat) : List.range (p * x) = (List.range p).flatMap fun o => (List.range x).map fun y => o * x + y := by
  induction p with
  | zero => simp
  | succ p ih => rw [Nat.add_mul, Nat.one_mul, List.range_add, ih, List.range_succ, List.flatMap_append]; simp
/-- all places -/
def allN (ds : List Nat) : List (List Nat) := (List.range (prodN ds)).map (placeN ds)
theorem length_allN (ds : List Nat) : (allN ds).length = prodN ds := by simp [allN]
theorem allN_nil : allN [] = [[]] := rfl
theorem allN_at {ds : List Nat} {m : Nat} (h : m < prodN ds) : (allN ds)[m]? = some (placeN ds m) := by simp [allN, h]
theorem allN_snoc (ds : List Nat) (x : Nat) : allN (ds ++ [x]) = (allN ds).flatMap fun o => (List.range x).map fun y => o ++ [y] := by
  unfold allN
  rw [prodN_snoc, range_mul, List.map_flatMap, List.flatMap_map]
  have hf : ∀ l : List Nat, (∀ o ∈ l, o < prodN ds) → l.flatMap (fun a => ((List.range x).map fun y => a * x + y).map (placeN (ds ++ [x]))) = l.flatMap (fun a => (List.range x).map fun y => placeN ds a ++ [y]) := by
    intro l hl
    induction l with
    | nil => rfl
    | cons o l ih =>
      rw [List.flatMap_cons, List.flatMap_cons, ih (fun y hy => hl y (by simp [hy]))]
      congr 1
      rw [List.map_map]
      apply List.map_congr_left
      intro y hy
      have hy' := List.mem_range.1 hy
      have ho := hl o (by simp)
      have h1 : (o + 1) * x ≤ prodN ds * x := Nat.mul_le_mul_right _ ho
      rw [Nat.add_mul] at h1
      have hx : 0 < x := by omega
      show placeN (ds ++ [x]) (o * x + y) = _
      rw [placeN_snoc (by omega), Nat.mul_comm o x, Nat.mul_add_div hx, Nat.div_eq_of_lt hy', Nat.mul_add_mod, Nat.mod_eq_of_lt hy', Nat.add_zero]
  exact hf _ (fun o ho => List.mem_range.1 ho)
/-- two different elements have different places -/
theorem place_inj {ds : List Nat} {m k : Nat} (hm : m < prodN ds) (hk : k < prodN ds) (h : placeN ds m = placeN ds k) : m = k := by rw [← num_place hm, h, num_place hk]
/-- the lexical order -/
def lexB : List Int → List Int → Bool
  | [], [] => false
  | [], _ :: _ => true
  | _ :: _, [] => false
  | x :: xs, y :: ys => if x < y then true else if y < x then false else lexB xs ys
def castL (l : List Nat) : List Int := l.map fun x : Nat => (x : Int)
theorem length_castL (l : List Nat) : (castL l).length = l.length := by simp [castL]
theorem castL_at {l : List Nat} {i : Nat} (hi : i < l.length) : (castL l).getD i 0 = ((l.getD i 0 : Nat) : Int) := by simp [castL, hi]
theorem castL_inj {a b : List Nat} (h : castL a = castL b) : a = b := by
  have hl : a.length = b.length := by rw [← length_castL, h, length_castL]
  apply List.ext_getElem hl
  intro i h1 h2
  have h3 : (castL a).getD i 0 = (castL b).getD i 0 := by rw [h]
  rw [castL_at h1, castL_at h2] at h3
  simp [List.getD_eq_getElem?_getD, h1, h2] at h3
  omega
theorem lex_num {ds as bs : List Nat} (ha : ValN ds as) (hb : ValN ds bs) : lexB (castL as) (castL bs) = decide (numN ds as < numN ds bs) := by
  induction ds generalizing as bs with
  | nil =>
    cases as with
    | cons a as => exact ha.elim
    | nil => cases bs with
      | cons b bs => exact hb.elim
      | nil => simp [castL, lexB, numN]
  | cons d ds ih =>
    cases as with
    | nil => exact ha.elim
    | cons a as => cases bs with
      | nil => exact hb.elim
      | cons b bs =>
        have h1 := numN_lt ha.2
        have h2 := numN_lt hb.2
        have e : lexB (castL (a :: as)) (castL (b :: bs)) = if (a : Int) < b then true else if (b : Int) < a then false else lexB (castL as) (castL bs) := rfl
        rw [e, ih ha.2 hb.2, numN, numN]
        by_cases c1 : a < b
        · have h3 : (a + 1) * prodN ds ≤ b * prodN ds := Nat.mul_le_mul_right _ c1
          rw [Nat.add_mul] at h3
          rw [if_pos (by omega)]
          symm
          rw [decide_eq_true_eq]
          omega
        · by_cases c2 : b < a
          · have h3 : (b + 1) * prodN ds ≤ a * prodN ds := Nat.mul_le_mul_right _ c2
            rw [Nat.add_mul] at h3
            rw [if_neg (by omega), if_pos (by omega)]
            symm
            rw [decide_eq_false_iff_not]
            omega
          · obtain rfl : a = b := by omega
            rw [if_neg (by omega), if_neg (by omega), decide_eq_decide]
            omega
/-- dims as naturals -/
def nat_ (d : List Int) : List Nat := d.map Int.toNat
theorem cast_nat {d : List Int} (hp : ∀ x ∈ d, 0 ≤ x) : castL (nat_ d) = d := by
  unfold castL nat_
  rw [List.map_map]
  conv => rhs; rw [← List.map_id d]
  apply List.map_congr_left
  intro x hx
  have := hp x hx
  simp
  omega
theorem length_nat (d : List Int) : (nat_ d).length = d.length := by simp [nat_]
theorem prod_nat {d : List Int} (hp : Pos1 d) : (prodN (nat_ d) : Int) = prodZ d := by
  induction d with
  | nil => rfl
  | cons x xs ih =>
    have h1 := hp x (by simp)
    have h2 := ih (fun y hy => hp y (by simp [hy]))
    show ((x.toNat * prodN (nat_ xs) : Nat) : Int) = x * prodZ xs
    rw [Int.natCast_mul, h2, Int.toNat_of_nonneg (by omega)]
theorem nat_drop (d : List Int) (k : Nat) : nat_ (d.drop k) = (nat_ d).drop k := by unfold nat_; rw [List.map_drop]
theorem nat_take (d : List Int) (k : Nat) : nat_ (d.take k) = (nat_ d).take k := by unfold nat_; rw [List.map_take]

/-- is it a place? -/
def inB (d a : List Int) : Bool := decide (a.length = d.length) && (List.range d.length).all fun i => decide (0 ≤ a.getD i 0 ∧ a.getD i 0 < d.getD i 0)
theorem inB_iff (d a : List Int) : inB d a = true ↔ a.length = d.length ∧ ∀ i, i < d.length → 0 ≤ a.getD i 0 ∧ a.getD i 0 < d.getD i 0 := by
  unfold inB
  rw [Bool.and_eq_true, decide_eq_true_eq, List.all_eq_true]
  simp only [List.mem_range, decide_eq_true_eq]
theorem in_val {d a : List Int} (hp : Pos1 d) (h : inB d a = true) : ValN (nat_ d) (nat_ a) ∧ castL (nat_ a) = a := by
  rw [inB_iff] at h
  obtain ⟨hl, h⟩ := h
  induction d generalizing a with
  | nil =>
    obtain rfl : a = [] := List.eq_nil_of_length_eq_zero (by simpa using hl)
    exact ⟨trivial, rfl⟩
  | cons x xs ih =>
    cases a with
    | nil => simp at hl
    | cons y ys =>
      have h0 := h 0 (by simp)
      simp at h0
      obtain ⟨i1, i2⟩ := ih (a := ys) (fun z hz => hp z (by simp [hz])) (by simpa using hl) (fun i hi => by have := h (i + 1) (by simpa using hi); simpa using this)
      refine ⟨⟨by omega, i1⟩, ?_⟩
      show (y.toNat : Int) :: castL (nat_ ys) = y :: ys
      rw [i2, Int.toNat_of_nonneg h0.1]
theorem val_in {d : List Int} {a : List Nat} (hp : Pos1 d) (h : ValN (nat_ d) a) : inB d (castL a) = true := by
  rw [inB_iff]
  refine ⟨by rw [length_castL, h.len, length_nat], ?_⟩
  induction d generalizing a with
  | nil => intro i hi; simp at hi
  | cons x xs ih =>
    cases a with
    | nil => exact h.elim
    | cons y ys =>
      have h1 := hp x (by simp)
      intro i hi
      have h2 : y < x.toNat := h.1
      cases i with
      | zero =>
        show 0 ≤ (y : Int) ∧ (y : Int) < x
        omega
      | succ i => exact ih (a := ys) (fun z hz => hp z (by simp [hz])) h.2 i (by simpa using hi)

/-- what is left of m behind the first k axes -/
def remN (ds : List Nat) (m : Nat) : Nat → Nat
  | 0 => m
  | k + 1 => remN ds m k % prodN (ds.drop (k + 1))
theorem remN_cons (d : Nat) (ds : List Nat) (m k : Nat) : remN (d :: ds) m (k + 1) = remN ds (m % prodN ds) k := by
  induction k with
  | zero => rfl
  | succ k ih => rw [remN, ih, remN]; rfl
theorem placeN_at {ds : List Nat} {m k : Nat} (hk : k < ds.length) : (placeN ds m).getD k 0 = remN ds m k / prodN (ds.drop (k + 1)) := by
  induction ds generalizing m k with
  | nil => simp at hk
  | cons d ds ih =>
    cases k with
    | zero => rfl
    | succ k =>
      rw [remN_cons]
      show (placeN ds (m % prodN ds)).getD k 0 = _
      rw [ih (by simpa using hk)]
      rfl
theorem numN_to {ds as : List Nat} (h : as.length = ds.length) (k : Nat) (hk : k ≤ ds.length) : numN ds as = ((List.range k).map fun i => as.getD i 0 * prodN (ds.drop (i + 1))).sum + numN (ds.drop k) (as.drop k) := by
  induction k with
  | zero => simp
  | succ k ih =>
    rw [ih (by omega), List.range_succ, List.map_append, List.sum_append]
    have h1 : ds.drop k = ds[k] :: ds.drop (k + 1) := List.drop_eq_getElem_cons (by omega)
    have h2 : as.drop k = as[k] :: as.drop (k + 1) := List.drop_eq_getElem_cons (by omega)
    have h3 : as.getD k 0 = as[k] := by rw [List.getD_eq_getElem?_getD, List.getElem?_eq_getElem (by omega)]; rfl
    have h4 : ([k].map fun i => as.getD i 0 * prodN (ds.drop (i + 1))).sum = as[k] * prodN (ds.drop (k + 1)) := by
      rw [← h3]
      simp
    rw [h4, h1, h2, numN]
    omega

end Go.Proofs.Ythhmofmncjodfaa
