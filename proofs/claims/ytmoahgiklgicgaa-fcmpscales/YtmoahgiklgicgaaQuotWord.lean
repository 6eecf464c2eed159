/-
  What quot.Word, quot.estimate and quot.replace do. Conditions: the slices read as lists of words, of at most 10^7 words.
-/
import Derived.Test.YtmoahgiklgicgaaProdKara
import Derived.Test.YtmoahgiklgicgaaQuotMath
import Derived.Lib.SliceRun
namespace Go.Proofs.Ytmoahgiklgicgaa
set_option maxRecDepth 100000
open Go.RowKit
set_option linter.unusedVariables false
set_option linter.unusedSimpArgs false

/-- a call that returns a number, a word and true -/
def RetQW (q : Nat) (r : Int) (w : World) (e : Ending) (w' : World) : Prop := ∃ A n c, e = .returned (.tuple #[.slice A n c, .int .u64 r, .bool true]) ∧ Sl w' A n c (words q) ∧ Below w.heap.size w w'

theorem RetQW.of {q n c : Nat} {A : Option Addr} {r r' : Int} {w w' : World} (hr : r' = r) (hs : Sl w' A n c (words q)) (hb : Below w.heap.size w w') : RetQW q r w (.returned (.tuple #[.slice A n c, .int .u64 r', .bool true])) w' := by
  subst hr; exact ⟨A, n, c, rfl, hs, hb⟩

/-- .. in new memory -/
def RetQWN (q : Nat) (r : Int) (w : World) (e : Ending) (w' : World) : Prop := ∃ A n c, e = .returned (.tuple #[.slice A n c, .int .u64 r, .bool true]) ∧ Sl w' A n c (words q) ∧ Below w.heap.size w w' ∧ New w A
theorem RetQWN.of {q n c : Nat} {A : Option Addr} {r r' : Int} {w w' : World} (hr : r' = r) (hs : Sl w' A n c (words q)) (hb : Below w.heap.size w w') (hn : New w A) : RetQWN q r w (.returned (.tuple #[.slice A n c, .int .u64 r', .bool true])) w' := by
  subst hr; exact ⟨A, n, c, rfl, hs, hb, hn⟩

theorem quot_of_rem {q d r : Nat} (h : r < d) : (q * d + r) / d = q := by rw [Nat.mul_comm, Nat.mul_add_div (by omega), Nat.div_eq_of_lt h, Nat.add_zero]
/-- a call that returns a word that is at least t -/
def Est (t : Nat) (w : World) (e : Ending) (w' : World) : Prop := ∃ (q : Int) (k : Nat), e = .returned (.int .u64 q) ∧ U q ∧ t ≤ q.toNat ∧ w' = w.drewN k

theorem spl_set (zs : List Int) (o k : Nat) (ho : o < zs.length) : spl (zs.set o 0) (o + 1) (List.replicate k 0) = spl zs o (List.replicate (k + 1) 0) := by
  unfold spl
  rw [List.take_succ_eq_append_getElem (by rw [List.length_set]; exact ho), List.getElem_set_self, List.take_set_of_le (Nat.le_refl _), List.drop_set_of_lt (by omega), List.replicate_succ, List.length_cons, List.length_replicate,
    show o + 1 + k = o + (k + 1) by omega]
  simp
theorem Row.zeros {t : TypeId} {g : Nat} (k : Nat) : ∀ {w : World} {zs : List Int} {o : Nat}, Row t w g zs → o + k ≤ zs.length → Row t (w.setCells g o (List.replicate k (.int .u64 0))) g (spl zs o (List.replicate k 0)) := by
  induction k with
  | zero => intro w zs o h hk; unfold spl; simpa [World.setCells] using h
  | succ k ih =>
    intro w zs o h hk
    rw [← spl_set zs o k (by omega)]
    exact ih (h.set o 0) (by rw [List.length_set]; omega)
theorem Keep.zeros {g : Nat} {a : World} (k : Nat) : ∀ {w : World} {o : Nat}, Keep g a w → Keep g a (w.setCells g o (List.replicate k (.int .u64 0))) := by
  induction k with
  | zero => intro w o h; exact h
  | succ k ih => intro w o h; exact ih (h.setCell o _)
theorem zeroW (w : World) : (zeroValue 22).run Try.prog w = .ok (.int .u64 0) w := by kernel_rfl
theorem replaced_spl {zs xs : List Int} {off L m : Nat} (hd : Dg W zs) (hx : Dg W xs) (hm : xs.length = m) (hml : m ≤ L) (hfit : off + L ≤ zs.length) :
    Replaced zs off L (val xs) (spl (spl zs off xs) (off + m) (List.replicate (L - m) 0)) := by
  have l1 : (spl zs off xs).length = zs.length := length_spl (by omega)
  have e1 : (spl zs off xs).take (off + m) = zs.take off ++ xs := by
    unfold spl
    rw [← List.append_assoc, List.take_append_of_le_length (by simp; omega), List.take_of_length_le (by simp; omega)]
  have e2 : (spl zs off xs).drop (off + L) = zs.drop (off + L) := by
    unfold spl
    rw [← List.append_assoc, List.drop_append, List.drop_eq_nil_of_le (by simp; omega), List.drop_drop]
    have hl : (List.take off zs ++ xs).length = off + m := by simp; omega
    rw [hl, hm, List.nil_append]
    congr 1
    omega
  have e3 : spl (spl zs off xs) (off + m) (List.replicate (L - m) 0) = zs.take off ++ (xs ++ List.replicate (L - m) 0) ++ zs.drop (off + L) := by
    rw [spl, e1, List.length_replicate, show off + m + (L - m) = off + L by omega, e2]
    simp [List.append_assoc]
  have l4 : (List.take off zs).length = off := by simp; omega
  have l5 : (xs ++ List.replicate (L - m) (0 : Int)).length = L := by simp; omega
  rw [e3]
  refine ⟨by simp; omega, ((hd.take _).append (hx.append (Dg.zeros W_pos _))).append (hd.drop _), ?_, ?_, ?_⟩
  · rw [List.append_assoc, List.take_append_of_le_length (by omega), List.take_of_length_le (by omega)]
  · rw [List.drop_append, List.drop_eq_nil_of_le (by rw [List.length_append, l4, l5]; omega), List.length_append, l4, l5]
    simp
  · rw [List.append_assoc, List.drop_append, List.drop_eq_nil_of_le (by omega), l4, Nat.sub_self, List.drop_zero, List.nil_append, List.take_append_of_le_length (by omega), List.take_of_length_le (by omega), valB_over]
    rfl

end Go.Proofs.Ytmoahgiklgicgaa
