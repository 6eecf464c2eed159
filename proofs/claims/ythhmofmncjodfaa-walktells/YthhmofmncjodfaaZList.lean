/-
  Rows of slices of ints that a call makes and appends to. No Go function in sight. Conditions: as each lemma says.
-/
import Derived.Test.YthhmofmncjodfaaWaB
import Derived.OwnWalkIn
namespace Go.Proofs.Ythhmofmncjodfaa
open Go.RowKit
set_option linter.unusedVariables false
set_option linter.unusedSimpArgs false

/-- a slice of ints as it lies, and what it reads as -/
structure ZS where
  A : Option Addr
  n : Nat
  c : Nat
  z : List Int
instance : Inhabited ZS := ⟨⟨none, 0, 0, []⟩⟩
def ZS.ok (w : World) (x : ZS) : Prop := SlZ w x.A x.n x.c x.z ∧ Typ w x.A x.n
def ZS.cells (x : ZS) : List Value := [.slice x.A x.n x.c]
theorem ZS.below {w w' : World} {x : ZS} (h : x.ok w) (hb : Below w.heap.size w w') : x.ok w' := ⟨h.1.below hb, h.2.below hb⟩
/-- a slice of slices of ints -/
def SlL (w : World) (A : Option Addr) (n c : Nat) (xs : List ZS) : Prop := SlC 1 ZS.cells ZS.ok w A n c xs
theorem SlL.below {w w' : World} {A : Option Addr} {n c : Nat} {xs : List ZS} (h : SlL w A n c xs) (hb : Below w.heap.size w w') : SlL w' A n c xs := SlC.below (cells := ZS.cells) (ok := ZS.ok) (fun h hb => ZS.below h hb) h hb
theorem SlL.len {w : World} {A : Option Addr} {n c : Nat} {xs : List ZS} (h : SlL w A n c xs) : xs.length = n := h.1.1
theorem SlL.cap {w : World} {A : Option Addr} {n c : Nat} {xs : List ZS} (h : SlL w A n c xs) : n ≤ c ∧ c ≤ maxLen := ⟨h.1.2.1, h.1.2.2.1⟩
theorem SlL.small {w : World} {A : Option Addr} {n c : Nat} {xs : List ZS} (h : SlL w A n c xs) : n ≤ 9223372036854775807 := by have := h.cap; unfold maxLen at this; omega
theorem SlL.drewN {w : World} {A : Option Addr} {n c : Nat} {xs : List ZS} (h : SlL w A n c xs) (k : Nat) : SlL (w.drewN k) A n c xs := h
theorem SlL.get {w : World} {A : Option Addr} {n c : Nat} {xs : List ZS} (h : SlL w A n c xs) {j : Nat} (hj : j < n) :
    ∃ b off x, xs[j]? = some x ∧ A = some ⟨b, off, none⟩ ∧ b < w.heap.size ∧ x.ok w ∧ w.cell? ⟨b, off + j, none⟩ = some (.slice x.A x.n x.c) := by
  obtain ⟨b, off, e, hlt, hc⟩ := h.2 (by omega)
  have hl : j < xs.length := by rw [h.len]; exact hj
  have hx : xs[j]? = some xs[j] := List.getElem?_eq_getElem hl
  have hcj := hc j hj 0 (by omega)
  rw [hx, Nat.mul_one, Nat.add_zero] at hcj
  exact ⟨b, off, xs[j], hx, e, hlt, (h.1.2.2.2 _ (List.getElem_mem hl)).1, hcj⟩
/-- typed slices stay where a block of another type grows -/
theorem Typ.grown {w w' : World} {A : Option Addr} {n : Nat} {r : Option Nat} {t' : TypeId} (h : Typ w A n) (hg : w.grownBy w' r) (hr : ∀ g, r = some g → ∃ cur, w.heap[g]? = some (.cells cur t' (0, 0))) (hne : t' ≠ 3) : Typ w' A n := fun h0 => by
  obtain ⟨b, off, cur, fr, e, hh⟩ := h h0
  refine ⟨b, off, cur, fr, e, (hg.block b (Array.getElem?_eq_some_iff.1 hh).1 (fun e2 => ?_)).trans hh⟩
  obtain ⟨cur2, h2⟩ := hr b e2.symm
  rw [hh] at h2
  injection h2 with h2
  injection h2 with _ h3
  exact hne h3.symm
theorem ZS.grown {w w' : World} {x : ZS} {r : Option Nat} {t' : TypeId} (h : x.ok w) (hg : w.grownBy w' r) (hr : ∀ g, r = some g → ∃ cur, w.heap[g]? = some (.cells cur t' (0, 0))) (hne : t' ≠ 3) : x.ok w' := by
  refine ⟨⟨h.1.1, fun h0 => ?_⟩, h.2.grown hg hr hne⟩
  obtain ⟨b, off, e, hlt, hc⟩ := h.1.2 h0
  obtain ⟨b', off', cur, fr, e', hh⟩ := h.2 h0
  rw [e] at e'
  injection e' with e'
  injection e' with e1 e2
  subst e1
  have hbl : w'.heap[b]? = w.heap[b]? := hg.block b hlt (fun e2 => by
    obtain ⟨cur2, h2⟩ := hr b e2.symm
    rw [hh] at h2
    injection h2 with h2
    injection h2 with _ h3
    exact hne h3.symm)
  refine ⟨b, off, e, Nat.lt_of_lt_of_le hlt hg.size, fun j hj i hi => ?_⟩
  have e1 : w'.cell? ⟨b, off + j * 1 + i, none⟩ = w.cell? ⟨b, off + j * 1 + i, none⟩ := World.cell?_of_block (a := ⟨b, off + j * 1 + i, none⟩) hbl
  rw [e1]
  exact hc j hj i hi
theorem infoL : (Try.prog.info? 22).map (fun i => (i.zero, i.size, i.bytes)) = some (some (.slice none 0 0), 1, 24) := by kernel_rfl
theorem zeroL : ∀ u ∈ (Value.slice none 0 0).cells.toList, NoW u := by
  intro u hu
  have e : (Value.slice none 0 0).cells.toList = [.slice none 0 0] := rfl
  rw [e, List.mem_singleton] at hu
  rw [hu]
  exact NoW_slice _ _ _
theorem lc_one (x : ZS) : ∀ u ∈ x.cells, u.oneCell' = true := by
  intro u hu
  rw [List.mem_singleton.1 hu]
  rfl
theorem lc_noW (x : ZS) : ∀ u ∈ x.cells, NoW u := by
  intro u hu
  rw [List.mem_singleton.1 hu]
  exact NoW_slice _ _ _
/-- a row of slices of the call's own -/
def OwnL (B : Nat) (w : World) (v : Value) (xs : List ZS) : Prop := OwnC 1 ZS.cells 22 B w v xs ∧ ∀ x ∈ xs, x.ok w
theorem OwnL.nil (B : Nat) (w : World) : OwnL B w (.slice none 0 0) [] := ⟨OwnC.nil, by simp⟩
theorem OwnL.below {B : Nat} {w w' : World} {v : Value} {xs : List ZS} (h : OwnL B w v xs) (hb : Below w.heap.size w w') : OwnL B w' v xs := ⟨h.1.below hb, fun x hx => ZS.below (h.2 x hx) hb⟩
theorem OwnL.retl {B : Nat} {w : World} {v : Value} {xs : List ZS} (h : OwnL B w v xs) : ∃ A n c, v = .slice A n c ∧ SlL w A n c xs ∧ (0 < n → ∀ b off, A = some ⟨b, off, none⟩ → B ≤ b) := by
  obtain ⟨A, c, e, _, _⟩ := h.1.form
  subst e
  refine ⟨A, _, c, rfl, h.1.slc h.2, fun h0 b off e => ?_⟩
  subst e
  exact h.1.base b (by simp [Value.ownBlock])
theorem append_l {wr : World} {B : Nat} {v : Value} {xs : List ZS} {x : ZS} (hown : OwnL B wr v xs) (hx : x.ok wr) (ty : TypeId) (c : Nat) (hl : xs.length + 1 ≤ 1000000) (hB : B ≤ wr.heap.size) :
    ∃ v' w', (Builtin.append_ #[45, 45] ty #[v, .slice (some ⟨wr.heap.size, 0, none⟩) 1 c]).run Try.prog (wr.alloc (.cells #[.slice x.A x.n x.c] 22)) = .ok v' w' ∧ OwnL B w' v' (xs ++ [x]) ∧ Below B wr w' ∧
      (wr.alloc (.cells #[.slice x.A x.n x.c] 22)).grownBy w' v.ownBlock := by
  obtain ⟨i1, hi1, hy0, hy1, hy2⟩ := info_parts infoL
  have ba := below_alloc wr (.cells #[.slice x.A x.n x.c] 22)
  have ho2 := hown.1.below ba
  obtain ⟨v', w', hr, h2, h3⟩ := run_append_C (P := Try.prog) (wr.alloc (.cells #[.slice x.A x.n x.c] 22)) B 45 ty 22 i1 _ 24 Try.underlying45 hi1 hy0 hy1 hy2 rfl (by decide) zeroL v xs ho2
    ⟨wr.heap.size, 0, none⟩ c x rfl (news_new wr _ _) (lc_one _) (lc_noW _) (by unfold maxLen; omega) (by omega) (by simp; omega)
  refine ⟨v', w', hr, ⟨h2, fun y hy => ?_⟩, ((Below.refl B wr).alloc hB _).grown h3 (by simp; omega) ho2.base, h3⟩
  rcases List.mem_append.1 hy with hy | hy
  · exact ZS.grown (ZS.below (hown.2 y hy) ba) h3 ho2.blk (by decide)
  · rw [List.mem_singleton.1 hy]
    exact ZS.grown (ZS.below hx ba) h3 ho2.blk (by decide)
theorem wpList_append_l {wr : World} {ops : Array Oper} {rest : List Oper} {o : Oper} {a : Act} {Q : Exit → Act → World → Prop} (hgd : o.guard = none) (s y : Operand)
    (ho : o.op = .call { callee := .builtin .append, args := #[s, y], argTypes := #[45, 45] }) (B : Nat) (v : Value) (xs : List ZS) (hs : a.eval s = v) (hown : OwnL B wr v xs) (c : Nat) (x : ZS) (hx : x.ok wr)
    (hy : a.eval y = .slice (some ⟨wr.heap.size, 0, none⟩) 1 c) (hl : xs.length + 1 ≤ 1000000) (hB : B ≤ wr.heap.size)
    (h : ∀ v' w', OwnL B w' v' (xs ++ [x]) → Below B wr w' → wpList Try.prog ops Q rest (a.put o.dst v') w') : wpList Try.prog ops Q (o :: rest) a (wr.alloc (.cells #[.slice x.A x.n x.c] 22)) := by
  refine wpList_plain hgd fun _ hK => ?_
  obtain ⟨v', w', hr, h2, h3, _⟩ := append_l hown hx o.type c hl hB
  unfold Oper.wp execOp
  simp only [ho, resolve, invoke, builtin, Sem.run_bind, Sem.run_pure, Result.andThen_ok, List.map_toArray, List.map_cons, List.map_nil, hs, hy, hr]
  exact hK _ _ (h v' w' h2 h3)
theorem wpListIn_append_l {F : Fence} {n : Nat} {wr : World} {ops : Array Oper} {rest : List Oper} {o : Oper} {a : Act} {Q : Exit → Act → World → Prop} (hgd : o.guard = none) (s y : Operand)
    (ho : o.op = .call { callee := .builtin .append, args := #[s, y], argTypes := #[45, 45] }) (B : Nat) (v : Value) (xs : List ZS) (hs : a.eval s = v) (hown : OwnL B wr v xs) (c : Nat) (x : ZS) (hx : x.ok wr)
    (hy : a.eval y = .slice (some ⟨wr.heap.size, 0, none⟩) 1 c) (hl : xs.length + 1 ≤ 1000000) (hB : B ≤ wr.heap.size)
    (h : ∀ v' w', OwnL B w' v' (xs ++ [x]) → Below B wr w' → (wr.alloc (.cells #[.slice x.A x.n x.c] 22)).grownBy w' v.ownBlock → wpListIn F n Try.prog ops Q rest (a.put o.dst v') w') : wpListIn F n Try.prog ops Q (o :: rest) a (wr.alloc (.cells #[.slice x.A x.n x.c] 22)) := by
  refine wpListIn_plain hgd fun K hK' => ?_
  obtain ⟨v', w', hrun, h2, h3, h4⟩ := append_l hown hx o.type c hl hB
  unfold Oper.wpIn
  refine ⟨?_, ?_⟩
  · simp [Oper.about, ho, resolve, Target.leads, Sem.run_pure]
  · rw [Oper.semAt_plain F _ _ (by rw [ho]; intro c hc'; cases hc')]
    simp [execOp, ho, resolve, invoke, builtin, hs, hy, hrun, Result.andThen]
    exact hK' _ _ (h v' w' h2 h3 h4)
/-- a call that returns a slice of slices, in new memory -/
def RetL (zss : List (List Int)) (w : World) (e : Ending) (w' : World) : Prop := ∃ A n c xs, e = .returned (.slice A n c) ∧ SlL w' A n c xs ∧ xs.map ZS.z = zss ∧ (0 < n → New w A) ∧ Below w.heap.size w w'

end Go.Proofs.Ythhmofmncjodfaa
