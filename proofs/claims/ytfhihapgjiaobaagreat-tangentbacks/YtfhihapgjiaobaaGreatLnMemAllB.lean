/-
  What limb.divHalf and limb.Div return: the quotient, rounded down, and the remainder. Conditions: the arguments are 64-bit words; divHalf: as its own comment says.
-/
import Derived.Test.YtfhihapgjiaobaaGreatU64AllB
import Derived.Lib.SmallJoins
namespace Go.Proofs.YtfhihapgjiaobaaGreat
set_option maxRecDepth 100000
open Go.RowKit Go.WideShapes Go.ChangeShapes Go.Deep Go.Joins
set_option linter.unusedVariables false
set_option linter.unusedSimpArgs false

/-- an exact number as it lies: a sign, two slices of words, and what these say -/
structure RQ where
  s : Bool
  A : Option Addr
  n : Nat
  c : Nat
  z : List Int
  A' : Option Addr
  n' : Nat
  c' : Nat
  z' : List Int
instance : Inhabited RQ := ⟨⟨false, none, 0, 0, [], none, 0, 0, []⟩⟩
def RQ.ok (w : World) (x : RQ) : Prop := Sl w x.A x.n x.c x.z ∧ Sl w x.A' x.n' x.c' x.z' ∧ x.n ≤ maxLen ∧ x.n' ≤ maxLen
def RQ.cells (x : RQ) : List Value := [.bool x.s, .slice x.A x.n x.c, .slice x.A' x.n' x.c']
theorem RQ.below {w w' : World} {x : RQ} (h : x.ok w) (hb : Below w.heap.size w w') : x.ok w' := ⟨h.1.below hb, h.2.1.below hb, h.2.2⟩
/-- an instruction as it lies -/
structure RI where
  op : Int
  a : Int
  b : Int
  q : RQ
instance : Inhabited RI := ⟨⟨0, 0, 0, default⟩⟩
def I64 (x : Int) : Prop := -9223372036854775808 ≤ x ∧ x ≤ 9223372036854775807
def RI.ok (w : World) (x : RI) : Prop := I64 x.op ∧ I64 x.a ∧ I64 x.b ∧ x.q.ok w
def RI.cells (x : RI) : List Value := [.int .i64 x.op, .int .i64 x.a, .int .i64 x.b, .bool x.q.s, .slice x.q.A x.q.n x.q.c, .slice x.q.A' x.q.n' x.q.c']
theorem RI.below {w w' : World} {x : RI} (h : x.ok w) (hb : Below w.heap.size w w') : x.ok w' := ⟨h.1, h.2.1, h.2.2.1, RQ.below h.2.2.2 hb⟩
theorem I64_of_wf {x : Int} (h : (Lit.int .i64 x).wf = true) : I64 x := by
  simp [Lit.wf, IntKind.min, IntKind.max, IntKind.signed, IntKind.bits] at h
  unfold I64
  omega

/-- a slice whose elements take k cells each, told by the elements' cells -/
def SlC (k : Nat) {V : Type} (cells : V → List Value) (ok : World → V → Prop) (w : World) (A : Option Addr) (n c : Nat) (xs : List V) : Prop :=
  (xs.length = n ∧ n ≤ c ∧ c ≤ maxLen ∧ ∀ x ∈ xs, ok w x ∧ (cells x).length = k) ∧
  (0 < n → ∃ b off, A = some ⟨b, off, none⟩ ∧ b < w.heap.size ∧ ∀ j, j < n → ∀ i, i < k → w.cell? ⟨b, off + j * k + i, none⟩ = (xs[j]?).bind fun x => (cells x)[i]?)
theorem SlC.below {k : Nat} {V : Type} {cells : V → List Value} {ok : World → V → Prop} (hok : ∀ {w w' : World} {x : V}, ok w x → Below w.heap.size w w' → ok w' x) {w w' : World} {A : Option Addr} {n c : Nat} {xs : List V}
    (h : SlC k cells ok w A n c xs) (hb : Below w.heap.size w w') : SlC k cells ok w' A n c xs := by
  refine ⟨⟨h.1.1, h.1.2.1, h.1.2.2.1, fun x hx => ⟨hok (h.1.2.2.2 x hx).1 hb, (h.1.2.2.2 x hx).2⟩⟩, fun h0 => ?_⟩
  obtain ⟨b, off, e, hlt, hc⟩ := h.2 h0
  exact ⟨b, off, e, Nat.lt_of_lt_of_le hlt hb.size, fun j hj i hi => (hb.cell (p := ⟨b, off + j * k + i, none⟩) hlt).trans (hc j hj i hi)⟩
/-- a slice of instructions, of exact numbers, of ints -/
def SlP (w : World) (A : Option Addr) (n c : Nat) (xs : List RI) : Prop := SlC 6 RI.cells RI.ok w A n c xs
def SlR (w : World) (A : Option Addr) (n c : Nat) (xs : List RQ) : Prop := SlC 3 RQ.cells RQ.ok w A n c xs
def SlZ (w : World) (A : Option Addr) (n c : Nat) (xs : List Int) : Prop := SlC 1 (fun x => [Value.int .i64 x]) (fun _ x => I64 x) w A n c xs
theorem SlP.below {w w' : World} {A : Option Addr} {n c : Nat} {xs : List RI} (h : SlP w A n c xs) (hb : Below w.heap.size w w') : SlP w' A n c xs := SlC.below (cells := RI.cells) (ok := RI.ok) (fun h hb => RI.below h hb) h hb
theorem SlR.below {w w' : World} {A : Option Addr} {n c : Nat} {xs : List RQ} (h : SlR w A n c xs) (hb : Below w.heap.size w w') : SlR w' A n c xs := SlC.below (cells := RQ.cells) (ok := RQ.ok) (fun h hb => RQ.below h hb) h hb
theorem SlZ.below {w w' : World} {A : Option Addr} {n c : Nat} {xs : List Int} (h : SlZ w A n c xs) (hb : Below w.heap.size w w') : SlZ w' A n c xs := SlC.below (fun h _ => h) h hb
/-- the cells of an element -/
theorem SlP.at_ {w : World} {A : Option Addr} {n c : Nat} {xs : List RI} (h : SlP w A n c xs) {j : Nat} (hj : j < n) : ∃ b off x, A = some ⟨b, off, none⟩ ∧ b < w.heap.size ∧ xs[j]? = some x ∧ x.ok w ∧
    w.cell? ⟨b, off + j * 6, none⟩ = some (.int .i64 x.op) ∧ w.cell? ⟨b, off + j * 6 + 1, none⟩ = some (.int .i64 x.a) ∧ w.cell? ⟨b, off + j * 6 + 2, none⟩ = some (.int .i64 x.b) ∧
    w.cell? ⟨b, off + j * 6 + 3, none⟩ = some (.bool x.q.s) ∧ w.cell? ⟨b, off + j * 6 + 4, none⟩ = some (.slice x.q.A x.q.n x.q.c) ∧ w.cell? ⟨b, off + j * 6 + 5, none⟩ = some (.slice x.q.A' x.q.n' x.q.c') := by
  obtain ⟨b, off, e, hlt, hc⟩ := h.2 (by omega)
  have hl : j < xs.length := by rw [h.1.1]; exact hj
  have hx : xs[j]? = some xs[j] := List.getElem?_eq_getElem hl
  have hcj := hc j hj
  rw [hx] at hcj
  refine ⟨b, off, xs[j], e, hlt, hx, (h.1.2.2.2 _ (List.getElem_mem hl)).1, ?_⟩
  exact ⟨hcj 0 (by omega), hcj 1 (by omega), hcj 2 (by omega), hcj 3 (by omega), hcj 4 (by omega), hcj 5 (by omega)⟩
theorem SlR.at_ {w : World} {A : Option Addr} {n c : Nat} {xs : List RQ} (h : SlR w A n c xs) {j : Nat} (hj : j < n) : ∃ b off x, A = some ⟨b, off, none⟩ ∧ b < w.heap.size ∧ xs[j]? = some x ∧ x.ok w ∧
    w.cell? ⟨b, off + j * 3, none⟩ = some (.bool x.s) ∧ w.cell? ⟨b, off + j * 3 + 1, none⟩ = some (.slice x.A x.n x.c) ∧ w.cell? ⟨b, off + j * 3 + 2, none⟩ = some (.slice x.A' x.n' x.c') := by
  obtain ⟨b, off, e, hlt, hc⟩ := h.2 (by omega)
  have hl : j < xs.length := by rw [h.1.1]; exact hj
  have hx : xs[j]? = some xs[j] := List.getElem?_eq_getElem hl
  have hcj := hc j hj
  rw [hx] at hcj
  refine ⟨b, off, xs[j], e, hlt, hx, (h.1.2.2.2 _ (List.getElem_mem hl)).1, ?_⟩
  exact ⟨hcj 0 (by omega), hcj 1 (by omega), hcj 2 (by omega)⟩
theorem SlZ.at_ {w : World} {A : Option Addr} {n c : Nat} {xs : List Int} (h : SlZ w A n c xs) {j : Nat} (hj : j < n) : ∃ b off x, A = some ⟨b, off, none⟩ ∧ b < w.heap.size ∧ xs[j]? = some x ∧ I64 x ∧ w.cell? ⟨b, off + j, none⟩ = some (.int .i64 x) := by
  obtain ⟨b, off, e, hlt, hc⟩ := h.2 (by omega)
  have hl : j < xs.length := by rw [h.1.1]; exact hj
  have hx : xs[j]? = some xs[j] := List.getElem?_eq_getElem hl
  have hcj := hc j hj
  rw [hx] at hcj
  refine ⟨b, off, xs[j], e, hlt, hx, (h.1.2.2.2 _ (List.getElem_mem hl)).1, ?_⟩
  have := hcj 0 (by omega)
  rw [Nat.mul_one, Nat.add_zero] at this
  exact this
/-! ### what came in -/
section
variable {H : Type} {enc : TypeId × Value → H} {P : Program} {w : World} {base : Nat} {spare : Nat → Bool} {held : Bool}
/-- a slice of words -/
theorem open_sl {t e : TypeId} {fuel : Nat} {v : Value} {x : DataW H × List MemPlace} (ht : P.underlying t = some (.slice e)) (he : P.underlying e = some (.int .u64)) (hc : P.cellsOf e = 1)
    (h : DataW.trod enc P w base (fun _ => true) held fuel t [v] = some x) : ∃ A n c z, v = .slice A n c ∧ Sl w A n c z ∧ n ≤ maxLen := by
  rcases open_ints ht he hc h with ⟨hcs, _⟩ | ⟨a, l, c, zs, hcs, _, hl, hm, hz, _, hcell, hwz⟩
  · simp at hcs
    exact ⟨none, 0, 0, [], hcs, Sl.nil _ _ _, by unfold maxLen; omega⟩
  · simp at hcs
    have hr : IsRow .u64 w (some a) l c zs := .inr ⟨_, rfl, hl, hm, by simpa using hz, hcell, hwz⟩
    obtain ⟨h1, h2⟩ := hr.sl
    exact ⟨some a, l, c, _, hcs, h1, h2⟩
/-- what a program's table says of the type of exact numbers -/
structure RatTy (P : Program) (t : TypeId) : Prop where
  st : ∃ f0 f1 f2 : Field, P.underlying t = some (.struct #[f0, f1, f2]) ∧ f0.offset = 0 ∧ f1.offset = 1 ∧ f2.offset = 2 ∧ P.cellsOf f0.type = 1 ∧ P.cellsOf f1.type = 1 ∧ P.cellsOf f2.type = 1 ∧
    P.underlying f0.type = some .bool ∧ ∃ e e', P.underlying f1.type = some (.slice e) ∧ P.underlying f2.type = some (.slice e') ∧ P.underlying e = some (.int .u64) ∧ P.underlying e' = some (.int .u64) ∧ P.cellsOf e = 1 ∧ P.cellsOf e' = 1
  size : P.cellsOf t = 3
theorem open_rq {t : TypeId} (T : RatTy P t) {fuel : Nat} {cs : List Value} {x : DataW H × List MemPlace} (h : DataW.trod enc P w base (fun _ => true) held fuel t cs = some x) : ∃ q : RQ, cs = q.cells ∧ q.ok w := by
  obtain ⟨⟨f0, f1, f2, hs, o0, o1, o2, c0, c1, c2, hb, e, e', h1, h2, h3, h4, h5, h6⟩, hC⟩ := T
  obtain ⟨xs, n, _, _, hl, hxl, hf⟩ := DataW.trod_struct hs h
  rw [hC] at hl
  match cs, hl with
  | [v0, v1, v2], _ =>
    have g0 := hf 0 f0 rfl
    have g1 := hf 1 f1 rfl
    have g2 := hf 2 f2 rfl
    have hx : xs.length = 3 := hxl
    rw [List.getElem?_eq_getElem (by omega)] at g0 g1 g2
    rw [o0, c0] at g0
    rw [o1, c1] at g1
    rw [o2, c2] at g2
    simp only [List.drop_zero, List.take_succ_cons, List.take_zero, List.drop_succ_cons] at g0 g1 g2
    obtain ⟨s, es, _⟩ := DataW.trod_bool hb g0
    obtain ⟨A, n1, c1', z, ea, sa, la⟩ := open_sl h1 h3 h5 g1
    obtain ⟨A', n2, c2', z', eb, sb, lb⟩ := open_sl h2 h4 h6 g2
    refine ⟨⟨s, A, n1, c1', z, A', n2, c2', z'⟩, ?_, sa, sb, la, lb⟩
    simp at es
    subst es ea eb
    rfl
/-- .. and of the type of instructions -/
structure InsTy (P : Program) (t : TypeId) : Prop where
  st : ∃ f0 f1 f2 f3 : Field, P.underlying t = some (.struct #[f0, f1, f2, f3]) ∧ f0.offset = 0 ∧ f1.offset = 1 ∧ f2.offset = 2 ∧ f3.offset = 3 ∧ P.cellsOf f0.type = 1 ∧ P.cellsOf f1.type = 1 ∧ P.cellsOf f2.type = 1 ∧
    P.underlying f0.type = some (.int .i64) ∧ P.underlying f1.type = some (.int .i64) ∧ P.underlying f2.type = some (.int .i64) ∧ RatTy P f3.type
  size : P.cellsOf t = 6
theorem open_ri {t : TypeId} (T : InsTy P t) {fuel : Nat} {cs : List Value} {x : DataW H × List MemPlace} (h : DataW.trod enc P w base (fun _ => true) held fuel t cs = some x) : ∃ q : RI, cs = q.cells ∧ q.ok w := by
  obtain ⟨⟨f0, f1, f2, f3, hs, o0, o1, o2, o3, c0, c1, c2, h0, h1, h2, R⟩, hC⟩ := T
  obtain ⟨xs, n, _, _, hl, hxl, hf⟩ := DataW.trod_struct hs h
  rw [hC] at hl
  match cs, hl with
  | [v0, v1, v2, v3, v4, v5], _ =>
    have g0 := hf 0 f0 rfl
    have g1 := hf 1 f1 rfl
    have g2 := hf 2 f2 rfl
    have g3 := hf 3 f3 rfl
    have hx : xs.length = 4 := hxl
    rw [List.getElem?_eq_getElem (by omega)] at g0 g1 g2 g3
    rw [o0, c0] at g0
    rw [o1, c1] at g1
    rw [o2, c2] at g2
    rw [o3, R.size] at g3
    simp only [List.drop_zero, List.take_succ_cons, List.take_zero, List.drop_succ_cons] at g0 g1 g2 g3
    obtain ⟨x0, e0, _, w0⟩ := DataW.trod_int h0 g0
    obtain ⟨x1, e1, _, w1⟩ := DataW.trod_int h1 g1
    obtain ⟨x2, e2, _, w2⟩ := DataW.trod_int h2 g2
    obtain ⟨q, eq_, ok⟩ := open_rq R g3
    refine ⟨⟨x0, x1, x2, q⟩, ?_, I64_of_wf w0, I64_of_wf w1, I64_of_wf w2, ok⟩
    simp at e0 e1 e2
    unfold RQ.cells at eq_
    simp at eq_
    obtain ⟨rfl, rfl, rfl⟩ := eq_
    subst e0 e1 e2
    rfl
/-- a slice of such -/
theorem open_slc {k : Nat} {V : Type} [Inhabited V] {cells : V → List Value} {ok : World → V → Prop} {t e : TypeId} (ht : P.underlying t = some (.slice e)) (hk : P.cellsOf e = k)
    (hop : ∀ (fuel : Nat) (cs : List Value) (x : DataW H × List MemPlace), DataW.trod enc P w base (fun _ => true) held fuel e cs = some x → ∃ q : V, cs = cells q ∧ ok w q) (hkp : 0 < k)
    {fuel : Nat} {v : Value} {x : DataW H × List MemPlace} (h : DataW.trod enc P w base (fun _ => true) held fuel t [v] = some x) : ∃ A n c xs, v = .slice A n c ∧ SlC k cells ok w A n c xs := by
  rcases open_slice ht h with ⟨hcs, _⟩ | ⟨a, len, cap, m, n, D, Pl, hcs, hb, hl, hm, hmm, _, hx⟩
  · simp at hcs
    exact ⟨none, 0, 0, [], hcs, ⟨rfl, Nat.le_refl _, by unfold maxLen; omega, by simp⟩, fun h0 => absurd h0 (by omega)⟩
  · simp at hcs
    simp at hmm
    rw [hk] at hx
    have each : ∀ i, i < len → ∃ q : V, w.cells? base (a.add (i * k)) k = some (cells q) ∧ ok w q := by
      intro i hi
      obtain ⟨cs', h1, h2⟩ := hx i (by omega)
      obtain ⟨q, hq, ho⟩ := hop _ _ _ h2
      exact ⟨q, by rw [h1, hq], ho⟩
    obtain ⟨f, hf⟩ := choose_lt each
    have hcell : ∀ j, j < len → (cells (f j)).length = k ∧ ∀ i, i < k → w.cell? ((a.add (j * k)).add i) = (cells (f j))[i]? := by
      intro j hj
      obtain ⟨_, h2, h3⟩ := World.cells?_some (hf j hj).1
      exact ⟨h2, h3⟩
    refine ⟨some a, len, cap, (List.range len).map f, hcs, ⟨by simp, hl, hm, fun y hy => ?_⟩, fun h0 => ?_⟩
    · obtain ⟨j, hj, rfl⟩ := List.mem_map.1 hy
      have hj' := List.mem_range.1 hj
      exact ⟨(hf j hj').2, (hcell j hj').1⟩
    · obtain ⟨b, off, spot⟩ := a
      have hc0 := (hcell 0 h0).2 0 hkp
      have hlen0 := (hcell 0 h0).1
      rw [List.getElem?_eq_getElem (by omega)] at hc0
      have hspot : spot = none := by simpa [Addr.add] using World.cell?_spot hc0
      subst hspot
      have hlt : b < w.heap.size := by
        rcases Nat.lt_or_ge b w.heap.size with h9 | h9
        · exact h9
        · exfalso
          simp [Addr.add, World.cell?, Array.getElem?_eq_none h9] at hc0
      refine ⟨b, off, rfl, hlt, fun j hj i hi => ?_⟩
      have := (hcell j hj).2 i hi
      rw [add_add] at this
      have e : ((⟨b, off, none⟩ : Addr).add (j * k + i)) = ⟨b, off + j * k + i, none⟩ := by
        unfold Addr.add; split
        · rename_i h9
          have h8 : off + j * k + i = off := by omega
          rw [h8]
        · rw [Nat.add_assoc]
      rw [e] at this
      rw [List.getElem?_map, List.getElem?_range hj]
      exact this
theorem open_slp {t e : TypeId} (ht : P.underlying t = some (.slice e)) (T : InsTy P e) {fuel : Nat} {v : Value} {x : DataW H × List MemPlace} (h : DataW.trod enc P w base (fun _ => true) held fuel t [v] = some x) : ∃ A n c xs, v = .slice A n c ∧ SlP w A n c xs :=
  open_slc ht T.size (fun _ _ _ h => open_ri T h) (by omega) h
theorem open_slr {t e : TypeId} (ht : P.underlying t = some (.slice e)) (T : RatTy P e) {fuel : Nat} {v : Value} {x : DataW H × List MemPlace} (h : DataW.trod enc P w base (fun _ => true) held fuel t [v] = some x) : ∃ A n c xs, v = .slice A n c ∧ SlR w A n c xs :=
  open_slc ht T.size (fun _ _ _ h => open_rq T h) (by omega) h
theorem open_slz {t e : TypeId} (ht : P.underlying t = some (.slice e)) (he : P.underlying e = some (.int .i64)) (hc : P.cellsOf e = 1) {fuel : Nat} {v : Value} {x : DataW H × List MemPlace} (h : DataW.trod enc P w base (fun _ => true) held fuel t [v] = some x) : ∃ A n c xs, v = .slice A n c ∧ SlZ w A n c xs :=
  open_slc ht hc (fun fuel cs x h => by
    obtain ⟨n, e1, _, e3⟩ := DataW.trod_int he h
    exact ⟨n, e1, I64_of_wf e3⟩) (by omega) h
end

end Go.Proofs.YtfhihapgjiaobaaGreat

namespace Go.Proofs.YtfhihapgjiaobaaGreat
set_option maxRecDepth 100000
open Go.RowKit
set_option linter.unusedVariables false
set_option linter.unusedSimpArgs false

def RI.pi (x : RI) : PI := ⟨x.op, x.a, x.b, (x.q.s, x.q.z, x.q.z')⟩
theorem pi_at {xs : List RI} {k : Nat} {x : RI} (h : xs[k]? = some x) : (xs.map RI.pi).getD k PI.nil = x.pi := by
  rw [List.getD_eq_getElem?_getD, List.getElem?_map, h]; rfl
theorem mem_at {V : Type} {xs : List V} {k : Nat} {x : V} (h : xs[k]? = some x) : x ∈ xs := List.mem_of_getElem? h
def isF (x : PI) : Bool := isForm x.op
theorem count_yes {g : PI → Bool} {l : List PI} {k : Nat} (h : g (l.getD k PI.nil) = true) : countTo g l (k + 1) = countTo g l k + 1 := by show countTo g l k + _ = _; rw [if_pos h]
theorem count_no {g : PI → Bool} {l : List PI} {k : Nat} (h : g (l.getD k PI.nil) = false) : countTo g l (k + 1) = countTo g l k := by show countTo g l k + _ = _; rw [h]; rfl
theorem inputs_at {l : List PI} {k : Nat} {op a b : Int} {q : Bool × List Int × List Int} (h : l.getD k PI.nil = ⟨op, a, b, q⟩) : inputsTo l (k + 1) = if op = 1 ∧ a < 65536 then max (inputsTo l k) (a + 1) else inputsTo l k := by
  show (if (l.getD k PI.nil).op = 1 ∧ (l.getD k PI.nil).a < 65536 then max (inputsTo l k) ((l.getD k PI.nil).a + 1) else inputsTo l k) = _
  rw [h]
theorem inputs_range (l : List PI) (k : Nat) : 0 ≤ inputsTo l k ∧ inputsTo l k ≤ 65536 := by
  induction k with
  | zero => unfold inputsTo; omega
  | succ k ih =>
    obtain ⟨op, a, b, q⟩ : PI := l.getD k PI.nil
    unfold inputsTo
    split <;> omega

set_option maxHeartbeats 2000000 in
theorem line_inputs {w : World} {A : Option Addr} {n c : Nat} {xs : List RI} (h : SlP w A n c xs) (hn : n ≤ 65536) :
    Calls Tryz.prog 34 #[.slice A n c] w fun e w' => e = .returned (.int .i64 (inputsTo (xs.map RI.pi) n)) ∧ Below w.heap.size w w' := by
  go_enter Tryz.func34, Tryz.ntmps34
  go_wp2_with fail
  go_loopw [3, 8] (fun v iv wr => ∃ (k : Nat) (m : Int), k ≤ n ∧ iv = .int .i64 k ∧ v = .int .i64 m ∧ Below w.heap.size w wr ∧ Hid (m = inputsTo (xs.map RI.pi) k)) (fun _ iv _ => n - mes iv)
  case atStart => exact ⟨0, 0, by omega, rfl, rfl, Below.refl _ _, Lib.hid rfl⟩
  case round =>
    obtain ⟨k, m, hk, rfl, rfl, hb, HM⟩ := hrel
    obtain ⟨hm0, hm1⟩ : 0 ≤ m ∧ m ≤ 65536 := by rw [HM.out]; exact inputs_range _ _
    by_cases hk2 : k < n
    · obtain ⟨b0, off, x, rfl, hlt, hxk, hok, c0, c1, c2, c3, c4, c5⟩ := (h.below hb).at_ hk2
      obtain ⟨op, a, b, q⟩ := x
      have hp : (xs.map RI.pi).getD k PI.nil = ⟨op, a, b, (q.s, q.z, q.z')⟩ := pi_at hxk
      have hst := inputs_at hp
      rw [← HM.out] at hst
      obtain ⟨i1, i2, i3, _⟩ := hok
      unfold I64 at i2
      simp only at c0 c1 c2 c3 c4 c5 i2
      clear hp
      clear i1 i3 hxk HM
      by_cases h1 : op = 1
      · subst h1
        have BL := fun w1 => Lib.hid (line_below a 65536 w1)
        by_cases h2 : 0 ≤ a ∧ a < 65536
        · rw [decide_eq_true h2] at BL
          rw [if_pos (show (1 : Int) = 1 ∧ a < 65536 from ⟨rfl, h2.2⟩)] at hst
          obtain ⟨h3, h4⟩ := h2
          have e2 : max m (a + 1) = m ∧ a + 1 ≤ m ∨ max m (a + 1) = a + 1 ∧ m < a + 1 := by omega
          rcases e2 with ⟨e2, e3⟩ | ⟨e2, e3⟩
          all_goals
            rw [e2] at hst
            have HS := Lib.hid hst
            clear hst e2
            go_wp2_with fail
            refine ((BL _).out).mono ?_
            rintro _ w2 ⟨rfl, rfl⟩
            go_wp2_with fail
            go_roundw
            case rel => exact ⟨k + 1, _, by omega, by go_num, by go_num, hb.alloc hb.size _, Lib.hid HS.out.symm⟩
            case measure => simp [mes, intOf]; omega
        · rw [decide_eq_false h2] at BL
          have hst2 : inputsTo (xs.map RI.pi) (k + 1) = m := by rw [hst]; split <;> omega
          have HS := Lib.hid hst2
          clear hst hst2
          go_wp2_with fail
          refine ((BL _).out).mono ?_
          rintro _ w2 ⟨rfl, rfl⟩
          go_wp2_with fail
          go_roundw
          case rel => exact ⟨k + 1, m, by omega, by go_num, rfl, hb.alloc hb.size _, Lib.hid HS.out.symm⟩
          case measure => simp [mes, intOf]; omega
      · have e1 : (op == 1) = false := by simpa using h1
        rw [if_neg (show ¬ (op = 1 ∧ a < 65536) from fun hh => h1 hh.1)] at hst
        have HS := Lib.hid hst
        clear hst
        go_wp2_with fail
        go_roundw
        case rel => exact ⟨k + 1, m, by omega, by go_num, rfl, hb.alloc hb.size _, Lib.hid HS.out.symm⟩
        case measure => simp [mes, intOf]; omega
    · obtain rfl : k = n := by omega
      go_wp2_with fail
      go_ret
      exact ⟨by rw [HM.out]; rfl, hb⟩

set_option maxHeartbeats 2000000 in
theorem ref_inputs {w : World} {A : Option Addr} {n c : Nat} {xs : List RI} (h : SlP w A n c xs) (hn : n ≤ 65536) :
    Calls Tryz.prog 42 #[.slice A n c] w fun e w' => e = .returned (.int .i64 (inputsTo (xs.map RI.pi) n)) ∧ Below w.heap.size w w' := by
  go_enter Tryz.func42, Tryz.ntmps42
  go_wp2_with fail
  go_loopw [3, 7] (fun v iv wr => ∃ (k : Nat) (m : Int), k ≤ n ∧ iv = .int .i64 k ∧ v = .int .i64 m ∧ Below w.heap.size w wr ∧ Hid (m = inputsTo (xs.map RI.pi) k)) (fun _ iv _ => n - mes iv)
  case atStart => exact ⟨0, 0, by omega, rfl, rfl, Below.refl _ _, Lib.hid rfl⟩
  case round =>
    obtain ⟨k, m, hk, rfl, rfl, hb, HM⟩ := hrel
    obtain ⟨hm0, hm1⟩ : 0 ≤ m ∧ m ≤ 65536 := by rw [HM.out]; exact inputs_range _ _
    by_cases hk2 : k < n
    · obtain ⟨b0, off, x, rfl, hlt, hxk, hok, c0, c1, c2, c3, c4, c5⟩ := (h.below hb).at_ hk2
      obtain ⟨op, a, b, q⟩ := x
      have hp : (xs.map RI.pi).getD k PI.nil = ⟨op, a, b, (q.s, q.z, q.z')⟩ := pi_at hxk
      have hst := inputs_at hp
      rw [← HM.out] at hst
      obtain ⟨i1, i2, i3, _⟩ := hok
      unfold I64 at i2
      simp only at c0 c1 c2 c3 c4 c5 i2
      clear hp
      clear i1 i3 hxk HM
      by_cases h1 : op = 1
      · subst h1
        by_cases h2 : a < 65536
        · rw [if_pos (show (1 : Int) = 1 ∧ a < 65536 from ⟨rfl, h2⟩)] at hst
          have e2 : max m (a + 1) = m ∧ a + 1 ≤ m ∨ max m (a + 1) = a + 1 ∧ m < a + 1 := by omega
          rcases e2 with ⟨e2, e3⟩ | ⟨e2, e3⟩
          all_goals
            rw [e2] at hst
            have HS := Lib.hid hst
            clear hst e2
            go_wp2_with fail
            go_roundw
            case rel => exact ⟨k + 1, _, by omega, by go_num, by go_num, hb, Lib.hid HS.out.symm⟩
            case measure => simp [mes, intOf]; omega
        · rw [if_neg (show ¬ ((1 : Int) = 1 ∧ a < 65536) from fun hh => h2 hh.2)] at hst
          have HS := Lib.hid hst
          clear hst
          go_wp2_with fail
          go_roundw
          case rel => exact ⟨k + 1, m, by omega, by go_num, rfl, hb, Lib.hid HS.out.symm⟩
          case measure => simp [mes, intOf]; omega
      · have e1 : (op == 1) = false := by simpa using h1
        rw [if_neg (show ¬ (op = 1 ∧ a < 65536) from fun hh => h1 hh.1)] at hst
        have HS := Lib.hid hst
        clear hst
        go_wp2_with fail
        go_roundw
        case rel => exact ⟨k + 1, m, by omega, by go_num, rfl, hb, Lib.hid HS.out.symm⟩
        case measure => simp [mes, intOf]; omega
    · obtain rfl : k = n := by omega
      go_wp2_with fail
      go_ret
      exact ⟨by rw [HM.out]; rfl, hb⟩

end Go.Proofs.YtfhihapgjiaobaaGreat

namespace Go.Proofs.YtfhihapgjiaobaaGreat
set_option maxRecDepth 100000
open Go.RowKit
set_option linter.unusedVariables false
set_option linter.unusedSimpArgs false

set_option maxHeartbeats 400000 in
set_option maxRecDepth 100000 in
theorem div_half (r x d : Nat) (hx : x < 4294967296) (hd : d < 18446744073709551616) (hd2 : 9223372036854775808 ≤ d) (hr : r < d) (w : World) :
    Calls Tryz.prog 138 #[.int .u64 r, .int .u64 x, .int .u64 d] w fun e w' => e = .returned (.tuple #[.int .u64 (dhq r x d), .int .u64 (dhr r x d)]) ∧ ∃ n, w' = w.drewN n := by
  obtain ⟨d1, hd1⟩ : ∃ d1, d1 = d / 4294967296 := ⟨_, rfl⟩
  obtain ⟨d0, hd0⟩ : ∃ d0, d0 = d % 4294967296 := ⟨_, rfl⟩
  have HD : Hid (d = d1 * 4294967296 + d0) := by show d = _; omega
  have l1 : 2147483648 ≤ d1 := by omega
  have l1' : d1 < 4294967296 := by omega
  have l0 : d0 < 4294967296 := by omega
  have e1 : (d : Int) / 4294967296 = (d1 : Int) := by omega
  have e0 : bits BinOp.and IntKind.u64 (d : Int) 4294967295 = (d0 : Int) := by rw [and32 (by unfold U; omega)]; omega
  have hz : ((d1 : Int) == 0) = false := by simp; omega
  have HR := Lib.hid hr
  clear hd1 hd0 hr
  go_enter Tryz.func138, Tryz.ntmps138
  go_wp2
  go_region
  go_wp2
  go_loop [10, 11] (fun x1 y1 => ∃ (q s : Nat), x1 = .int .u64 q ∧ y1 = .int .u64 s ∧ DhAt r x d1 d0 q s) (fun x1 _ => mes x1)
  case atStart =>
    have hq : r / d1 ≤ r := Nat.div_le_self _ _
    have hr' := HR.out
    exact ⟨r / d1, r % d1, vint (by rw [← Int.natCast_ediv, wrapU]; generalize r / d1 = q at *; omega), vint (by rw [Int.natCast_emod]), dhAt_0 hx l1 l1' l0 (by rw [← HD.out]; exact HR.out)⟩
  case round =>
    obtain ⟨q, s, rfl, rfl, hk⟩ := hrel
    have hp := dhAt_prod l0 hk
    have hs : s < 4294967296 := hk.2.2.2
    have hq : q ≤ 4294967297 := hk.2.2.1
    obtain ⟨p, ep⟩ : ∃ p : Int, (q : Int) * (d0 : Int) = p := ⟨_, rfl⟩
    obtain ⟨y, ey⟩ : ∃ y : Int, (s : Int) * 4294967296 = y := ⟨_, rfl⟩
    have hp' : ((q * d0 : Nat) : Int) = p := by rw [Int.natCast_mul]; exact ep
    have hp1 : p ≤ 18446744073709551615 := by omega
    have hp0 : 0 ≤ p := by omega
    have hy0 : 0 ≤ y := by omega
    have hy1 : y ≤ 18446744073709551615 := by omega
    obtain ⟨z, ez⟩ : ∃ z : Int, bits BinOp.or IntKind.u64 y (x : Int) = z := ⟨_, rfl⟩
    have hz' : z = y + x := by rw [← ez]; exact or32 (by unfold U; omega) (by omega) (by omega) (by omega)
    by_cases ht : s * 4294967296 + x < q * d0
    · have ht' : z < p := by omega
      have hq1 : 0 < q := (dhAt_next l1 hk ht).1
      by_cases hb : s + d1 < 4294967296
      · have L := dhAt_more l1 hk ht hb
        obtain ⟨t, et⟩ : ∃ t : Int, (s : Int) + d1 = t := ⟨_, rfl⟩
        have hb' : t < 4294967296 := by omega
        have hb0 : 0 ≤ t := by omega
        have HL := Lib.hid L
        clear ht hp hb L hp' hz' hs hy0
        go_wp2
        go_round
        case rel => exact ⟨q - 1, s + d1, vint (by omega), vint (by omega), HL.out⟩
        case measure => exact mes_lt (by omega) (by omega)
      · have L := dhAt_break l1 l0 hk ht (by omega)
        have HL := Lib.hid L
        have hb' : 4294967296 ≤ (s : Int) + d1 := by omega
        clear L ht hp hb hp' hz'
        go_wp2
        go_ret2
        refine ⟨ret2 ?_ ?_, 1, rfl⟩
        · rw [← show ((q - 1 : Nat) : Int) = (q : Int) - 1 by omega, HL.out, ← HD.out]; rfl
        · rw [← show ((q - 1 : Nat) : Int) = (q : Int) - 1 by omega, HL.out, ← HD.out]
          exact dh_rest hd (by omega)
    · have L := dhAt_stop l1 hk (by omega)
      have HL := Lib.hid L
      clear L
      have ht' : p ≤ z := by omega
      clear ht hp hp' hz'
      go_wp2
      go_ret2
      refine ⟨ret2 ?_ ?_, 1, rfl⟩
      · rw [HL.out, ← HD.out]; rfl
      · rw [HL.out, ← HD.out]
        exact dh_rest hd (by omega)

set_option maxHeartbeats 400000 in
theorem limb_div_no (h l d : Int) (hd : d ≤ h) (w : World) :
    Calls Tryz.prog 129 #[.int .u64 h, .int .u64 l, .int .u64 d] w fun e w' => e = .returned (.tuple #[.int .u64 0, .int .u64 0, .bool false]) ∧ w = w' := by
  go_enter Tryz.func129, Tryz.ntmps129
  go_wp2
  go_ret3
  exact ⟨rfl, rfl⟩

set_option maxHeartbeats 400000 in
theorem limb_div_yes (h l d : Int) (hh : U h) (hl : U l) (hd' : U d) (hd : h < d) (w : World) :
    Calls Tryz.prog 129 #[.int .u64 h, .int .u64 l, .int .u64 d] w fun e w' => e = .returned (.tuple #[.int .u64 ((h * 18446744073709551616 + l) / d), .int .u64 ((h * 18446744073709551616 + l) % d), .bool true]) ∧ ∃ n, w' = w.drewN n := by
  obtain ⟨H, rfl⟩ := Int.eq_ofNat_of_zero_le hh.nn
  obtain ⟨L, rfl⟩ := Int.eq_ofNat_of_zero_le hl.nn
  obtain ⟨D, rfl⟩ := Int.eq_ofNat_of_zero_le hd'.nn
  have hD : D < 18446744073709551616 := by unfold U at hd'; omega
  have hL : L < 18446744073709551616 := by unfold U at hl; omega
  obtain ⟨s, D', T, M, M1, M0, Q1, R1, Q0, R0, ⟨es, hs64, f1, f2, f3, g3, g4, l1, l0, g1, g2⟩, eD, eT, eM, eM1, eM0, eQ1, eR1, eQ0, eR0, eQ, eR⟩ := div_setup (H := H) (L := L) (by omega) hL hD
  have EQ := Lib.hid eQ
  have ER := Lib.hid eR
  clear eQ eR
  go_enter Tryz.func129, Tryz.ntmps129
  go_wp2_with (go_at_call 126; refine (limb_len _ hd' _).mono ?_; rintro e w' ⟨rfl, rfl⟩)
  go_region
  go_wp2_with fail
  refine (div_half T M1 D' l1 f1 f2 f3 _).mono ?_
  rintro e w1 ⟨rfl, n1, rfl⟩
  go_wp2_with fail
  refine (div_half R1 M0 D' l0 f1 f2 g3 _).mono ?_
  rintro e w1 ⟨rfl, n2, rfl⟩
  go_wp2_with fail
  go_region
  go_wp2
  go_ret3
  exact ⟨ret3 EQ.out ER.out rfl, 1 + n1 + n2 + 1, rfl⟩

end Go.Proofs.YtfhihapgjiaobaaGreat
