/-
  Lists of exact numbers, of instructions and of ints in memory, as they came in: slices of structs of six and of three cells. No Go function in sight. Conditions: as each lemma says.
-/
import Derived.Test.YthhmofmncjodfaaMem
import Derived.Lib.SmallJoins
namespace Go.Proofs.Ythhmofmncjodfaa
open Go.RowKit Go.WideShapes Go.ChangeShapes Go.Deep Go.Joins
set_option linter.unusedVariables false
set_option linter.unusedSimpArgs false

/-- an exact number as it lies: a sign, two slices of words, and what these say -/
structure RQ where
  s : Bool
  A : Option Addr
  n : Nat
  c : Nat
  z : List Int
  A' : Option Addr
  n' : Nat
  c' : Nat
  z' : List Int
instance : Inhabited RQ := ⟨⟨false, none, 0, 0, [], none, 0, 0, []⟩⟩
def RQ.ok (w : World) (x : RQ) : Prop := Sl w x.A x.n x.c x.z ∧ Sl w x.A' x.n' x.c' x.z' ∧ x.n ≤ maxLen ∧ x.n' ≤ maxLen
def RQ.cells (x : RQ) : List Value := [.bool x.s, .slice x.A x.n x.c, .slice x.A' x.n' x.c']
theorem RQ.below {w w' : World} {x : RQ} (h : x.ok w) (hb : Below w.heap.size w w') : x.ok w' := ⟨h.1.below hb, h.2.1.below hb, h.2.2⟩
/-- an instruction as it lies -/
structure RI where
  op : Int
  a : Int
  b : Int
  q : RQ
instance : Inhabited RI := ⟨⟨0, 0, 0, default⟩⟩
def I64 (x : Int) : Prop := -9223372036854775808 ≤ x ∧ x ≤ 9223372036854775807
def RI.ok (w : World) (x : RI) : Prop := I64 x.op ∧ I64 x.a ∧ I64 x.b ∧ x.q.ok w
def RI.cells (x : RI) : List Value := [.int .i64 x.op, .int .i64 x.a, .int .i64 x.b, .bool x.q.s, .slice x.q.A x.q.n x.q.c, .slice x.q.A' x.q.n' x.q.c']
theorem RI.below {w w' : World} {x : RI} (h : x.ok w) (hb : Below w.heap.size w w') : x.ok w' := ⟨h.1, h.2.1, h.2.2.1, RQ.below h.2.2.2 hb⟩
theorem I64_of_wf {x : Int} (h : (Lit.int .i64 x).wf = true) : I64 x := by
  simp [Lit.wf, IntKind.min, IntKind.max, IntKind.signed, IntKind.bits] at h
  unfold I64
  omega

/-- a slice whose elements take k cells each, told by the elements' cells -/
def SlC (k : Nat) {V : Type} (cells : V → List Value) (ok : World → V → Prop) (w : World) (A : Option Addr) (n c : Nat) (xs : List V) : Prop :=
  (xs.length = n ∧ n ≤ c ∧ c ≤ maxLen ∧ ∀ x ∈ xs, ok w x ∧ (cells x).length = k) ∧
  (0 < n → ∃ b off, A = some ⟨b, off, none⟩ ∧ b < w.heap.size ∧ ∀ j, j < n → ∀ i, i < k → w.cell? ⟨b, off + j * k + i, none⟩ = (xs[j]?).bind fun x => (cells x)[i]?)
theorem SlC.below {k : Nat} {V : Type} {cells : V → List Value} {ok : World → V → Prop} (hok : ∀ {w w' : World} {x : V}, ok w x → Below w.heap.size w w' → ok w' x) {w w' : World} {A : Option Addr} {n c : Nat} {xs : List V}
    (h : SlC k cells ok w A n c xs) (hb : Below w.heap.size w w') : SlC k cells ok w' A n c xs := by
  refine ⟨⟨h.1.1, h.1.2.1, h.1.2.2.1, fun x hx => ⟨hok (h.1.2.2.2 x hx).1 hb, (h.1.2.2.2 x hx).2⟩⟩, fun h0 => ?_⟩
  obtain ⟨b, off, e, hlt, hc⟩ := h.2 h0
  exact ⟨b, off, e, Nat.lt_of_lt_of_le hlt hb.size, fun j hj i hi => (hb.cell (p := ⟨b, off + j * k + i, none⟩) hlt).trans (hc j hj i hi)⟩
/-- a slice of instructions, of exact numbers, of ints -/
def SlP (w : World) (A : Option Addr) (n c : Nat) (xs : List RI) : Prop := SlC 6 RI.cells RI.ok w A n c xs
def SlR (w : World) (A : Option Addr) (n c : Nat) (xs : List RQ) : Prop := SlC 3 RQ.cells RQ.ok w A n c xs
def SlZ (w : World) (A : Option Addr) (n c : Nat) (xs : List Int) : Prop := SlC 1 (fun x => [Value.int .i64 x]) (fun _ x => I64 x) w A n c xs
theorem SlP.below {w w' : World} {A : Option Addr} {n c : Nat} {xs : List RI} (h : SlP w A n c xs) (hb : Below w.heap.size w w') : SlP w' A n c xs := SlC.below (cells := RI.cells) (ok := RI.ok) (fun h hb => RI.below h hb) h hb
theorem SlR.below {w w' : World} {A : Option Addr} {n c : Nat} {xs : List RQ} (h : SlR w A n c xs) (hb : Below w.heap.size w w') : SlR w' A n c xs := SlC.below (cells := RQ.cells) (ok := RQ.ok) (fun h hb => RQ.below h hb) h hb
theorem SlZ.below {w w' : World} {A : Option Addr} {n c : Nat} {xs : List Int} (h : SlZ w A n c xs) (hb : Below w.heap.size w w') : SlZ w' A n c xs := SlC.below (fun h _ => h) h hb
/-- the cells of an element -/
theorem SlP.at_ {w : World} {A : Option Addr} {n c : Nat} {xs : List RI} (h : SlP w A n c xs) {j : Nat} (hj : j < n) : ∃ b off x, A = some ⟨b, off, none⟩ ∧ b < w.heap.size ∧ xs[j]? = some x ∧ x.ok w ∧
    w.cell? ⟨b, off + j * 6, none⟩ = some (.int .i64 x.op) ∧ w.cell? ⟨b, off + j * 6 + 1, none⟩ = some (.int .i64 x.a) ∧ w.cell? ⟨b, off + j * 6 + 2, none⟩ = some (.int .i64 x.b) ∧
    w.cell? ⟨b, off + j * 6 + 3, none⟩ = some (.bool x.q.s) ∧ w.cell? ⟨b, off + j * 6 + 4, none⟩ = some (.slice x.q.A x.q.n x.q.c) ∧ w.cell? ⟨b, off + j * 6 + 5, none⟩ = some (.slice x.q.A' x.q.n' x.q.c') := by
  obtain ⟨b, off, e, hlt, hc⟩ := h.2 (by omega)
  have hl : j < xs.length := by rw [h.1.1]; exact hj
  have hx : xs[j]? = some xs[j] := List.getElem?_eq_getElem hl
  have hcj := hc j hj
  rw [hx] at hcj
  refine ⟨b, off, xs[j], e, hlt, hx, (h.1.2.2.2 _ (List.getElem_mem hl)).1, ?_⟩
  exact ⟨hcj 0 (by omega), hcj 1 (by omega), hcj 2 (by omega), hcj 3 (by omega), hcj 4 (by omega), hcj 5 (by omega)⟩
theorem SlR.at_ {w : World} {A : Option Addr} {n c : Nat} {xs : List RQ} (h : SlR w A n c xs) {j : Nat} (hj : j < n) : ∃ b off x, A = some ⟨b, off, none⟩ ∧ b < w.heap.size ∧ xs[j]? = some x ∧ x.ok w ∧
    w.cell? ⟨b, off + j * 3, none⟩ = some (.bool x.s) ∧ w.cell? ⟨b, off + j * 3 + 1, none⟩ = some (.slice x.A x.n x.c) ∧ w.cell? ⟨b, off + j * 3 + 2, none⟩ = some (.slice x.A' x.n' x.c') := by
  obtain ⟨b, off, e, hlt, hc⟩ := h.2 (by omega)
  have hl : j < xs.length := by rw [h.1.1]; exact hj
  have hx : xs[j]? = some xs[j] := List.getElem?_eq_getElem hl
  have hcj := hc j hj
  rw [hx] at hcj
  refine ⟨b, off, xs[j], e, hlt, hx, (h.1.2.2.2 _ (List.getElem_mem hl)).1, ?_⟩
  exact ⟨hcj 0 (by omega), hcj 1 (by omega), hcj 2 (by omega)⟩
theorem SlZ.at_ {w : World} {A : Option Addr} {n c : Nat} {xs : List Int} (h : SlZ w A n c xs) {j : Nat} (hj : j < n) : ∃ b off x, A = some ⟨b, off, none⟩ ∧ b < w.heap.size ∧ xs[j]? = some x ∧ I64 x ∧ w.cell? ⟨b, off + j, none⟩ = some (.int .i64 x) := by
  obtain ⟨b, off, e, hlt, hc⟩ := h.2 (by omega)
  have hl : j < xs.length := by rw [h.1.1]; exact hj
  have hx : xs[j]? = some xs[j] := List.getElem?_eq_getElem hl
  have hcj := hc j hj
  rw [hx] at hcj
  refine ⟨b, off, xs[j], e, hlt, hx, (h.1.2.2.2 _ (List.getElem_mem hl)).1, ?_⟩
  have := hcj 0 (by omega)
  rw [Nat.mul_one, Nat.add_zero] at this
  exact this
/-! ### what came in -/
section
variable {H : Type} {enc : TypeId × Value → H} {P : Program} {w : World} {base : Nat} {spare : Nat → Bool} {held : Bool}
/-- a slice of words -/
theorem open_sl {t e : TypeId} {fuel : Nat} {v : Value} {x : DataW H × List MemPlace} (ht : P.underlying t = some (.slice e)) (he : P.underlying e = some (.int .u64)) (hc : P.cellsOf e = 1)
    (h : DataW.trod enc P w base (fun _ => true) held fuel t [v] = some x) : ∃ A n c z, v = .slice A n c ∧ Sl w A n c z ∧ n ≤ maxLen := by
  rcases open_ints ht he hc h with ⟨hcs, _⟩ | ⟨a, l, c, zs, hcs, _, hl, hm, hz, _, hcell, hwz⟩
  · simp at hcs
    exact ⟨none, 0, 0, [], hcs, Sl.nil _ _ _, by unfold maxLen; omega⟩
  · simp at hcs
    have hr : IsRow .u64 w (some a) l c zs := .inr ⟨_, rfl, hl, hm, by simpa using hz, hcell, hwz⟩
    obtain ⟨h1, h2⟩ := hr.sl
    exact ⟨some a, l, c, _, hcs, h1, h2⟩
/-- what a program's table says of the type of exact numbers -/
structure RatTy (P : Program) (t : TypeId) : Prop where
  st : ∃ f0 f1 f2 : Field, P.underlying t = some (.struct #[f0, f1, f2]) ∧ f0.offset = 0 ∧ f1.offset = 1 ∧ f2.offset = 2 ∧ P.cellsOf f0.type = 1 ∧ P.cellsOf f1.type = 1 ∧ P.cellsOf f2.type = 1 ∧
    P.underlying f0.type = some .bool ∧ ∃ e e', P.underlying f1.type = some (.slice e) ∧ P.underlying f2.type = some (.slice e') ∧ P.underlying e = some (.int .u64) ∧ P.underlying e' = some (.int .u64) ∧ P.cellsOf e = 1 ∧ P.cellsOf e' = 1
  size : P.cellsOf t = 3
theorem open_rq {t : TypeId} (T : RatTy P t) {fuel : Nat} {cs : List Value} {x : DataW H × List MemPlace} (h : DataW.trod enc P w base (fun _ => true) held fuel t cs = some x) : ∃ q : RQ, cs = q.cells ∧ q.ok w := by
  obtain ⟨⟨f0, f1, f2, hs, o0, o1, o2, c0, c1, c2, hb, e, e', h1, h2, h3, h4, h5, h6⟩, hC⟩ := T
  obtain ⟨xs, n, _, _, hl, hxl, hf⟩ := DataW.trod_struct hs h
  rw [hC] at hl
  match cs, hl with
  | [v0, v1, v2], _ =>
    have g0 := hf 0 f0 rfl
    have g1 := hf 1 f1 rfl
    have g2 := hf 2 f2 rfl
    have hx : xs.length = 3 := hxl
    rw [List.getElem?_eq_getElem (by omega)] at g0 g1 g2
    rw [o0, c0] at g0
    rw [o1, c1] at g1
    rw [o2, c2] at g2
    simp only [List.drop_zero, List.take_succ_cons, List.take_zero, List.drop_succ_cons] at g0 g1 g2
    obtain ⟨s, es, _⟩ := DataW.trod_bool hb g0
    obtain ⟨A, n1, c1', z, ea, sa, la⟩ := open_sl h1 h3 h5 g1
    obtain ⟨A', n2, c2', z', eb, sb, lb⟩ := open_sl h2 h4 h6 g2
    refine ⟨⟨s, A, n1, c1', z, A', n2, c2', z'⟩, ?_, sa, sb, la, lb⟩
    simp at es
    subst es ea eb
    rfl
/-- .. and of the type of instructions -/
structure InsTy (P : Program) (t : TypeId) : Prop where
  st : ∃ f0 f1 f2 f3 : Field, P.underlying t = some (.struct #[f0, f1, f2, f3]) ∧ f0.offset = 0 ∧ f1.offset = 1 ∧ f2.offset = 2 ∧ f3.offset = 3 ∧ P.cellsOf f0.type = 1 ∧ P.cellsOf f1.type = 1 ∧ P.cellsOf f2.type = 1 ∧
    P.underlying f0.type = some (.int .i64) ∧ P.underlying f1.type = some (.int .i64) ∧ P.underlying f2.type = some (.int .i64) ∧ RatTy P f3.type
  size : P.cellsOf t = 6
theorem open_ri {t : TypeId} (T : InsTy P t) {fuel : Nat} {cs : List Value} {x : DataW H × List MemPlace} (h : DataW.trod enc P w base (fun _ => true) held fuel t cs = some x) : ∃ q : RI, cs = q.cells ∧ q.ok w := by
  obtain ⟨⟨f0, f1, f2, f3, hs, o0, o1, o2, o3, c0, c1, c2, h0, h1, h2, R⟩, hC⟩ := T
  obtain ⟨xs, n, _, _, hl, hxl, hf⟩ := DataW.trod_struct hs h
  rw [hC] at hl
  match cs, hl with
  | [v0, v1, v2, v3, v4, v5], _ =>
    have g0 := hf 0 f0 rfl
    have g1 := hf 1 f1 rfl
    have g2 := hf 2 f2 rfl
    have g3 := hf 3 f3 rfl
    have hx : xs.length = 4 := hxl
    rw [List.getElem?_eq_getElem (by omega)] at g0 g1 g2 g3
    rw [o0, c0] at g0
    rw [o1, c1] at g1
    rw [o2, c2] at g2
    rw [o3, R.size] at g3
    simp only [List.drop_zero, List.take_succ_cons, List.take_zero, List.drop_succ_cons] at g0 g1 g2 g3
    obtain ⟨x0, e0, _, w0⟩ := DataW.trod_int h0 g0
    obtain ⟨x1, e1, _, w1⟩ := DataW.trod_int h1 g1
    obtain ⟨x2, e2, _, w2⟩ := DataW.trod_int h2 g2
    obtain ⟨q, eq_, ok⟩ := open_rq R g3
    refine ⟨⟨x0, x1, x2, q⟩, ?_, I64_of_wf w0, I64_of_wf w1, I64_of_wf w2, ok⟩
    simp at e0 e1 e2
    unfold RQ.cells at eq_
    simp at eq_
    obtain ⟨rfl, rfl, rfl⟩ := eq_
    subst e0 e1 e2
    rfl
/-- a slice of such -/
theorem open_slc {k : Nat} {V : Type} [Inhabited V] {cells : V → List Value} {ok : World → V → Prop} {t e : TypeId} (ht : P.underlying t = some (.slice e)) (hk : P.cellsOf e = k)
    (hop : ∀ (fuel : Nat) (cs : List Value) (x : DataW H × List MemPlace), DataW.trod enc P w base (fun _ => true) held fuel e cs = some x → ∃ q : V, cs = cells q ∧ ok w q) (hkp : 0 < k)
    {fuel : Nat} {v : Value} {x : DataW H × List MemPlace} (h : DataW.trod enc P w base (fun _ => true) held fuel t [v] = some x) : ∃ A n c xs, v = .slice A n c ∧ SlC k cells ok w A n c xs := by
  rcases open_slice ht h with ⟨hcs, _⟩ | ⟨a, len, cap, m, n, D, Pl, hcs, hb, hl, hm, hmm, _, hx⟩
  · simp at hcs
    exact ⟨none, 0, 0, [], hcs, ⟨rfl, Nat.le_refl _, by unfold maxLen; omega, by simp⟩, fun h0 => absurd h0 (by omega)⟩
  · simp at hcs
    simp at hmm
    rw [hk] at hx
    have each : ∀ i, i < len → ∃ q : V, w.cells? base (a.add (i * k)) k = some (cells q) ∧ ok w q := by
      intro i hi
      obtain ⟨cs', h1, h2⟩ := hx i (by omega)
      obtain ⟨q, hq, ho⟩ := hop _ _ _ h2
      exact ⟨q, by rw [h1, hq], ho⟩
    obtain ⟨f, hf⟩ := choose_lt each
    have hcell : ∀ j, j < len → (cells (f j)).length = k ∧ ∀ i, i < k → w.cell? ((a.add (j * k)).add i) = (cells (f j))[i]? := by
      intro j hj
      obtain ⟨_, h2, h3⟩ := World.cells?_some (hf j hj).1
      exact ⟨h2, h3⟩
    refine ⟨some a, len, cap, (List.range len).map f, hcs, ⟨by simp, hl, hm, fun y hy => ?_⟩, fun h0 => ?_⟩
    · obtain ⟨j, hj, rfl⟩ := List.mem_map.1 hy
      have hj' := List.mem_range.1 hj
      exact ⟨(hf j hj').2, (hcell j hj').1⟩
    · obtain ⟨b, off, spot⟩ := a
      have hc0 := (hcell 0 h0).2 0 hkp
      have hlen0 := (hcell 0 h0).1
      rw [List.getElem?_eq_getElem (by omega)] at hc0
      have hspot : spot = none := by simpa [Addr.add] using World.cell?_spot hc0
      subst hspot
      have hlt : b < w.heap.size := by
        rcases Nat.lt_or_ge b w.heap.size with h9 | h9
        · exact h9
        · exfalso
          simp [Addr.add, World.cell?, Array.getElem?_eq_none h9] at hc0
      refine ⟨b, off, rfl, hlt, fun j hj i hi => ?_⟩
      have := (hcell j hj).2 i hi
      rw [add_add] at this
      have e : ((⟨b, off, none⟩ : Addr).add (j * k + i)) = ⟨b, off + j * k + i, none⟩ := by
        unfold Addr.add; split
        · rename_i h9
          have h8 : off + j * k + i = off := by omega
          rw [h8]
        · rw [Nat.add_assoc]
      rw [e] at this
      rw [List.getElem?_map, List.getElem?_range hj]
      exact this
theorem open_slp {t e : TypeId} (ht : P.underlying t = some (.slice e)) (T : InsTy P e) {fuel : Nat} {v : Value} {x : DataW H × List MemPlace} (h : DataW.trod enc P w base (fun _ => true) held fuel t [v] = some x) : ∃ A n c xs, v = .slice A n c ∧ SlP w A n c xs :=
  open_slc ht T.size (fun _ _ _ h => open_ri T h) (by omega) h
theorem open_slr {t e : TypeId} (ht : P.underlying t = some (.slice e)) (T : RatTy P e) {fuel : Nat} {v : Value} {x : DataW H × List MemPlace} (h : DataW.trod enc P w base (fun _ => true) held fuel t [v] = some x) : ∃ A n c xs, v = .slice A n c ∧ SlR w A n c xs :=
  open_slc ht T.size (fun _ _ _ h => open_rq T h) (by omega) h
theorem open_slz {t e : TypeId} (ht : P.underlying t = some (.slice e)) (he : P.underlying e = some (.int .i64)) (hc : P.cellsOf e = 1) {fuel : Nat} {v : Value} {x : DataW H × List MemPlace} (h : DataW.trod enc P w base (fun _ => true) held fuel t [v] = some x) : ∃ A n c xs, v = .slice A n c ∧ SlZ w A n c xs :=
  open_slc ht hc (fun fuel cs x h => by
    obtain ⟨n, e1, _, e3⟩ := DataW.trod_int he h
    exact ⟨n, e1, I64_of_wf e3⟩) (by omega) h
end

end Go.Proofs.Ythhmofmncjodfaa
