/-
  Rows of ints and of truths that a call makes and appends to. No Go function in sight. Conditions: as each lemma says.
-/
import Derived.Test.YthhmofmncjodfaaProg
import Derived.Test.YthhmofmncjodfaaLnOwn
import Derived.Test.YthhmofmncjodfaaMemZ
import Derived.KernelRfl
namespace Go.Proofs.Ythhmofmncjodfaa
open Go.RowKit
set_option linter.unusedVariables false
set_option linter.unusedSimpArgs false

theorem news_new (w : World) (cs : Array Value) (t : TypeId) : ∀ (j : Nat) (u : Value), cs.toList[j]? = some u → (w.alloc (.cells cs t)).cell? ((⟨w.heap.size, 0, none⟩ : Addr).add j) = some u := by
  intro j u hj
  have e1 : (⟨w.heap.size, 0, none⟩ : Addr).add j = ⟨w.heap.size, j, none⟩ := by
    unfold Addr.add; split
    · rename_i h9; rw [h9]
    · rw [Nat.zero_add]
  rw [e1, cell_of_row _ w.heap.size j cs t (0, 0) (heap_alloc_new w _)]
  simpa using hj
theorem OwnC.base {k : Nat} {V : Type} {cells : V → List Value} {t : TypeId} {B : Nat} {w : World} {v : Value} {xs : List V} (h : OwnC k cells t B w v xs) : ∀ g, v.ownBlock = some g → B ≤ g := by
  intro g hg
  rcases h.2 with ⟨rfl, rfl⟩ | ⟨g', cap, cur, rfl, h1, _⟩
  · cases hg
  · have e : g' = g := by simpa [Value.ownBlock] using hg
    rw [← e]; exact h1
theorem infoZ : (Try.prog.info? 3).map (fun i => (i.zero, i.size, i.bytes)) = some (some (.int .i64 0), 1, 8) := by kernel_rfl
def zc (x : Int) : List Value := [Value.int .i64 x]
theorem zeroZ : ∀ u ∈ (Value.int .i64 0).cells.toList, NoW u := by
  intro u hu
  have e : (Value.int .i64 0).cells.toList = [.int .i64 0] := rfl
  rw [e, List.mem_singleton] at hu
  rw [hu]
  exact NoW_i64 _
theorem zc_one (x : Int) : ∀ u ∈ zc x, u.oneCell' = true := by
  intro u hu
  rw [List.mem_singleton.1 hu]
  rfl
theorem zc_noW (x : Int) : ∀ u ∈ zc x, NoW u := by
  intro u hu
  rw [List.mem_singleton.1 hu]
  exact NoW_i64 _
theorem OwnC.slz {B : Nat} {w : World} {A : Option Addr} {n c : Nat} {zs : List Int} (h : OwnC 1 zc 3 B w (.slice A n c) zs) (hok : ∀ z ∈ zs, I64 z) : SlZ w A n c zs := h.slc (ok := fun _ x => I64 x) hok
theorem OwnC.blk {k : Nat} {V : Type} {cells : V → List Value} {t : TypeId} {B : Nat} {w : World} {v : Value} {xs : List V} (h : OwnC k cells t B w v xs) : ∀ g, v.ownBlock = some g → ∃ cur, w.heap[g]? = some (.cells cur t (0, 0)) := by
  intro g hg
  rcases h.2 with ⟨rfl, rfl⟩ | ⟨g', cap, cur, rfl, _, h2, _⟩
  · cases hg
  · have e : g' = g := by simpa [Value.ownBlock] using hg
    subst e
    exact ⟨cur, h2⟩
theorem OwnC.kept {k : Nat} {V : Type} {cells : V → List Value} {t t' : TypeId} {B : Nat} {w w' : World} {v : Value} {xs : List V} {r : Option Nat} (h : OwnC k cells t B w v xs) (hg : w.grownBy w' r) (hr : ∀ g, r = some g → ∃ cur, w.heap[g]? = some (.cells cur t' (0, 0))) (ht : t ≠ t') : OwnC k cells t B w' v xs := by
  refine ⟨h.1, ?_⟩
  rcases h.2 with h2 | ⟨g, cap, cur, hv, hg2, hh, rr⟩
  · exact .inl h2
  · have hlt : g < w.heap.size := by
      rcases Nat.lt_or_ge g w.heap.size with h9 | h9
      · exact h9
      · rw [Array.getElem?_eq_none h9] at hh; cases hh
    refine .inr ⟨g, cap, cur, hv, hg2, (hg.block g hlt (fun e => ?_)).trans hh, rr⟩
    obtain ⟨cur', h8⟩ := hr g e.symm
    rw [hh] at h8
    injection h8 with h8
    injection h8 with _ h8
    exact ht h8
theorem Box.kept {t t' : TypeId} {w w' : World} {g : Nat} {vs : Array Value} {r : Option Nat} (h : Box t w g vs) (hg : w.grownBy w' r) (hr : ∀ g, r = some g → ∃ cur, w.heap[g]? = some (.cells cur t' (0, 0))) (ht : t ≠ t') : Box t w' g vs := by
  refine (hg.block g h.lt (fun e => ?_)).trans h
  obtain ⟨cur', h8⟩ := hr g e.symm
  unfold Box at h
  rw [h] at h8
  injection h8 with h8
  injection h8 with _ h8
  exact ht h8
/-- block g is just the ints zs -/
def IRow (w : World) (g : Nat) (zs : List Int) : Prop := Box 3 w g (zs.map (Value.int .i64)).toArray
theorem IRow.cell {w : World} {g : Nat} {zs : List Int} (h : IRow w g zs) {i : Nat} (hi : i < zs.length) : w.cell? ⟨g, i, none⟩ = some (.int .i64 (zs.getD i 0)) := by
  rw [Box.cell h]
  simp [List.getD, hi]
theorem IRow.free {w : World} {g : Nat} {zs : List Int} (h : IRow w g zs) (i : Nat) : w.frozen? ⟨g, i, none⟩ = false := Box.free h i
theorem IRow.set {w : World} {g : Nat} {zs : List Int} (h : IRow w g zs) (i : Nat) (b : Int) : IRow (w.setCell ⟨g, i, none⟩ (.int .i64 b)) g (zs.set i b) := by
  unfold IRow Box at *
  unfold World.setCell
  simp [Array.getElem?_modify, h, List.map_set]
theorem IRow.lt {w : World} {g : Nat} {zs : List Int} (h : IRow w g zs) : g < w.heap.size := Box.lt h
theorem IRow.below {w w' : World} {g : Nat} {zs : List Int} (h : IRow w g zs) (hb : Below w.heap.size w w') : IRow w' g zs := Box.below' h hb
theorem IRow.slz {w : World} {g c : Nat} {zs : List Int} (h : IRow w g zs) (hi : ∀ x ∈ zs, I64 x) (hc : zs.length ≤ c) (hm : c ≤ maxLen) : SlZ w (some ⟨g, 0, none⟩) zs.length c zs := by
  refine ⟨⟨rfl, hc, hm, fun x hx => ⟨hi x hx, rfl⟩⟩, fun _ => ⟨g, 0, rfl, h.lt, fun j hj i hi => ?_⟩⟩
  obtain rfl : i = 0 := by omega
  rw [Nat.mul_one, Nat.add_zero, Nat.zero_add, h.cell hj, List.getElem?_eq_getElem hj, List.getD_eq_getElem?_getD, List.getElem?_eq_getElem hj]
  rfl
theorem setI_at {zs : List Int} {i : Nat} (hi : i < zs.length) (b : Int) (k : Nat) : (zs.set i b).getD k 0 = if k = i then b else zs.getD k 0 := by
  rw [List.getD_eq_getElem?_getD, List.getElem?_set, List.getD_eq_getElem?_getD]
  by_cases h : i = k
  · subst h; simp [hi]
  · rw [if_neg h, if_neg (fun e => h e.symm)]
theorem make_zs (w : World) (n : Nat) (hn : n ≤ 1000000) : ∃ w1, (Instr.makeSlice 22 (.int .i64 (n : Int)) (.int .i64 (n : Int))).run Try.prog w = .ok (.slice (some ⟨w.heap.size, 0, none⟩) n n) w1 ∧ IRow w1 w.heap.size (List.replicate n 0) ∧ Below w.heap.size w w1 ∧ w1.heap.size = w.heap.size + 1 := by
  refine ⟨_, run_make_row' (P := Try.prog) 22 3 (.int .i64 0) 8 Try.underlying22 (by kernel_rfl) rfl .i64 .i64 n (by omega) (by omega) w, ?_, below_alloc _ _, by simp⟩
  have e : madeCells #[.int .i64 0] n = ((List.replicate n (0 : Int)).map (Value.int .i64)).toArray := by
    apply Array.toList_inj.1
    rw [toList_madeCells_one]
    simp
  unfold IRow
  rw [e]
  exact Box.new w _ _
theorem Box.one1 {t : TypeId} {w : World} {g : Nat} {v : Value} (h : Box t w g #[v]) (x : Value) : Box t (w.setCell ⟨g, 0, none⟩ x) g #[x] := by
  unfold Box at *
  unfold World.setCell
  simp [Array.getElem?_modify, h]
theorem Box.setAt {t : TypeId} {w : World} {g g' : Nat} {vs : Array Value} (h : Box t w g vs) (hne : g ≠ g') (i : Nat) (x : Value) : Box t (w.setCell ⟨g', i, none⟩ x) g vs := (((Keep.refl g' w).setCell i x).block g h.lt hne).trans h
/-- a call that returns a slice of ints, in new memory -/
def RetZs (xs : List Int) (w : World) (e : Ending) (w' : World) : Prop := ∃ A n c, e = .returned (.slice A n c) ∧ SlZ w' A n c xs ∧ (0 < n → New w A) ∧ Below w.heap.size w w'

/-- append of one int to a row of the call's own -/
theorem wpList_append_z {wr : World} {ops : Array Oper} {rest : List Oper} {o : Oper} {a : Act} {Q : Exit → Act → World → Prop} (hgd : o.guard = none) (s x : Operand)
    (ho : o.op = .call { callee := .builtin .append, args := #[s, x], argTypes := #[22, 22] }) (B : Nat) (v : Value) (zs : List Int) (hs : a.eval s = v) (hown : OwnC 1 zc 3 B wr v zs) (c : Nat) (p : Int)
    (hx : a.eval x = .slice (some ⟨wr.heap.size, 0, none⟩) 1 c) (hl : zs.length + 1 ≤ 1000000) (hB : B ≤ wr.heap.size)
    (h : ∀ v' w', OwnC 1 zc 3 B w' v' (zs ++ [p]) → Below B wr w' → wpList Try.prog ops Q rest (a.put o.dst v') w') : wpList Try.prog ops Q (o :: rest) a (wr.alloc (.cells #[.int .i64 p] 3)) := by
  obtain ⟨i1, hi1, hy0, hy1, hy2⟩ := info_parts infoZ
  have ho2 := hown.below (below_alloc wr (.cells #[.int .i64 p] 3))
  refine wpList_append_C _ hgd s x 22 ho B 3 i1 _ 8 Try.underlying22 hi1 hy0 hy1 hy2 rfl (by decide) zeroZ v zs hs ho2 ⟨wr.heap.size, 0, none⟩ c p hx rfl (news_new wr _ _) (zc_one _) (zc_noW _) (by unfold maxLen; omega) (by omega) (by simp; omega) ?_
  intro v' w' h1 h2
  exact h v' w' h1 (((Below.refl B wr).alloc hB _).grown h2 (by simp; omega) ho2.base)
def bc (x : Bool) : List Value := [Value.bool x]
theorem infoBl : (Try.prog.info? 4).map (fun i => (i.zero, i.size, i.bytes)) = some (some (.bool false), 1, 1) := by kernel_rfl
theorem zeroB : ∀ u ∈ (Value.bool false).cells.toList, NoW u := by
  intro u hu
  have e : (Value.bool false).cells.toList = [.bool false] := rfl
  rw [e, List.mem_singleton] at hu
  rw [hu]
  exact NoW_bool _
theorem bc_one (x : Bool) : ∀ u ∈ bc x, u.oneCell' = true := by
  intro u hu
  rw [List.mem_singleton.1 hu]
  rfl
theorem bc_noW (x : Bool) : ∀ u ∈ bc x, NoW u := by
  intro u hu
  rw [List.mem_singleton.1 hu]
  exact NoW_bool _
/-- append of one truth to a row of the call's own -/
theorem wpList_append_b {wr : World} {ops : Array Oper} {rest : List Oper} {o : Oper} {a : Act} {Q : Exit → Act → World → Prop} (hgd : o.guard = none) (s x : Operand)
    (ho : o.op = .call { callee := .builtin .append, args := #[s, x], argTypes := #[29, 29] }) (B : Nat) (v : Value) (zs : List Bool) (hs : a.eval s = v) (hown : OwnC 1 bc 4 B wr v zs) (c : Nat) (p : Bool)
    (hx : a.eval x = .slice (some ⟨wr.heap.size, 0, none⟩) 1 c) (hl : zs.length + 1 ≤ 1000000) (hB : B ≤ wr.heap.size)
    (h : ∀ v' w', OwnC 1 bc 4 B w' v' (zs ++ [p]) → Below B wr w' → wpList Try.prog ops Q rest (a.put o.dst v') w') : wpList Try.prog ops Q (o :: rest) a (wr.alloc (.cells #[.bool p] 4)) := by
  obtain ⟨i1, hi1, hy0, hy1, hy2⟩ := info_parts infoBl
  have ho2 := hown.below (below_alloc wr (.cells #[.bool p] 4))
  refine wpList_append_C _ hgd s x 29 ho B 4 i1 _ 1 Try.underlying29 hi1 hy0 hy1 hy2 rfl (by decide) zeroB v zs hs ho2 ⟨wr.heap.size, 0, none⟩ c p hx rfl (news_new wr _ _) (bc_one _) (bc_noW _) (by unfold maxLen; omega) (by omega) (by simp; omega) ?_
  intro v' w' h1 h2
  exact h v' w' h1 (((Below.refl B wr).alloc hB _).grown h2 (by simp; omega) ho2.base)
theorem OwnC.retz {B : Nat} {w : World} {v : Value} {zs : List Int} (h : OwnC 1 zc 3 B w v zs) (hi : ∀ x ∈ zs, I64 x) : ∃ A n c, v = .slice A n c ∧ SlZ w A n c zs ∧ (0 < n → ∀ b off, A = some ⟨b, off, none⟩ → B ≤ b) := by
  obtain ⟨A, c, e, _, _⟩ := h.form
  subst e
  refine ⟨A, _, c, rfl, h.slz hi, fun h0 b off e => ?_⟩
  subst e
  exact h.base b (by simp [Value.ownBlock])

/-- make([]T, 0, n) -/
theorem make_C {V : Type} {k : Nat} {cells : V → List Value} (t e : TypeId) (z : Value) (bytes : Nat) (ht : Try.prog.underlying t = some (.slice e)) (hi : (Try.prog.info? e).map (fun i => (i.zero, i.size, i.bytes)) = some (some z, k, bytes)) (hzw : ∀ u ∈ z.cells.toList, NoW u) (hzs : z.cells.size = k) (hk : 0 < k)
    (w : World) (n : Nat) (hn : n ≤ 1000000) (hby : bytes ≤ 1000) : ∃ w1, (Instr.makeSlice t (.int .i64 0) (.int .i64 (n : Int))).run Try.prog w = .ok (.slice (some ⟨w.heap.size, 0, none⟩) 0 n) w1 ∧ OwnC k cells e w.heap.size w1 (.slice (some ⟨w.heap.size, 0, none⟩) 0 n) [] ∧ Below w.heap.size w w1 := by
  obtain ⟨i, h1, h2, h3, h4⟩ := info_parts hi
  have hb : (i.bytes : Int) * (n : Int) ≤ 281474976710656 := by
    have : bytes * n ≤ 1000 * 1000000 := Nat.mul_le_mul hby hn
    rw [h4]
    have e2 : ((bytes * n : Nat) : Int) ≤ 1000 * 1000000 := by omega
    rw [Int.natCast_mul] at e2
    omega
  have hr := run_make (P := Try.prog) w t e i z ht h1 h2 .i64 .i64 0 n (by omega) (by omega) hb (by omega)
  simp only [Int.toNat_natCast, Int.toNat_zero, h3] at hr
  refine ⟨_, hr, ⟨by simp, .inr ⟨w.heap.size, n, _, rfl, Nat.le_refl _, heap_alloc_new w _, Nat.zero_le _, by unfold maxLen; omega, size_madeCells _ _, by simp, ?_⟩⟩, below_alloc _ _⟩
  intro u hu
  unfold madeCells at hu
  simp only [Array.toList_map, List.mem_map] at hu
  obtain ⟨i, _, rfl⟩ := hu
  have hlt := Nat.mod_lt i (show 0 < z.cells.size by omega)
  rw [getElem!_pos z.cells (i % z.cells.size) hlt]
  exact hzw _ (by simp)
end Go.Proofs.Ythhmofmncjodfaa
