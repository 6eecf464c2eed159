/-
  Rows of structs that a call makes and appends to: what they hold, and that the words of numbers elsewhere stay as they are. No Go function in sight. Conditions: as each lemma says.
-/
import Derived.Test.YthhmofmncjodfaaLnMem
import Derived.Laws.AppendOwn
namespace Go.Proofs.Ythhmofmncjodfaa
open Go.RowKit
set_option linter.unusedVariables false
set_option linter.unusedSimpArgs false

theorem flat_len {V : Type} {cells : V → List Value} {k : Nat} : ∀ (xs : List V), (∀ x ∈ xs, (cells x).length = k) → (xs.flatMap cells).length = xs.length * k
  | [], _ => by simp
  | x :: xs, h => by
    rw [List.flatMap_cons, List.length_append, h x (by simp), flat_len xs (fun y hy => h y (by simp [hy])), List.length_cons, Nat.add_mul]
    omega
theorem flat_at {V : Type} {cells : V → List Value} {k : Nat} : ∀ (xs : List V), (∀ x ∈ xs, (cells x).length = k) → ∀ j i, i < k → (xs.flatMap cells)[j * k + i]? = (xs[j]?).bind fun x => (cells x)[i]?
  | [], _, j, i, _ => by simp
  | x :: xs, h, 0, i, hi => by
    rw [List.flatMap_cons, Nat.zero_mul, Nat.zero_add, List.getElem?_append_left (by rw [h x (by simp)]; exact hi)]; rfl
  | x :: xs, h, j + 1, i, hi => by
    have hx := h x (by simp)
    rw [List.flatMap_cons, List.getElem?_append_right (by rw [hx, Nat.add_mul]; omega), hx, show (j + 1) * k + i - k = j * k + i by rw [Nat.add_mul]; omega,
      flat_at xs (fun y hy => h y (by simp [hy])) j i hi]
    rfl
/-- no word -/
def NoW (u : Value) : Prop := ∀ x : Int, u ≠ .int .u64 x
def NoWAt (w : World) (g : Nat) : Prop := ∀ (i : Nat) (x : Int), w.cell? ⟨g, i, none⟩ ≠ some (.int .u64 x)
/-- the slice value v owns, from block B on, the elements xs, of k cells each, none a word -/
def OwnC (k : Nat) {V : Type} (cells : V → List Value) (t : TypeId) (B : Nat) (w : World) (v : Value) (xs : List V) : Prop :=
  (∀ x ∈ xs, (cells x).length = k) ∧ ((v = .slice none 0 0 ∧ xs = []) ∨
    ∃ g cap cur, v = .slice (some ⟨g, 0, none⟩) xs.length cap ∧ B ≤ g ∧ w.heap[g]? = some (.cells cur t (0, 0)) ∧ xs.length ≤ cap ∧ cap ≤ maxLen ∧ cur.size = cap * k ∧
      cur.toList.take (xs.length * k) = xs.flatMap cells ∧ ∀ u ∈ cur.toList, NoW u)
section
variable {k : Nat} {V : Type} {cells : V → List Value} {t : TypeId} {B : Nat} {w w' : World} {v : Value} {xs : List V}
theorem OwnC.nil : OwnC k cells t B w (.slice none 0 0) [] := ⟨by simp, .inl ⟨rfl, rfl⟩⟩
theorem OwnC.form (h : OwnC k cells t B w v xs) : ∃ A c, v = .slice A xs.length c ∧ xs.length ≤ c ∧ c ≤ maxLen := by
  rcases h with ⟨_, ⟨rfl, rfl⟩ | ⟨g, cap, cur, rfl, _, _, h1, h2, _⟩⟩
  · exact ⟨none, 0, rfl, Nat.le_refl _, by unfold maxLen; omega⟩
  · exact ⟨_, _, rfl, h1, h2⟩
theorem OwnC.own (h : OwnC k cells t B w v xs) : w.ownsRow B t k v xs.length (xs.flatMap cells) := by
  refine ⟨flat_len xs h.1, ?_⟩
  rcases h.2 with ⟨rfl, rfl⟩ | ⟨g, cap, cur, e, h1, h2, h3, h4, h5, h6, _⟩
  · exact .inl ⟨rfl, rfl⟩
  · exact .inr ⟨g, cap, cur, e, h1, h2, h3, h4, h5, h6⟩
theorem OwnC.noW (h : OwnC k cells t B w v xs) : ∀ g, v.ownBlock = some g → NoWAt w g := by
  intro g hg
  rcases h.2 with ⟨rfl, rfl⟩ | ⟨g', cap, cur, rfl, h1, h2, h3, h4, h5, h6, h7⟩
  · cases hg
  · have e : g' = g := by simpa [Value.ownBlock] using hg
    subst e
    intro i x hx
    rw [cell_of_row w g' i cur t (0, 0) h2] at hx
    have hm : (Value.int .u64 x) ∈ cur := Array.mem_of_getElem? hx
    exact h7 _ (by simpa using hm) x rfl
theorem OwnC.below (h : OwnC k cells t B w v xs) (hb : Below w.heap.size w w') : OwnC k cells t B w' v xs := by
  refine ⟨h.1, ?_⟩
  rcases h.2 with h2 | ⟨g, cap, cur, hv, hg, hh, r⟩
  · exact .inl h2
  · have hlt : g < w.heap.size := by
      rcases Nat.lt_or_ge g w.heap.size with h9 | h9
      · exact h9
      · rw [Array.getElem?_eq_none h9] at hh; cases hh
    exact .inr ⟨g, cap, cur, hv, hg, (hb.block g hlt).trans hh, r⟩
theorem OwnC.slc {ok : World → V → Prop} {A : Option Addr} {n c : Nat} (h : OwnC k cells t B w (.slice A n c) xs) (hok : ∀ x ∈ xs, ok w x) : SlC k cells ok w A n c xs := by
  rcases h with ⟨hl, ⟨e, rfl⟩ | ⟨g, cap, cur, e, h1, h2, h3, h4, h5, h6, _⟩⟩
  · injection e with e1 e2 e3
    subst e1 e2 e3
    exact ⟨⟨rfl, Nat.le_refl _, by unfold maxLen; omega, by simp⟩, fun h0 => absurd h0 (by omega)⟩
  · injection e with e1 e2 e3
    subst e1 e2 e3
    have hlt : g < w.heap.size := by
      rcases Nat.lt_or_ge g w.heap.size with h9 | h9
      · exact h9
      · rw [Array.getElem?_eq_none h9] at h2; cases h2
    refine ⟨⟨rfl, h3, h4, fun x hx => ⟨hok x hx, hl x hx⟩⟩, fun h0 => ⟨g, 0, rfl, hlt, fun j hj i hi => ?_⟩⟩
    rw [← flat_at xs hl j i hi, ← h6, cell_of_row w g _ cur t (0, 0) h2, Nat.zero_add, List.getElem?_take, if_pos]
    · simp
    · have : (j + 1) * k ≤ xs.length * k := Nat.mul_le_mul_right _ hj
      rw [Nat.add_mul] at this
      omega
/-- the words of a number elsewhere stay -/
theorem Sl.grownC {w1 : World} {r : Option Nat} {A : Option Addr} {n c : Nat} {zs : List Int} (s : Sl w A n c zs) (hg : w.grownBy w1 r) (hr : ∀ g, r = some g → NoWAt w g) : Sl w1 A n c zs := by
  refine ⟨s.1, fun h0 => ?_⟩
  obtain ⟨b, off, e, hlt, hc⟩ := s.2 h0
  have hne : some b ≠ r := by
    intro e2
    have := hc 0 h0
    exact hr b e2.symm _ _ this
  have hsz := hg.size
  refine ⟨b, off, e, by omega, fun j hj => ?_⟩
  have hbl := hg.block b hlt hne
  have e1 : w1.cell? ⟨b, off + j, none⟩ = w.cell? ⟨b, off + j, none⟩ := World.cell?_of_block (a := ⟨b, off + j, none⟩) hbl
  rw [e1]
  exact hc j hj
theorem RQ.grownC {w1 : World} {r : Option Nat} {x : RQ} (s : x.ok w) (hg : w.grownBy w1 r) (hr : ∀ g, r = some g → NoWAt w g) : x.ok w1 := ⟨s.1.grownC hg hr, s.2.1.grownC hg hr, s.2.2⟩
theorem RI.grownC {w1 : World} {r : Option Nat} {x : RI} (s : x.ok w) (hg : w.grownBy w1 r) (hr : ∀ g, r = some g → NoWAt w g) : x.ok w1 := ⟨s.1, s.2.1, s.2.2.1, RQ.grownC s.2.2.2 hg hr⟩
end
theorem mem_zeroCells {z : Array Value} {n : Nat} (hz : 0 < z.size) {u : Value} (h : u ∈ (Builtin.zeroCells z n).toList) : u ∈ z.toList := by
  unfold Builtin.zeroCells at h
  simp only [Array.toList_map, List.mem_map] at h
  obtain ⟨i, _, rfl⟩ := h
  have hlt := Nat.mod_lt i hz
  rw [getElem!_pos z (i % z.size) hlt]
  simp
/-- append of one element -/
theorem run_append_C {P : Program} (w : World) {V : Type} {k : Nat} {cells : V → List Value} (B : Nat) (t ty e : TypeId) (i : TypeInfo) (z : Value) (bytes : Nat) (ht : P.underlying t = some (.slice e)) (hi : P.info? e = some i) (hz : i.zero = some z)
    (hsize : i.size = k) (hby : i.bytes = bytes) (hzs : z.cells.size = k) (hsz : 0 < k) (hzw : ∀ u ∈ z.cells.toList, NoW u)
    (v : Value) (xs : List V) (hown : OwnC k cells e B w v xs)
    (a : Addr) (c : Nat) (y : V) (hl : (cells y).length = k) (hnews : ∀ j u, (cells y)[j]? = some u → w.cell? (a.add j) = some u) (h1 : ∀ u ∈ cells y, u.oneCell' = true) (hyw : ∀ u ∈ cells y, NoW u)
    (h63 : xs.length + 1 ≤ maxLen) (hbytes : (xs.length + 1) * bytes ≤ 140737488355328) (hbase : B ≤ w.heap.size) :
    ∃ v' w', (Builtin.append_ #[t, t] ty #[v, .slice (some a) 1 c]).run P w = .ok v' w' ∧ OwnC k cells e B w' v' (xs ++ [y]) ∧ w.grownBy w' v.ownBlock := by
  subst hsize
  subst hby
  have hl' : (cells y).length = 1 * i.size := by omega
  have hsmall : xs.length + 1 ≤ 9223372036854775807 := by simp only [maxLen] at h63; omega
  have hown2 := hown.own
  have hfl := hown2.1
  have hall : ∀ x ∈ xs ++ [y], (cells x).length = i.size := by
    intro x hx
    rcases List.mem_append.1 hx with hx | hx
    · exact hown.1 x hx
    · rw [List.mem_singleton.1 hx]; exact hl
  have hfm : (xs ++ [y]).flatMap cells = xs.flatMap cells ++ cells y := by rw [List.flatMap_append]; simp
  have hlen : (xs.flatMap cells ++ cells y).length = (xs.length + 1) * i.size := by rw [List.length_append, hfl, hl, Nat.add_mul]; omega
  have hxw : ∀ u ∈ xs.flatMap cells, NoW u := by
    rcases hown.2 with ⟨_, rfl⟩ | ⟨g, cap, cur, _, _, _, _, _, _, h6, h7⟩
    · simp
    · intro u hu
      rw [← h6] at hu
      exact h7 u (List.mem_of_mem_take hu)
  have grown : ∀ (old : Nat), old < xs.length + 1 → ∀ (row : Option Nat),
      OwnC i.size cells e B (w.drew.alloc (.cells ((xs.flatMap cells).toArray ++ (cells y).toArray ++ Builtin.zeroCells z.cells (grownCap w (xs.length + 1) old e - (xs.length + 1))) e))
        (.slice (some ⟨w.heap.size, 0, none⟩) (xs.length + 1) (grownCap w (xs.length + 1) old e)) (xs ++ [y]) ∧
      w.grownBy (w.drew.alloc (.cells ((xs.flatMap cells).toArray ++ (cells y).toArray ++ Builtin.zeroCells z.cells (grownCap w (xs.length + 1) old e - (xs.length + 1))) e)) row := by
    intro old ho row
    have hge := grownCap_ge w (xs.length + 1) old e
    have hcm : grownCap w (xs.length + 1) old e ≤ maxLen := grownCap_le_maxLen w (xs.length + 1) old e h63
    refine ⟨⟨hall, .inr ⟨w.heap.size, _, _, by rw [List.length_append]; rfl, hbase, heap_alloc_new w.drew _, by rw [List.length_append]; exact hge, hcm, ?_, ?_, ?_⟩⟩, ⟨rfl, rfl, rfl, by simp, fun k hk _ => _root_.Go.heap_alloc_old w.drew _ hk⟩⟩
    · simp only [Array.size_append, List.size_toArray, size_zeroCells, hzs, hfl, hl, ← Nat.add_mul]
      rw [show xs.length * i.size + i.size = (xs.length + 1) * i.size by rw [Nat.add_mul]; omega, ← Nat.add_mul]
      congr 1
      omega
    · simp only [Array.toList_append, List.append_assoc]
      rw [← List.append_assoc, hfm, show (xs ++ [y]).length = xs.length + 1 by simp, ← hlen]
      exact List.take_left
    · intro u hu
      simp only [Array.toList_append, List.mem_append] at hu
      rcases hu with (hu | hu) | hu
      · exact hxw u hu
      · exact hyw u hu
      · exact hzw u (mem_zeroCells (by omega) hu)
  rcases hown.2 with ⟨rfl, rfl⟩ | ⟨g, cap, cur, rfl, hbg, hg, hnc, hcm, hcs, htake, hcw⟩
  · have hr := run_append_nil (P := P) w t ty e i z ht hi hz a 1 c (cells y) hl' hnews (by omega) (by omega) (by have hb := hbytes; simp only [List.length_nil, Nat.zero_add] at hb; omega)
    have hgr := grown 0 (by simp) (Value.ownBlock (.slice none 0 0))
    simp only [List.length_nil, Nat.zero_add, List.nil_append, List.flatMap_nil, Array.empty_append] at hgr ⊢
    exact ⟨_, _, hr, hgr.1, hgr.2⟩
  · by_cases hroom : xs.length + 1 ≤ cap
    · have hfit : xs.length * i.size + (cells y).length ≤ cur.size := by
        have := Nat.mul_le_mul_right i.size hroom
        rw [Nat.add_mul] at this
        rw [hl, hcs]; omega
      have hr := run_append_room (P := P) w t ty e i ht hi g xs.length cap cur hg a 1 c (cells y) hl' hnews h1 hroom hfit
      refine ⟨_, _, hr, ⟨hall, .inr ⟨g, cap, _, by rw [List.length_append]; rfl, hbg, setRow_heap w g cur _ e _ hg, by rw [List.length_append]; exact hroom, hcm, ?_, ?_, ?_⟩⟩, ⟨rfl, rfl, rfl, by simp, fun k _ hk => setRow_other w g k _ (fun e => hk (by simp [Value.ownBlock, e]))⟩⟩
      · simp only [List.size_toArray, List.length_append, List.length_take, List.length_drop, Array.length_toList]
        omega
      · rw [htake, hfm, show (xs ++ [y]).length = xs.length + 1 by simp, ← hlen]
        exact List.take_left
      · intro u hu
        simp only [List.mem_append] at hu
        rcases hu with (hu | hu) | hu
        · exact hcw u (List.mem_of_mem_take hu)
        · exact hyw u hu
        · exact hcw u (List.mem_of_mem_drop hu)
    · have holds : ∀ j u, (xs.flatMap cells)[j]? = some u → w.cell? ((⟨g, 0, none⟩ : Addr).add j) = some u := hown2.cells (g := g) rfl
      have hr := run_append_grow (P := P) w t ty e i z ht hi hz ⟨g, 0, none⟩ xs.length cap (xs.flatMap cells) hfl holds a 1 c (cells y) hl' hnews (by omega) (by omega) (growslice_fits (by omega) hbytes)
      have hgr := grown cap (by omega) (Value.ownBlock (.slice (some ⟨g, 0, none⟩) xs.length cap))
      exact ⟨_, _, hr, hgr.1, hgr.2⟩
theorem wp_append_C {P : Program} (w : World) {V : Type} {k : Nat} {cells : V → List Value} {o : Oper} {a : Act} {K : Act → World → Prop} {Q : Exit → Act → World → Prop} (s x : Operand) (t : TypeId)
    (ho : o.op = .call { callee := .builtin .append, args := #[s, x], argTypes := #[t, t] })
    (B : Nat) (e : TypeId) (i : TypeInfo) (z : Value) (bytes : Nat) (ht : P.underlying t = some (.slice e)) (hi : P.info? e = some i) (hz : i.zero = some z)
    (hsize : i.size = k) (hby : i.bytes = bytes) (hzs : z.cells.size = k) (hsz : 0 < k) (hzw : ∀ u ∈ z.cells.toList, NoW u)
    (v : Value) (xs : List V) (hs : a.eval s = v) (hown : OwnC k cells e B w v xs)
    (ad : Addr) (c : Nat) (y : V) (hx : a.eval x = .slice (some ad) 1 c) (hl : (cells y).length = k) (hnews : ∀ j u, (cells y)[j]? = some u → w.cell? (ad.add j) = some u) (h1 : ∀ u ∈ cells y, u.oneCell' = true) (hyw : ∀ u ∈ cells y, NoW u)
    (h63 : xs.length + 1 ≤ maxLen) (hbytes : (xs.length + 1) * bytes ≤ 140737488355328) (hbase : B ≤ w.heap.size)
    (h : ∀ v' w', OwnC k cells e B w' v' (xs ++ [y]) → w.grownBy w' v.ownBlock → K (a.put o.dst v') w') : o.wp P a w K Q := by
  obtain ⟨v', w', hr, h2, h3⟩ := run_append_C (P := P) w B t o.type e i z bytes ht hi hz hsize hby hzs hsz hzw v xs hown ad c y hl hnews h1 hyw h63 hbytes hbase
  unfold Oper.wp execOp
  simp only [ho, resolve, invoke, builtin, Sem.run_bind, Sem.run_pure, Result.andThen_ok, List.map_toArray, List.map_cons, List.map_nil, hs, hx, hr]
  exact h v' w' h2 h3
theorem wpList_append_C {P : Program} (w : World) {V : Type} {k : Nat} {cells : V → List Value} {ops : Array Oper} {rest : List Oper} {o : Oper} {a : Act} {Q : Exit → Act → World → Prop} (hgd : o.guard = none) (s x : Operand) (t : TypeId)
    (ho : o.op = .call { callee := .builtin .append, args := #[s, x], argTypes := #[t, t] })
    (B : Nat) (e : TypeId) (i : TypeInfo) (z : Value) (bytes : Nat) (ht : P.underlying t = some (.slice e)) (hi : P.info? e = some i) (hz : i.zero = some z)
    (hsize : i.size = k) (hby : i.bytes = bytes) (hzs : z.cells.size = k) (hsz : 0 < k) (hzw : ∀ u ∈ z.cells.toList, NoW u)
    (v : Value) (xs : List V) (hs : a.eval s = v) (hown : OwnC k cells e B w v xs)
    (ad : Addr) (c : Nat) (y : V) (hx : a.eval x = .slice (some ad) 1 c) (hl : (cells y).length = k) (hnews : ∀ j u, (cells y)[j]? = some u → w.cell? (ad.add j) = some u) (h1 : ∀ u ∈ cells y, u.oneCell' = true) (hyw : ∀ u ∈ cells y, NoW u)
    (h63 : xs.length + 1 ≤ maxLen) (hbytes : (xs.length + 1) * bytes ≤ 140737488355328) (hbase : B ≤ w.heap.size)
    (h : ∀ v' w', OwnC k cells e B w' v' (xs ++ [y]) → w.grownBy w' v.ownBlock → wpList P ops Q rest (a.put o.dst v') w') : wpList P ops Q (o :: rest) a w :=
  wpList_plain hgd fun _ hK => wp_append_C w s x t ho B e i z bytes ht hi hz hsize hby hzs hsz hzw v xs hs hown ad c y hx hl hnews h1 hyw h63 hbytes hbase fun v' w' h2 h3 => hK _ _ (h v' w' h2 h3)

theorem NoW_bool (b : Bool) : NoW (.bool b) := fun x h => by cases h
theorem NoW_slice (A : Option Addr) (n c : Nat) : NoW (.slice A n c) := fun x h => by cases h
theorem NoW_i64 (z : Int) : NoW (.int .i64 z) := fun x h => by injection h with h; cases h
end Go.Proofs.Ythhmofmncjodfaa
