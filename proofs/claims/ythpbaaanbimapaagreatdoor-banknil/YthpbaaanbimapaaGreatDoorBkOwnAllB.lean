/-
  What digit.Show does. Conditions: the slice reads as a list of words, of at most 1000 words.
-/
import Derived.Test.YthpbaaanbimapaaGreatDoorRatMulAllB
import Derived.Test.YthpbaaanbimapaaGreatDoorKnLogAllB
import Derived.Test.YthpbaaanbimapaaGreatDoorLimbDivAllB
import Derived.Test.YthpbaaanbimapaaGreatDoorQuotWordAllB
import Derived.Test.YthpbaaanbimapaaGreatDoorGcdMathAllB
import Derived.Laws.BytesArg
namespace Go.Proofs.YthpbaaanbimapaaGreatDoor
set_option maxRecDepth 100000
open Go.RowKit
set_option linter.unusedVariables false
set_option linter.unusedSimpArgs false

/-- no word, or the word 0 -/
def NZ (u : Value) : Prop := ∀ x : Int, u = .int .u64 x → x = 0
theorem NoW.nz {u : Value} (h : NoW u) : NZ u := fun x e => absurd e (h x)
/-- the words of numbers stay: a block turns only behind its last word that is not 0 -/
def WK (w w' : World) : Prop := w.heap.size ≤ w'.heap.size ∧ ∀ b, b < w.heap.size → ∃ P : Nat → Prop, (∀ i j, j ≤ i → P i → P j) ∧ (∀ i, P i → w'.cell? ⟨b, i, none⟩ = w.cell? ⟨b, i, none⟩) ∧ ∀ i u, ¬ P i → w.cell? ⟨b, i, none⟩ = some u → NZ u
theorem WK.refl (w : World) : WK w w := ⟨Nat.le_refl _, fun _ _ => ⟨fun _ => True, fun _ _ _ h => h, fun _ _ => rfl, fun _ _ h => absurd trivial h⟩⟩
theorem WK.trans {a b c : World} (h : WK a b) (k : WK b c) : WK a c := by
  refine ⟨Nat.le_trans h.1 k.1, fun g hg => ?_⟩
  obtain ⟨P, p1, p2, p3⟩ := h.2 g hg
  obtain ⟨R, q1, q2, q3⟩ := k.2 g (Nat.lt_of_lt_of_le hg h.1)
  refine ⟨fun i => P i ∧ R i, fun i j hj hp => ⟨p1 i j hj hp.1, q1 i j hj hp.2⟩, fun i hp => (q2 i hp.2).trans (p2 i hp.1), fun i u hn hu => ?_⟩
  by_cases hP : P i
  · exact q3 i u (fun hQ => hn ⟨hP, hQ⟩) ((p2 i hP).trans hu)
  · exact p3 i u hP hu
theorem WK.below {w w' : World} (h : Below w.heap.size w w') : WK w w' :=
  ⟨h.size, fun b hb => ⟨fun _ => True, fun _ _ _ h => h, fun i _ => World.cell?_of_block (a := ⟨b, i, none⟩) (h.block b hb), fun _ _ h => absurd trivial h⟩⟩
theorem Sl.wk {w w' : World} {A : Option Addr} {n c : Nat} {xs : List Int} (h : Sl w A n c xs) (hl : n = 0 ∨ xs.getD (n - 1) 0 ≠ 0) (hk : WK w w') : Sl w' A n c xs := by
  refine ⟨h.1, fun h0 => ?_⟩
  obtain ⟨b, off, e, hlt, hc⟩ := h.2 h0
  obtain ⟨P, p1, p2, p3⟩ := hk.2 b hlt
  have hP : P (off + (n - 1)) := by
    by_cases hP : P (off + (n - 1))
    · exact hP
    · have := p3 _ _ hP (hc (n - 1) (by omega)) _ rfl
      rcases hl with hl | hl
      · omega
      · exact absurd this hl
  exact ⟨b, off, e, Nat.lt_of_lt_of_le hlt hk.1, fun j hj => (p2 _ (p1 _ _ (by omega) hP)).trans (hc j hj)⟩
theorem words_last (v : Nat) {n : Nat} (h : n = (words v).length) : n = 0 ∨ (words v).getD (n - 1) 0 ≠ 0 := by
  rcases Nat.eq_zero_or_pos n with h0 | h0
  · exact .inl h0
  · right
    have := sz_last (words v) (by rw [sz_words]; omega)
    rw [sz_words, ← h] at this
    exact this
theorem Q.wk {w w' : World} {s : Bool} {A A' : Option Addr} {n c n' c' : Nat} {X : Rat} (h : Q w s A n c A' n' c' X) (hk : WK w w') : Q w' s A n c A' n' c' X :=
  ⟨h.1, h.2.1.wk (words_last _ h.2.1.len) hk, h.2.2.wk (words_last _ h.2.2.len) hk⟩

/-- only blocks of F have turned -/
structure Only (F : List Nat) (w w' : World) : Prop where
  os : w'.os = w.os
  tape : w'.tape = w.tape
  output : w'.output = w.output
  size : w.heap.size ≤ w'.heap.size
  block : ∀ k, k < w.heap.size → k ∉ F → w'.heap[k]? = w.heap[k]?
theorem Only.refl (F : List Nat) (w : World) : Only F w w := ⟨rfl, rfl, rfl, Nat.le_refl _, fun _ _ _ => rfl⟩
theorem Only.mono {F G : List Nat} {w w' : World} (h : Only F w w') (hs : ∀ g ∈ F, g ∈ G ∨ w.heap.size ≤ g) : Only G w w' :=
  ⟨h.os, h.tape, h.output, h.size, fun k hk hn => h.block k hk (fun hf => (hs k hf).elim hn (fun h9 => absurd hk (by omega)))⟩
theorem Only.trans {F G : List Nat} {a b c : World} (h : Only F a b) (k : Only G b c) (hs : ∀ g ∈ G, g ∈ F ∨ a.heap.size ≤ g) : Only F a c :=
  ⟨k.os.trans h.os, k.tape.trans h.tape, k.output.trans h.output, Nat.le_trans h.size k.size, fun i hi hn => (k.block i (Nat.lt_of_lt_of_le hi h.size) (fun hf => (hs i hf).elim hn (fun h9 => absurd hi (by omega)))).trans (h.block i hi hn)⟩
theorem Only.of_below {w w' : World} (F : List Nat) (h : Below w.heap.size w w') : Only F w w' := ⟨h.os, h.tape, h.output, h.size, fun k hk _ => h.block k hk⟩
theorem Only.below {F : List Nat} {B : Nat} {w w' : World} (h : Only F w w') (hB : B ≤ w.heap.size) (hF : ∀ g ∈ F, B ≤ g) : Below B w w' :=
  ⟨h.os, h.tape, h.output, h.size, fun k hk => h.block k (by omega) (fun hf => by have := hF k hf; omega)⟩
theorem Only.cell {F : List Nat} {w w' : World} (h : Only F w w') {b i : Nat} (hb : b < w.heap.size) (hn : b ∉ F) : w'.cell? ⟨b, i, none⟩ = w.cell? ⟨b, i, none⟩ := World.cell?_of_block (a := ⟨b, i, none⟩) (h.block b hb hn)
theorem Only.box {F : List Nat} {w w' : World} {t : TypeId} {g : Nat} {vs : Array Value} (h : Only F w w') (hb : Box t w g vs) (hn : g ∉ F) : Box t w' g vs := (h.block g hb.lt hn).trans hb

/-- the block in which a slice's row lies -/
def ownL (v : Value) : List Nat := match v.ownBlock with
  | some g => [g]
  | none => []
theorem ownL_nil : ownL (.slice none 0 0) = [] := rfl
theorem ownL_some (g off n c : Nat) : ownL (.slice (some ⟨g, off, none⟩) n c) = [g] := rfl

/-- the slice value v has a block for itself, in which the elements xs lie first; behind them there are no words but 0 -/
def Rw (k : Nat) {V : Type} (cells : V → List Value) (t : TypeId) (w : World) (v : Value) (xs : List V) : Prop :=
  (∀ x ∈ xs, (cells x).length = k) ∧ ((v = .slice none 0 0 ∧ xs = []) ∨
    ∃ g cap cur, v = .slice (some ⟨g, 0, none⟩) xs.length cap ∧ w.heap[g]? = some (.cells cur t (0, 0)) ∧ xs.length ≤ cap ∧ cap ≤ maxLen ∧ cap * k ≤ cur.size ∧
      cur.toList.take (xs.length * k) = xs.flatMap cells ∧ ∀ i u, xs.length * k ≤ i → cur.toList[i]? = some u → NZ u)
section
variable {k : Nat} {V : Type} {cells : V → List Value} {t : TypeId} {w w' : World} {v : Value} {xs : List V}
theorem Rw.nil : Rw k cells t w (.slice none 0 0) [] := ⟨by simp, .inl ⟨rfl, rfl⟩⟩
theorem Rw.form (h : Rw k cells t w v xs) : ∃ A c, v = .slice A xs.length c ∧ xs.length ≤ c ∧ c ≤ maxLen := by
  rcases h with ⟨_, ⟨rfl, rfl⟩ | ⟨g, cap, cur, rfl, _, h1, h2, _⟩⟩
  · exact ⟨none, 0, rfl, Nat.le_refl _, by unfold maxLen; omega⟩
  · exact ⟨_, _, rfl, h1, h2⟩
theorem Rw.lt (h : Rw k cells t w v xs) : ∀ g ∈ ownL v, g < w.heap.size := by
  rcases h with ⟨_, ⟨rfl, rfl⟩ | ⟨g, cap, cur, rfl, h1, _⟩⟩
  · intro g hg; rw [ownL_nil] at hg; cases hg
  · intro g' hg
    rw [ownL_some, List.mem_singleton] at hg
    subst hg
    rcases Nat.lt_or_ge g' w.heap.size with h9 | h9
    · exact h9
    · rw [Array.getElem?_eq_none h9] at h1; cases h1
theorem Rw.only {F : List Nat} (h : Rw k cells t w v xs) (ho : Only F w w') (hd : ∀ g ∈ ownL v, g ∉ F) : Rw k cells t w' v xs := by
  have hlt := h.lt
  refine ⟨h.1, ?_⟩
  rcases h.2 with h2 | ⟨g, cap, cur, hv, hh, r⟩
  · exact .inl h2
  · have hg : g ∈ ownL v := by rw [hv, ownL_some]; simp
    exact .inr ⟨g, cap, cur, hv, (ho.block g (hlt g hg) (hd g hg)).trans hh, r⟩
theorem Rw.below (h : Rw k cells t w v xs) (hb : Below w.heap.size w w') : Rw k cells t w' v xs := h.only (Only.of_below [] hb) (fun g _ => by simp)
theorem Rw.slc {ok : World → V → Prop} {A : Option Addr} {n c : Nat} (h : Rw k cells t w (.slice A n c) xs) (hok : ∀ x ∈ xs, ok w x) : SlC k cells ok w A n c xs := by
  have hlt := h.lt
  rcases h with ⟨hl, ⟨e, rfl⟩ | ⟨g, cap, cur, e, h2, h3, h4, h5, h6, _⟩⟩
  · injection e with e1 e2 e3
    subst e1 e2 e3
    exact ⟨⟨rfl, Nat.le_refl _, by unfold maxLen; omega, by simp⟩, fun h0 => absurd h0 (by omega)⟩
  · injection e with e1 e2 e3
    subst e1 e2 e3
    have hg := hlt g (by rw [ownL_some]; simp)
    refine ⟨⟨rfl, h3, h4, fun x hx => ⟨hok x hx, hl x hx⟩⟩, fun h0 => ⟨g, 0, rfl, hg, fun j hj i hi => ?_⟩⟩
    rw [← flat_at xs hl j i hi, ← h6, cell_of_row w g _ cur t (0, 0) h2, Nat.zero_add, List.getElem?_take, if_pos]
    · simp
    · have : (j + 1) * k ≤ xs.length * k := Nat.mul_le_mul_right _ hj
      rw [Nat.add_mul] at this
      omega
/-- the first n of them, with no room behind: what is cut off -/
theorem Rw.cut {n : Nat} {A : Option Addr} {m c : Nat} (h : Rw k cells t w (.slice A m c) xs) (hn : n ≤ m) (hw : ∀ x ∈ xs, ∀ u ∈ cells x, NoW u) (h0 : 0 < n ∨ A ≠ none) : Rw k cells t w (.slice A n n) (xs.take n) := by
  obtain ⟨hl, h2⟩ := h
  refine ⟨fun x hx => hl x (List.mem_of_mem_take hx), ?_⟩
  rcases h2 with ⟨e, rfl⟩ | ⟨g, cap, cur, e, h2, h3, h4, h5, h6, h7⟩
  · injection e with e1 e2 e3
    subst e1 e2 e3
    rcases h0 with h0 | h0
    · omega
    · exact absurd rfl h0
  · injection e with e1 e2 e3
    subst e1 e2 e3
    have hlen : (xs.take n).length = n := by rw [List.length_take]; omega
    have hk : n * k ≤ xs.length * k := Nat.mul_le_mul_right k hn
    have htk : (xs.take n).flatMap cells = (xs.flatMap cells).take (n * k) := by
      have e1 : xs.flatMap cells = (xs.take n).flatMap cells ++ (xs.drop n).flatMap cells := by rw [← List.flatMap_append, List.take_append_drop]
      have e2 : ((xs.take n).flatMap cells).length = n * k := by rw [flat_len _ (fun x hx => hl x (List.mem_of_mem_take hx)), hlen]
      rw [e1, ← e2, List.take_left]
    refine .inr ⟨g, n, cur, by rw [hlen], h2, by rw [hlen]; exact Nat.le_refl _, by omega, ?_, ?_, ?_⟩
    · have := Nat.mul_le_mul_right k h3
      omega
    · rw [hlen, htk, ← h6, List.take_take, Nat.min_eq_left hk]
    · intro i u hi hu
      rw [hlen] at hi
      rcases Nat.lt_or_ge i (xs.length * k) with h9 | h9
      · have : (xs.flatMap cells)[i]? = some u := by rw [← h6, List.getElem?_take, if_pos h9]; exact hu
        obtain ⟨x, hx, hux⟩ := List.mem_flatMap.1 (List.mem_of_getElem? this)
        exact (hw x hx u hux).nz
      · exact h7 i u h9 hu
end
theorem wk_setRow {w : World} {g : Nat} {cur : Array Value} {t : TypeId} (hg : w.heap[g]? = some (.cells cur t (0, 0))) (cs : Array Value) (m : Nat) (hsame : ∀ i, i < m → cs[i]? = cur[i]?) (hz : ∀ i u, m ≤ i → cur[i]? = some u → NZ u) : WK w (w.setRow g cs) := by
  refine ⟨by simp, fun b hb => ?_⟩
  by_cases e : b = g
  · subst e
    refine ⟨fun i => i < m, fun i j hj hi => by omega, fun i hi => ?_, fun i u hn hu => ?_⟩
    · rw [cell_of_row w b i cur t (0, 0) hg, cell_of_row _ b i cs t (0, 0) (setRow_heap w b cur cs t _ hg), hsame i hi]
    · rw [cell_of_row w b i cur t (0, 0) hg] at hu
      exact hz i u (by omega) hu
  · exact ⟨fun _ => True, fun _ _ _ h => h, fun i _ => World.cell?_of_block (a := ⟨b, i, none⟩) (setRow_other w g b _ e), fun _ _ h => absurd trivial h⟩
/-- append of one element -/
theorem run_append_R {P : Program} (w : World) {V : Type} {k : Nat} {cells : V → List Value} (t ty e : TypeId) (i : TypeInfo) (z : Value) (bytes : Nat) (ht : P.underlying t = some (.slice e)) (hi : P.info? e = some i) (hz : i.zero = some z)
    (hsize : i.size = k) (hby : i.bytes = bytes) (hzs : z.cells.size = k) (hsz : 0 < k) (hzw : ∀ u ∈ z.cells.toList, NZ u)
    (v : Value) (xs : List V) (hown : Rw k cells e w v xs)
    (a : Addr) (c : Nat) (y : V) (hl : (cells y).length = k) (hnews : ∀ j u, (cells y)[j]? = some u → w.cell? (a.add j) = some u) (h1 : ∀ u ∈ cells y, u.oneCell' = true)
    (h63 : xs.length + 1 ≤ maxLen) (hbytes : (xs.length + 1) * bytes ≤ 140737488355328) :
    ∃ v' w', (Builtin.append_ #[t, t] ty #[v, .slice (some a) 1 c]).run P w = .ok v' w' ∧ Rw k cells e w' v' (xs ++ [y]) ∧ Only (ownL v) w w' ∧ WK w w' ∧ ∀ g ∈ ownL v', g ∈ ownL v ∨ w.heap.size ≤ g := by
  subst hsize
  subst hby
  have hl' : (cells y).length = 1 * i.size := by omega
  have hsmall : xs.length + 1 ≤ 9223372036854775807 := by simp only [maxLen] at h63; omega
  have hfl : (xs.flatMap cells).length = xs.length * i.size := flat_len xs hown.1
  have hall : ∀ x ∈ xs ++ [y], (cells x).length = i.size := by
    intro x hx
    rcases List.mem_append.1 hx with hx | hx
    · exact hown.1 x hx
    · rw [List.mem_singleton.1 hx]; exact hl
  have hfm : (xs ++ [y]).flatMap cells = xs.flatMap cells ++ cells y := by rw [List.flatMap_append]; simp
  have hlen : (xs.flatMap cells ++ cells y).length = (xs.length + 1) * i.size := by rw [List.length_append, hfl, hl, Nat.add_mul]; omega
  have grown : ∀ (old : Nat), old < xs.length + 1 → ∀ (F : List Nat),
      Rw i.size cells e (w.drew.alloc (.cells ((xs.flatMap cells).toArray ++ (cells y).toArray ++ Builtin.zeroCells z.cells (grownCap w (xs.length + 1) old e - (xs.length + 1))) e))
        (.slice (some ⟨w.heap.size, 0, none⟩) (xs.length + 1) (grownCap w (xs.length + 1) old e)) (xs ++ [y]) ∧
      Only F w (w.drew.alloc (.cells ((xs.flatMap cells).toArray ++ (cells y).toArray ++ Builtin.zeroCells z.cells (grownCap w (xs.length + 1) old e - (xs.length + 1))) e)) ∧
      WK w (w.drew.alloc (.cells ((xs.flatMap cells).toArray ++ (cells y).toArray ++ Builtin.zeroCells z.cells (grownCap w (xs.length + 1) old e - (xs.length + 1))) e)) := by
    intro old ho F
    have hge := grownCap_ge w (xs.length + 1) old e
    have hcm : grownCap w (xs.length + 1) old e ≤ maxLen := grownCap_le_maxLen w (xs.length + 1) old e h63
    have hbl : Below w.heap.size w (w.drew.alloc (.cells ((xs.flatMap cells).toArray ++ (cells y).toArray ++ Builtin.zeroCells z.cells (grownCap w (xs.length + 1) old e - (xs.length + 1))) e)) := (Below.refl _ w).drew.alloc (Nat.le_refl _) _
    refine ⟨⟨hall, .inr ⟨w.heap.size, _, _, by rw [List.length_append]; rfl, heap_alloc_new w.drew _, by rw [List.length_append]; exact hge, hcm, ?_, ?_, ?_⟩⟩, Only.of_below F hbl, WK.below hbl⟩
    · simp only [Array.size_append, List.size_toArray, size_zeroCells, hzs, hfl, hl, ← Nat.add_mul]
      rw [show xs.length * i.size + i.size = (xs.length + 1) * i.size by rw [Nat.add_mul]; omega, ← Nat.add_mul]
      exact Nat.mul_le_mul_right _ (by omega)
    · simp only [Array.toList_append, List.append_assoc]
      rw [← List.append_assoc, hfm, show (xs ++ [y]).length = xs.length + 1 by simp, ← hlen]
      exact List.take_left
    · intro j u hj hu
      simp only [Array.toList_append] at hu
      rw [show (xs ++ [y]).length = xs.length + 1 by simp, ← hlen] at hj
      rw [List.getElem?_append_right hj] at hu
      exact hzw u (mem_zeroCells (by omega) (List.mem_of_getElem? hu))
  rcases hown.2 with ⟨rfl, rfl⟩ | ⟨g, cap, cur, rfl, hg, hnc, hcm, hcs, htake, hcw⟩
  · have hr := run_append_nil (P := P) w t ty e i z ht hi hz a 1 c (cells y) hl' hnews (by omega) (by omega) (by have hb := hbytes; simp only [List.length_nil, Nat.zero_add] at hb; omega)
    have hgr := grown 0 (by simp) (ownL (.slice none 0 0))
    simp only [List.length_nil, Nat.zero_add, List.nil_append, List.flatMap_nil, Array.empty_append] at hgr ⊢
    exact ⟨_, _, hr, hgr.1, hgr.2.1, hgr.2.2, fun g hg => .inr (by rw [ownL_some, List.mem_singleton] at hg; omega)⟩
  · by_cases hroom : xs.length + 1 ≤ cap
    · have hfit : xs.length * i.size + (cells y).length ≤ cur.size := by
        have := Nat.mul_le_mul_right i.size hroom
        rw [Nat.add_mul] at this
        rw [hl]; omega
      have hr := run_append_room (P := P) w t ty e i ht hi g xs.length cap cur hg a 1 c (cells y) hl' hnews h1 hroom hfit
      refine ⟨_, _, hr, ⟨hall, .inr ⟨g, cap, _, by rw [List.length_append]; rfl, setRow_heap w g cur _ e _ hg, by rw [List.length_append]; exact hroom, hcm, ?_, ?_, ?_⟩⟩, ⟨rfl, rfl, rfl, by simp, fun k _ hk => setRow_other w g k _ (fun e => hk (by rw [ownL_some, e]; simp))⟩, ?_, fun g' hg' => .inl hg'⟩
      · simp only [List.size_toArray, List.length_append, List.length_take, List.length_drop, Array.length_toList]
        omega
      · rw [htake, hfm, show (xs ++ [y]).length = xs.length + 1 by simp, ← hlen]
        exact List.take_left
      · intro j u hj hu
        rw [show (xs ++ [y]).length = xs.length + 1 by simp, ← hlen, ← htake] at hj
        simp only at hu
        rw [List.getElem?_append_right hj, List.getElem?_drop] at hu
        refine hcw _ u ?_ hu
        omega
      · refine wk_setRow hg _ (xs.length * i.size) (fun j hj => ?_) (fun j u hj hu => hcw j u hj (by simpa using hu))
        rw [List.append_assoc]
        have hj2 : j < (cur.toList.take (xs.length * i.size)).length := by rw [htake, hfl]; exact hj
        simp only [List.getElem?_toArray]
        rw [List.getElem?_append_left hj2, List.getElem?_take, if_pos hj]
        simp
    · have holds : ∀ j u, (xs.flatMap cells)[j]? = some u → w.cell? ((⟨g, 0, none⟩ : Addr).add j) = some u := by
        intro j u hu
        have e1 : (⟨g, 0, none⟩ : Addr).add j = ⟨g, j, none⟩ := by
          unfold Addr.add; split
          · rename_i h9; rw [h9]
          · rw [Nat.zero_add]
        rw [e1, cell_of_row w g j cur e (0, 0) hg]
        rw [← htake, List.getElem?_take] at hu
        split at hu
        · simpa using hu
        · cases hu
      have hr := run_append_grow (P := P) w t ty e i z ht hi hz ⟨g, 0, none⟩ xs.length cap (xs.flatMap cells) hfl holds a 1 c (cells y) hl' hnews (by omega) (by omega) (growslice_fits (by omega) hbytes)
      have hgr := grown cap (by omega) (ownL (.slice (some ⟨g, 0, none⟩) xs.length cap))
      exact ⟨_, _, hr, hgr.1, hgr.2.1, hgr.2.2, fun g' hg' => .inr (by rw [ownL_some, List.mem_singleton] at hg'; omega)⟩
theorem wp_append_R {P : Program} (w : World) {V : Type} {k : Nat} {cells : V → List Value} {o : Oper} {a : Act} {K : Act → World → Prop} {Q : Exit → Act → World → Prop} (s x : Operand) (t : TypeId)
    (ho : o.op = .call { callee := .builtin .append, args := #[s, x], argTypes := #[t, t] })
    (e : TypeId) (i : TypeInfo) (z : Value) (bytes : Nat) (ht : P.underlying t = some (.slice e)) (hi : P.info? e = some i) (hz : i.zero = some z)
    (hsize : i.size = k) (hby : i.bytes = bytes) (hzs : z.cells.size = k) (hsz : 0 < k) (hzw : ∀ u ∈ z.cells.toList, NZ u)
    (v : Value) (xs : List V) (hs : a.eval s = v) (hown : Rw k cells e w v xs)
    (ad : Addr) (c : Nat) (y : V) (hx : a.eval x = .slice (some ad) 1 c) (hl : (cells y).length = k) (hnews : ∀ j u, (cells y)[j]? = some u → w.cell? (ad.add j) = some u) (h1 : ∀ u ∈ cells y, u.oneCell' = true)
    (h63 : xs.length + 1 ≤ maxLen) (hbytes : (xs.length + 1) * bytes ≤ 140737488355328)
    (h : ∀ v' w', Rw k cells e w' v' (xs ++ [y]) → Only (ownL v) w w' → WK w w' → (∀ g ∈ ownL v', g ∈ ownL v ∨ w.heap.size ≤ g) → K (a.put o.dst v') w') : o.wp P a w K Q := by
  obtain ⟨v', w', hr, h2, h3, h4, h5⟩ := run_append_R (P := P) w t o.type e i z bytes ht hi hz hsize hby hzs hsz hzw v xs hown ad c y hl hnews h1 h63 hbytes
  unfold Oper.wp execOp
  simp only [ho, resolve, invoke, builtin, Sem.run_bind, Sem.run_pure, Result.andThen_ok, List.map_toArray, List.map_cons, List.map_nil, hs, hx, hr]
  exact h v' w' h2 h3 h4 h5
end Go.Proofs.YthpbaaanbimapaaGreatDoor

namespace Go.Proofs.YthpbaaanbimapaaGreatDoor
set_option maxRecDepth 100000
open Go.RowKit
set_option linter.unusedVariables false
set_option linter.unusedSimpArgs false

def bcell (x : Bool) : List Value := [.bool x]
/-- words that end in one that is not 0 stay where words stay -/
def Tight (n : Nat) (z : List Int) : Prop := n = 0 ∨ z.getD (n - 1) 0 ≠ 0
def RI.tight (w : World) (p : RI) : Prop := p.ok w ∧ Tight p.q.n p.q.z ∧ Tight p.q.n' p.q.z'
theorem RI.tight_wk {w w' : World} {p : RI} (h : p.tight w) (hk : WK w w') : p.tight w' := ⟨⟨h.1.1, h.1.2.1, h.1.2.2.1, h.1.2.2.2.1.wk h.2.1 hk, h.1.2.2.2.2.1.wk h.2.2 hk, h.1.2.2.2.2.2⟩, h.2⟩
/-- the cells of a bank -/
def bkCells (b : PB) (va vp vm : Value) : Array Value := #[.int .i64 b.mode, va, vp, vm, .int .i64 b.prog.length, .int .i64 b.used, .int .i64 b.met.length, .int .i64 b.ops, .int .i64 b.ins, .bool b.tie, .int .i64 b.err]
/-- the bank b lies in block g; its blocks are those of F -/
structure BkAt (w : World) (F : List Nat) (g : Nat) (b : PB) (va vp vm : Value) (ps : List RI) : Prop where
  box : Box 77 w g (bkCells b va vp vm)
  ra : Rw 1 bcell 4 w va b.asks
  rp : Rw 6 RI.cells 80 w vp ps
  rm : Rw 1 bcell 4 w vm b.met
  pi : ps.map RI.pi = b.prog
  ok : ∀ p ∈ ps, p.tight w
  own : ∀ x, x ∈ F ↔ x = g ∨ x ∈ ownL va ∨ x ∈ ownL vp ∨ x ∈ ownL vm
  d1 : g ∉ ownL va ∧ g ∉ ownL vp ∧ g ∉ ownL vm
  d2 : (∀ x ∈ ownL va, x ∉ ownL vp ∧ x ∉ ownL vm) ∧ ∀ x ∈ ownL vp, x ∉ ownL vm
  pl : b.prog.length ≤ 65536
  ml : b.met.length ≤ 65536
  ul : b.used ≤ b.asks.length
def Bk (w : World) (F : List Nat) (g : Nat) (b : PB) : Prop := ∃ va vp vm ps, BkAt w F g b va vp vm ps
section
variable {w w' : World} {F G : List Nat} {g : Nat} {b : PB} {va vp vm : Value} {ps : List RI}
theorem BkAt.lt (h : BkAt w F g b va vp vm ps) : ∀ x ∈ F, x < w.heap.size := by
  intro x hx
  rcases (h.own x).1 hx with rfl | hx | hx | hx
  · exact h.box.lt
  · exact h.ra.lt x hx
  · exact h.rp.lt x hx
  · exact h.rm.lt x hx
/-- a bank stays where nothing of it turns -/
theorem BkAt.only (h : BkAt w F g b va vp vm ps) (ho : Only G w w') (hk : WK w w') (hd : ∀ x ∈ F, x ∉ G) : BkAt w' F g b va vp vm ps where
  box := ho.box h.box (hd g ((h.own g).2 (.inl rfl)))
  ra := h.ra.only ho (fun x hx => hd x ((h.own x).2 (.inr (.inl hx))))
  rp := h.rp.only ho (fun x hx => hd x ((h.own x).2 (.inr (.inr (.inl hx)))))
  rm := h.rm.only ho (fun x hx => hd x ((h.own x).2 (.inr (.inr (.inr hx)))))
  pi := h.pi
  ok := fun p hp => RI.tight_wk (h.ok p hp) hk
  own := h.own
  d1 := h.d1
  d2 := h.d2
  pl := h.pl
  ml := h.ml
  ul := h.ul
theorem Bk.only (h : Bk w F g b) (ho : Only G w w') (hk : WK w w') (hd : ∀ x ∈ F, x ∉ G) : Bk w' F g b := by
  obtain ⟨va, vp, vm, ps, h⟩ := h
  exact ⟨va, vp, vm, ps, h.only ho hk hd⟩
theorem BkAt.below (h : BkAt w F g b va vp vm ps) (hb : Below w.heap.size w w') : BkAt w' F g b va vp vm ps := h.only (Only.of_below [] hb) (WK.below hb) (fun x _ => by simp)
theorem Bk.below (h : Bk w F g b) (hb : Below w.heap.size w w') : Bk w' F g b := h.only (Only.of_below [] hb) (WK.below hb) (fun x _ => by simp)
theorem BkAt.cells (h : BkAt w F g b va vp vm ps) : w.cell? ⟨g, 0, none⟩ = some (.int .i64 b.mode) ∧ w.cell? ⟨g, 1, none⟩ = some va ∧ w.cell? ⟨g, 2, none⟩ = some vp ∧ w.cell? ⟨g, 3, none⟩ = some vm ∧ w.cell? ⟨g, 4, none⟩ = some (.int .i64 b.prog.length) ∧ w.cell? ⟨g, 5, none⟩ = some (.int .i64 b.used) ∧ w.cell? ⟨g, 6, none⟩ = some (.int .i64 b.met.length) ∧ w.cell? ⟨g, 7, none⟩ = some (.int .i64 b.ops) ∧ w.cell? ⟨g, 8, none⟩ = some (.int .i64 b.ins) ∧ w.cell? ⟨g, 9, none⟩ = some (.bool b.tie) ∧ w.cell? ⟨g, 10, none⟩ = some (.int .i64 b.err) :=
  ⟨h.box.cell 0, h.box.cell 1, h.box.cell 2, h.box.cell 3, h.box.cell 4, h.box.cell 5, h.box.cell 6, h.box.cell 7, h.box.cell 8, h.box.cell 9, h.box.cell 10⟩
end

theorem bk_err_nil (w : World) : Calls Tryz.prog 14 #[.pointer none] w (fun e w' => e = .returned (.int .i64 21) ∧ w = w') := by
  go_enter Tryz.func14, Tryz.ntmps14
  go_wp2_with fail
  go_ret
  exact ⟨rfl, rfl⟩
theorem bk_err {w : World} {F : List Nat} {g : Nat} {b : PB} (h : Bk w F g b) : Calls Tryz.prog 14 #[.pointer (some ⟨g, 0, none⟩)] w (fun e w' => e = .returned (.int .i64 b.err) ∧ w = w') := by
  obtain ⟨va, vp, vm, ps, h⟩ := h
  obtain ⟨k0, k1, k2, k3, k4, k5, k6, k7, k8, k9, k10⟩ := h.cells
  clear h
  go_enter Tryz.func14, Tryz.ntmps14
  go_wp2_with fail
  go_ret
  exact ⟨rfl, rfl⟩
theorem bk_mode_nil (w : World) : Calls Tryz.prog 19 #[.pointer none] w (fun e w' => e = .returned (.int .i64 0) ∧ w = w') := by
  go_enter Tryz.func19, Tryz.ntmps19
  go_wp2_with fail
  go_ret
  exact ⟨rfl, rfl⟩
/-- what a call of a bank's method leaves: the bank, now b', its blocks; words stay; only its blocks have turned -/
def BkStep (w : World) (F : List Nat) (g : Nat) (b' : PB) (w' : World) : Prop := ∃ F', Bk w' F' g b' ∧ Only F w w' ∧ WK w w' ∧ ∀ x ∈ F', x ∈ F ∨ w.heap.size ≤ x
theorem BkStep.refl {w : World} {F : List Nat} {g : Nat} {b : PB} (h : Bk w F g b) : BkStep w F g b w := ⟨F, h, Only.refl F w, WK.refl w, fun x hx => .inl hx⟩
theorem BkStep.below {w w' w2 : World} {F : List Nat} {g : Nat} {b : PB} (h : BkStep w F g b w') (hb : Below w'.heap.size w' w2) : BkStep w F g b w2 := by
  obtain ⟨F', h1, h2, h3, h4⟩ := h
  exact ⟨F', h1.below hb, h2.trans (Only.of_below [] hb) (fun x hx => by simp at hx), h3.trans (WK.below hb), h4⟩
/-- one cell of the bank that is no word is stored into -/
theorem wk_set {w : World} {t : TypeId} {g i : Nat} {vs : Array Value} (h : Box t w g vs) (hn : ∀ u, u ∈ vs.toList → NoW u) (v : Value) : WK w (w.setCell ⟨g, i, none⟩ v) := by
  have hk := (Keep.refl g w).setCell i v
  refine ⟨hk.size, fun k hk2 => ?_⟩
  by_cases e : k = g
  · subst e
    refine ⟨fun _ => False, fun _ _ _ h => h, fun _ h => h.elim, fun i2 u _ hu => ?_⟩
    rw [h.cell] at hu
    exact (hn u (by rw [Array.mem_toList_iff]; exact Array.mem_of_getElem? hu)).nz
  · exact ⟨fun _ => True, fun _ _ _ h => h, fun i2 _ => World.cell?_of_block (a := ⟨k, i2, none⟩) (hk.block k hk2 e), fun _ _ h => absurd trivial h⟩
theorem only_set {w : World} {F : List Nat} {g i : Nat} (hg : g ∈ F) (v : Value) : Only F w (w.setCell ⟨g, i, none⟩ v) := by
  have hk := (Keep.refl g w).setCell i v
  exact ⟨hk.os, hk.tape, hk.output, hk.size, fun k h1 h2 => hk.block k h1 (fun e => h2 (e ▸ hg))⟩
theorem box_setI {t : TypeId} {w : World} {g : Nat} {vs : Array Value} (h : Box t w g vs) (i : Nat) (v : Value) : Box t (w.setCell ⟨g, i, none⟩ v) g (vs.setIfInBounds i v) := by
  unfold Box at h ⊢
  simp [World.setCell, Array.getElem?_modify, h]
theorem ownL_noW (v : Value) {k : Nat} {V : Type} {cells : V → List Value} {t : TypeId} {w : World} {xs : List V} (h : Rw k cells t w v xs) : NoW v := by
  obtain ⟨A, c, rfl, _⟩ := h.form
  exact NoW_slice _ _ _
theorem bkCells_noW {b : PB} {va vp vm : Value} (h1 : NoW va) (h2 : NoW vp) (h3 : NoW vm) : ∀ u, u ∈ (bkCells b va vp vm).toList → NoW u := by
  intro u hu
  unfold bkCells at hu
  simp only [List.mem_cons, List.not_mem_nil, or_false] at hu
  rcases hu with rfl | rfl | rfl | rfl | rfl | rfl | rfl | rfl | rfl | rfl | rfl
  · exact NoW_i64 _
  · exact h1
  · exact h2
  · exact h3
  · exact NoW_i64 _
  · exact NoW_i64 _
  · exact NoW_i64 _
  · exact NoW_i64 _
  · exact NoW_i64 _
  · exact NoW_bool _
  · exact NoW_i64 _
/-- the rows and the blocks stay where a cell of the bank is stored into that holds no row -/
theorem BkAt.set {w : World} {F : List Nat} {g i : Nat} {b b' : PB} {va vp vm : Value} {ps : List RI} (h : BkAt w F g b va vp vm ps) (v : Value) (hc : (bkCells b va vp vm).setIfInBounds i v = bkCells b' va vp vm) (hp : b'.prog = b.prog) (hm : b'.met = b.met) (ha : b'.asks = b.asks) (hu : b'.used ≤ b.asks.length) :
    BkAt (w.setCell ⟨g, i, none⟩ v) F g b' va vp vm ps ∧ Only F w (w.setCell ⟨g, i, none⟩ v) ∧ WK w (w.setCell ⟨g, i, none⟩ v) := by
  have hg : g ∈ F := (h.own g).2 (.inl rfl)
  have ho : Only [g] w (w.setCell ⟨g, i, none⟩ v) := only_set (by simp) v
  have hk := wk_set (i := i) h.box (bkCells_noW (ownL_noW _ h.ra) (ownL_noW _ h.rp) (ownL_noW _ h.rm)) v
  have ne : ∀ {L : List Nat}, g ∉ L → ∀ x ∈ L, x ∉ [g] := fun hL x hx hy => by rw [List.mem_singleton] at hy; exact hL (hy ▸ hx)
  refine ⟨⟨hc ▸ box_setI h.box i v, ha ▸ h.ra.only ho (ne h.d1.1), h.rp.only ho (ne h.d1.2.1), hm ▸ h.rm.only ho (ne h.d1.2.2), hp ▸ h.pi, fun p hp2 => RI.tight_wk (h.ok p hp2) hk, h.own, h.d1, h.d2, hp ▸ h.pl, hm ▸ h.ml, ha ▸ hu⟩, only_set hg v, hk⟩

end Go.Proofs.YthpbaaanbimapaaGreatDoor

namespace Go.Proofs.YthpbaaanbimapaaGreatDoor
set_option maxRecDepth 100000
open Go.RowKit
set_option linter.unusedVariables false
set_option linter.unusedSimpArgs false

theorem bk_fail_nil (w : World) (e : Int) : Calls Tryz.prog 22 #[.pointer none, .int .i64 e] w (fun r w' => r = .returned (.tuple #[]) ∧ w = w') := by
  have E := bk_err_nil w
  go_enter Tryz.func22, Tryz.ntmps22
  go_wp2_with fail
  refine E.mono ?_
  rintro _ _ ⟨rfl, rfl⟩
  go_wp2_with fail
  go_end0
  exact ⟨rfl, rfl⟩
def PB.fail (b : PB) (e : Int) : PB := if b.err = 0 then { b with err := e } else b
/-- a mark, as it lies -/
def mkCells (i a m o n : Int) (t : Bool) (e : Int) : Array Value := #[.int .i64 i, .int .i64 a, .int .i64 m, .int .i64 o, .int .i64 n, .bool t, .int .i64 e]
def PB.mark (b : PB) : Array Value := mkCells b.prog.length b.used b.met.length b.ops b.ins b.tie b.err
theorem Box.seven {t : TypeId} {w : World} {g : Nat} {v0 v1 v2 v3 v4 v5 v6 : Value} (h : Box t w g #[v0, v1, v2, v3, v4, v5, v6]) :
    (w.cell? ⟨g, 0, none⟩ = some v0 ∧ w.cell? ⟨g, 1, none⟩ = some v1 ∧ w.cell? ⟨g, 2, none⟩ = some v2 ∧ w.cell? ⟨g, 3, none⟩ = some v3 ∧ w.cell? ⟨g, 4, none⟩ = some v4 ∧ w.cell? ⟨g, 5, none⟩ = some v5 ∧ w.cell? ⟨g, 6, none⟩ = some v6) ∧
    (w.frozen? ⟨g, 0, none⟩ = false ∧ w.frozen? ⟨g, 1, none⟩ = false ∧ w.frozen? ⟨g, 2, none⟩ = false ∧ w.frozen? ⟨g, 3, none⟩ = false ∧ w.frozen? ⟨g, 4, none⟩ = false ∧ w.frozen? ⟨g, 5, none⟩ = false ∧ w.frozen? ⟨g, 6, none⟩ = false) :=
  ⟨⟨h.cell 0, h.cell 1, h.cell 2, h.cell 3, h.cell 4, h.cell 5, h.cell 6⟩, h.free 0, h.free 1, h.free 2, h.free 3, h.free 4, h.free 5, h.free 6⟩
theorem below_set {B g i : Nat} {a w : World} (h : Below B a w) (hg : B ≤ g) (hB : B ≤ a.heap.size) (x : Value) : Below B a (w.setCell ⟨g, i, none⟩ x) := Below.keep h ((Keep.refl g w).setCell i x) hg hB
theorem bk_mark_nil (w : World) : Calls Tryz.prog 34 #[.pointer none] w (fun r w' => r = .returned (.agg (mkCells 0 0 0 0 0 false 0)) ∧ Below w.heap.size w w') := by
  obtain ⟨V, hW, Bx, hb⟩ := box0 63 w (mkCells 0 0 0 0 0 false 0)
  unfold mkCells at hW Bx ⊢
  obtain ⟨⟨k0, k1, k2, k3, k4, k5, k6⟩, f0, f1, f2, f3, f4, f5, f6⟩ := Bx.seven
  have HW := Lib.hid hW
  clear hW Bx
  go_enter Tryz.func34, Tryz.ntmps34
  go_wp2_with fail
  rw [HW.out]
  refine bodyPost_ret (v := .agg #[.int .i64 0, .int .i64 0, .int .i64 0, .int .i64 0, .int .i64 0, .bool false, .int .i64 0]) (by simp [results, Tryz.results34, go_sem, k0, k1, k2, k3, k4, k5, k6]) rfl ?_
  exact ⟨rfl, hb⟩
theorem bk_mark {w : World} {F : List Nat} {g : Nat} {b : PB} (h : Bk w F g b) : Calls Tryz.prog 34 #[.pointer (some ⟨g, 0, none⟩)] w (fun r w' => r = .returned (.agg b.mark) ∧ Below w.heap.size w w') := by
  obtain ⟨va, vp, vm, ps, h⟩ := h
  obtain ⟨V, hW, Bx, hb⟩ := box0 63 w (mkCells 0 0 0 0 0 false 0)
  obtain ⟨j0, j1, j2, j3, j4, j5, j6, j7, j8, j9, j10⟩ := (h.below hb).cells
  unfold mkCells at hW Bx
  unfold PB.mark mkCells
  obtain ⟨⟨k0, k1, k2, k3, k4, k5, k6⟩, f0, f1, f2, f3, f4, f5, f6⟩ := Bx.seven
  have HW := Lib.hid hW
  clear hW Bx h
  go_enter Tryz.func34, Tryz.ntmps34
  go_upto_region 3 with (fail)
  rw [HW.out]
  go_wp2_with fail
  refine bodyPost_ret (v := .agg #[.int .i64 b.prog.length, .int .i64 b.used, .int .i64 b.met.length, .int .i64 b.ops, .int .i64 b.ins, .bool b.tie, .int .i64 b.err]) (by simp [results, Tryz.results34, go_sem, k0, k1, k2, k3, k4, k5, k6]) rfl ?_
  refine ⟨rfl, ?_⟩
  repeat' refine below_set ?_ (Nat.le_refl _) (Nat.le_refl _) _
  exact hb

end Go.Proofs.YthpbaaanbimapaaGreatDoor

namespace Go.Proofs.YthpbaaanbimapaaGreatDoor
set_option maxRecDepth 100000
open Go.RowKit
set_option linter.unusedVariables false
set_option linter.unusedSimpArgs false

section
attribute [local go_sem] Instr.field part asAgg isAgg sizeOf
theorem bk_ops {w : World} {F : List Nat} {g : Nat} {b : PB} (h : Bk w F g b) : Calls Tryz.prog 15 #[.pointer (some ⟨g, 0, none⟩)] w (RetI b.ops w) := by
  have M := bk_mark h
  unfold PB.mark mkCells at M
  clear h
  go_enter Tryz.func15, Tryz.ntmps15
  go_wp2_with fail
  refine M.mono ?_
  rintro _ w1 ⟨rfl, b1⟩
  go_wp2_with fail
  go_ret
  exact ⟨rfl, b1⟩
theorem bk_ops_nil (w : World) : Calls Tryz.prog 15 #[.pointer none] w (RetI 0 w) := by
  have M := bk_mark_nil w
  unfold mkCells at M
  go_enter Tryz.func15, Tryz.ntmps15
  go_wp2_with fail
  refine M.mono ?_
  rintro _ w1 ⟨rfl, b1⟩
  go_wp2_with fail
  go_ret
  exact ⟨rfl, b1⟩
theorem bk_tie_nil (w : World) : Calls Tryz.prog 16 #[.pointer none] w (RetBl false w) := by
  have M := bk_mark_nil w
  unfold mkCells at M
  go_enter Tryz.func16, Tryz.ntmps16
  go_wp2_with fail
  refine M.mono ?_
  rintro _ w1 ⟨rfl, b1⟩
  go_wp2_with fail
  go_ret
  exact ⟨rfl, b1⟩
end

/-- a scalar as it lies -/
structure SV where
  s : Bool
  A : Option Addr
  n : Nat
  c : Nat
  D : Option Addr
  m : Nat
  d : Nat
  u : Int
  f : Int
def SV.agg (x : SV) : Array Value := #[.bool x.s, .slice x.A x.n x.c, .slice x.D x.m x.d, .int .u64 x.u, .int .i64 x.f]
def SV.zero : SV := ⟨false, none, 0, 0, none, 0, 0, 0, 0⟩
/-- it reads as p -/
def SV.is (w : World) (x : SV) (p : PV) : Prop := x.u = p.w ∧ x.f = p.f ∧ match p.r with
  | none => x.s = false ∧ x.A = none ∧ x.n = 0 ∧ x.c = 0 ∧ x.D = none ∧ x.m = 0 ∧ x.d = 0
  | some X => Q w x.s x.A x.n x.c x.D x.m x.d X
theorem SV.is_wk {w w' : World} {x : SV} {p : PV} (h : x.is w p) (hk : WK w w') : x.is w' p := by
  refine ⟨h.1, h.2.1, ?_⟩
  have h3 := h.2.2
  cases hp : p.r with
  | none => rw [hp] at h3; exact h3
  | some X => rw [hp] at h3; exact Q.wk h3 hk
theorem Box.five {t : TypeId} {w : World} {g : Nat} {v0 v1 v2 v3 v4 : Value} (h : Box t w g #[v0, v1, v2, v3, v4]) :
    (w.cell? ⟨g, 0, none⟩ = some v0 ∧ w.cell? ⟨g, 1, none⟩ = some v1 ∧ w.cell? ⟨g, 2, none⟩ = some v2 ∧ w.cell? ⟨g, 3, none⟩ = some v3 ∧ w.cell? ⟨g, 4, none⟩ = some v4) ∧
    (w.frozen? ⟨g, 0, none⟩ = false ∧ w.frozen? ⟨g, 1, none⟩ = false ∧ w.frozen? ⟨g, 2, none⟩ = false ∧ w.frozen? ⟨g, 3, none⟩ = false ∧ w.frozen? ⟨g, 4, none⟩ = false) :=
  ⟨⟨h.cell 0, h.cell 1, h.cell 2, h.cell 3, h.cell 4⟩, h.free 0, h.free 1, h.free 2, h.free 3, h.free 4⟩
/-- a box of a scalar holds no word, but its bits -/
theorem boxesV (t1 t2 : TypeId) (w : World) (vs us : Array Value) : ∃ W, (w.alloc (.cells vs t1)).alloc (.cells us t2) = W ∧ Box t1 W w.heap.size vs ∧ Box t2 W (w.heap.size + 1) us ∧ Below w.heap.size w W ∧ W.heap.size = w.heap.size + 1 + 1 := by
  refine ⟨_, rfl, (Box.new w t1 vs).alloc _, ?_, (below_alloc _ _).alloc (by simp) _, by simp⟩
  have := Box.new (w.alloc (.cells vs t1)) t2 us
  rw [show (w.alloc (.cells vs t1)).heap.size = w.heap.size + 1 from by simp] at this
  exact this
def put5 (w : World) (g : Nat) (x0 x1 x2 x3 x4 : Value) : World := ((((w.setCell ⟨g, 0, none⟩ x0).setCell ⟨g, 1, none⟩ x1).setCell ⟨g, 2, none⟩ x2).setCell ⟨g, 3, none⟩ x3).setCell ⟨g, 4, none⟩ x4
theorem below_put5 {B g : Nat} {a w : World} (h : Below B a w) (hg : B ≤ g) (hB : B ≤ a.heap.size) (x0 x1 x2 x3 x4 : Value) : Below B a (put5 w g x0 x1 x2 x3 x4) :=
  below_set (below_set (below_set (below_set (below_set h hg hB _) hg hB _) hg hB _) hg hB _) hg hB _

set_option maxHeartbeats 1000000 in
theorem bk_result_ok {w : World} {p : Option Addr} (x : SV) : Calls Tryz.prog 52 #[.pointer p, .agg x.agg, .int .i64 0] w (fun r w' => r = .returned (.agg x.agg) ∧ Below w.heap.size w w') := by
  obtain ⟨V, hW, Bx, Br, hb, hs⟩ := boxesV 53 53 w x.agg SV.zero.agg
  simp only [SV.agg, SV.zero] at hW Bx Br
  unfold SV.agg
  obtain ⟨s, A, n, c, D, m, d, u, f⟩ := x
  simp only at hW Bx Br ⊢
  obtain ⟨⟨k0, k1, k2, k3, k4⟩, _⟩ := Bx.five
  obtain ⟨⟨r0, r1, r2, r3, r4⟩, f0, f1, f2, f3, f4⟩ := Br.five
  have HW := Lib.hid hW
  clear hW Bx Br hs
  go_enter Tryz.func52, Tryz.ntmps52
  go_upto_region 4 with (fail)
  rw [HW.out]
  go_wp2_with fail
  refine bodyPost_ret (v := .agg #[.bool s, .slice A n c, .slice D m d, .int .u64 u, .int .i64 f]) (by simp [results, Tryz.results52, go_sem, r0, r1, r2, r3, r4]) rfl ?_
  exact ⟨rfl, below_put5 hb (by omega) (Nat.le_refl _) _ _ _ _ _⟩

end Go.Proofs.YthpbaaanbimapaaGreatDoor

namespace Go.Proofs.YthpbaaanbimapaaGreatDoor
set_option maxRecDepth 100000
open Go.RowKit
set_option linter.unusedVariables false
set_option linter.unusedSimpArgs false

theorem wk_keep {g : Nat} {w w' : World} (k : Keep g w w') (hz : ∀ i u, w.cell? ⟨g, i, none⟩ = some u → NZ u) : WK w w' := by
  refine ⟨k.size, fun b hb => ?_⟩
  by_cases e : b = g
  · subst e
    exact ⟨fun _ => False, fun _ _ _ h => h, fun _ h => h.elim, fun i u _ hu => hz i u hu⟩
  · exact ⟨fun _ => True, fun _ _ _ h => h, fun i _ => World.cell?_of_block (a := ⟨b, i, none⟩) (k.block b hb e), fun _ _ h => absurd trivial h⟩
theorem only_keep {g : Nat} {w w' : World} (k : Keep g w w') : Only [g] w w' := ⟨k.os, k.tape, k.output, k.size, fun b h1 h2 => k.block b h1 (fun e => h2 (by rw [e]; simp))⟩
theorem keep_put5 (w : World) (g : Nat) (x0 x1 x2 x3 x4 : Value) : Keep g w (put5 w g x0 x1 x2 x3 x4) := (((((Keep.refl g w).setCell 0 x0).setCell 1 x1).setCell 2 x2).setCell 3 x3).setCell 4 x4
theorem nz_zero5 {t : TypeId} {w : World} {g : Nat} (h : Box t w g #[.bool false, .slice none 0 0, .slice none 0 0, .int .u64 0, .int .i64 0]) : ∀ i u, w.cell? ⟨g, i, none⟩ = some u → NZ u := by
  intro i u hu
  rw [h.cell] at hu
  match i, hu with
  | 0, hu => injection hu with hu; subst hu; exact (NoW_bool _).nz
  | 1, hu => injection hu with hu; subst hu; exact (NoW_slice _ _ _).nz
  | 2, hu => injection hu with hu; subst hu; exact (NoW_slice _ _ _).nz
  | 3, hu => injection hu with hu; subst hu; exact fun x e => by injection e with _ e; exact e.symm
  | 4, hu => injection hu with hu; subst hu; exact (NoW_i64 _).nz
  | i + 5, hu => simp at hu
/-- a step of a bank behind a box that was made ahead, and a store into that box -/
theorem BkStep.after {w V w1 w2 : World} {F : List Nat} {g gr : Nat} {b : PB} (h : BkStep V F g b w1) (hb : Below w.heap.size w V) (k : Keep gr w1 w2) (h1 : w.heap.size ≤ gr) (h2 : gr < V.heap.size) (hF : ∀ x ∈ F, x < w.heap.size) (hz : ∀ i u, w1.cell? ⟨gr, i, none⟩ = some u → NZ u) : BkStep w F g b w2 := by
  obtain ⟨F', k1, k2, k3, k4⟩ := h
  have wk := wk_keep k hz
  have o2 : Only F w w1 := (Only.of_below F hb).trans k2 (fun x hx => .inl hx)
  refine ⟨F', k1.only (only_keep k) wk (fun x hx e => ?_), o2.trans (only_keep k) (fun x hx => .inr (by rw [List.mem_singleton] at hx; omega)), ((WK.below hb).trans k3).trans wk, fun x hx => ?_⟩
  · rw [List.mem_singleton] at e
    subst e
    rcases k4 x hx with h9 | h9
    · have := hF x h9; omega
    · omega
  · rcases k4 x hx with h9 | h9
    · exact .inl h9
    · right; have := hb.size; omega
theorem Bk.lt {w : World} {F : List Nat} {g : Nat} {b : PB} (h : Bk w F g b) : ∀ x ∈ F, x < w.heap.size := by
  obtain ⟨va, vp, vm, ps, h9⟩ := h
  exact h9.lt

set_option maxHeartbeats 1000000 in
theorem bk_operate_nil (w : World) (op a b : Int) (q : SV) (x y : SV) : Calls Tryz.prog 104 #[.pointer none, .agg #[.int .i64 op, .int .i64 a, .int .i64 b, .bool q.s, .slice q.A q.n q.c, .slice q.D q.m q.d], .agg x.agg, .agg y.agg] w (fun r w' => r = .returned (.agg SV.zero.agg) ∧ Below w.heap.size w w') := by
  have E := fun w1 => bk_err_nil w1
  simp only [SV.agg, SV.zero]
  go_enter Tryz.func104, Tryz.ntmps104
  go_wp2_with fail
  with_reducible refine (E _).mono ?_
  rintro _ _ ⟨rfl, rfl⟩
  go_wp2_with fail
  refine bodyPost_ret (v := .agg #[.bool false, .slice none 0 0, .slice none 0 0, .int .u64 0, .int .i64 0]) (by simp [results, Tryz.results104, go_sem]) rfl ?_
  refine ⟨rfl, ?_⟩
  repeat' (first | exact Below.refl _ _ | exact hb | refine Below.alloc ?_ (by first | (simp; done) | (simp; omega)) _ | refine below_set ?_ (by first | (simp; done) | (simp; omega)) (Nat.le_refl _) _)

theorem boxesV3 (t1 t2 t3 : TypeId) (w : World) (vs us xs : Array Value) : ∃ W, ((w.alloc (.cells vs t1)).alloc (.cells us t2)).alloc (.cells xs t3) = W ∧ Box t1 W w.heap.size vs ∧ Box t2 W (w.heap.size + 1) us ∧ Box t3 W (w.heap.size + 1 + 1) xs ∧ Below w.heap.size w W ∧ W.heap.size = w.heap.size + 1 + 1 + 1 := by
  obtain ⟨W, h, h1, h2, h3, hs⟩ := boxesV t1 t2 w vs us
  refine ⟨_, rfl, ?_, ?_, ?_, ?_, ?_⟩
  · rw [h]; exact h1.alloc _
  · rw [h]; exact h2.alloc _
  · rw [h, ← hs]; exact Box.new W t3 xs
  · rw [h]; exact h3.alloc h3.size _
  · rw [h]; simp [hs]
set_option maxHeartbeats 1000000 in
theorem bk_two_nil (w : World) (op : Int) (x y : SV) : Calls Tryz.prog 62 #[.pointer none, .int .i64 op, .agg x.agg, .agg y.agg] w (fun r w' => r = .returned (.agg SV.zero.agg) ∧ Below w.heap.size w w') := by
  have E := fun w1 a b => bk_operate_nil w1 op a b ⟨false, none, 0, 0, none, 0, 0, 0, 0⟩ x y
  have HE := Lib.hid E
  obtain ⟨V, hW, B1, B2, Br, hb, hs⟩ := boxesV3 53 53 53 w x.agg y.agg SV.zero.agg
  obtain ⟨s, A, n, c, D, m, d, u, f⟩ := x
  obtain ⟨s', A', n', c', D', m', d', u', f'⟩ := y
  clear E
  simp only [SV.agg, SV.zero] at HE hW B1 B2 Br ⊢
  obtain ⟨⟨k0, k1, k2, k3, k4⟩, _⟩ := B1.five
  obtain ⟨⟨j0, j1, j2, j3, j4⟩, _⟩ := B2.five
  have HBr := Lib.hid Br
  have HW := Lib.hid hW
  clear hW B1 B2 Br
  go_enter Tryz.func62, Tryz.ntmps62
  go_upto_region 1 with (fail)
  rw [HW.out]
  go_wp2_with fail
  with_reducible refine (HE.out _ _ _).mono ?_
  rintro _ w1 ⟨rfl, b1⟩
  obtain ⟨⟨r0, r1, r2, r3, r4⟩, f0, f1, f2, f3, f4⟩ := (HBr.out.below' b1).five
  go_wp2_with fail
  refine bodyPost_ret (v := .agg #[.bool false, .slice none 0 0, .slice none 0 0, .int .u64 0, .int .i64 0]) (by simp [results, Tryz.results62, go_sem, r0, r1, r2, r3, r4]) rfl ?_
  exact ⟨rfl, below_put5 (bb hb b1) (by omega) (Nat.le_refl _) _ _ _ _ _⟩
set_option maxHeartbeats 1000000 in
theorem bk_add_nil (w : World) (x y : SV) : Calls Tryz.prog 32 #[.pointer none, .agg x.agg, .agg y.agg] w (fun r w' => r = .returned (.agg SV.zero.agg) ∧ Below w.heap.size w w') := by
  have E := fun w1 => bk_two_nil w1 4 x y
  have HE := Lib.hid E
  obtain ⟨V, hW, B1, B2, Br, hb, hs⟩ := boxesV3 53 53 53 w x.agg y.agg SV.zero.agg
  obtain ⟨s, A, n, c, D, m, d, u, f⟩ := x
  obtain ⟨s', A', n', c', D', m', d', u', f'⟩ := y
  clear E
  simp only [SV.agg, SV.zero] at HE hW B1 B2 Br ⊢
  obtain ⟨⟨k0, k1, k2, k3, k4⟩, _⟩ := B1.five
  obtain ⟨⟨j0, j1, j2, j3, j4⟩, _⟩ := B2.five
  have HBr := Lib.hid Br
  have HW := Lib.hid hW
  clear hW B1 B2 Br
  go_enter Tryz.func32, Tryz.ntmps32
  go_upto_region 1 with (fail)
  rw [HW.out]
  go_wp2_with fail
  with_reducible refine (HE.out _).mono ?_
  rintro _ w1 ⟨rfl, b1⟩
  obtain ⟨⟨r0, r1, r2, r3, r4⟩, f0, f1, f2, f3, f4⟩ := (HBr.out.below' b1).five
  go_wp2_with fail
  refine bodyPost_ret (v := .agg #[.bool false, .slice none 0 0, .slice none 0 0, .int .u64 0, .int .i64 0]) (by simp [results, Tryz.results32, go_sem, r0, r1, r2, r3, r4]) rfl ?_
  exact ⟨rfl, below_put5 (bb hb b1) (by omega) (Nat.le_refl _) _ _ _ _ _⟩
theorem bk_lit_nil (w : World) (p q u : Int) : Calls Tryz.prog 33 #[.pointer none, .agg #[.int .i64 p, .int .i64 q, .int .u64 u]] w (fun r w' => r = .returned (.agg SV.zero.agg) ∧ Below w.heap.size w w') := by
  have E := fun w1 => bk_err_nil w1
  simp only [SV.agg, SV.zero]
  go_enter Tryz.func33, Tryz.ntmps33
  go_wp2_with fail
  with_reducible refine (E _).mono ?_
  rintro _ _ ⟨rfl, rfl⟩
  go_wp2_with fail
  refine bodyPost_ret (v := .agg #[.bool false, .slice none 0 0, .slice none 0 0, .int .u64 0, .int .i64 0]) (by simp [results, Tryz.results33, go_sem]) rfl ?_
  refine ⟨rfl, ?_⟩
  repeat' (first | exact Below.refl _ _ | exact hb | refine Below.alloc ?_ (by first | (simp; done) | (simp; omega)) _ | refine below_set ?_ (by first | (simp; done) | (simp; omega)) (Nat.le_refl _) _)
theorem bk_met_nil (w : World) : Calls Tryz.prog 17 #[.pointer none] w (fun r w' => r = .returned (.slice none 0 0) ∧ w = w') := by
  go_enter Tryz.func17, Tryz.ntmps17
  go_wp2_with fail
  go_ret
  exact ⟨rfl, rfl⟩
theorem bk_program_nil (w : World) : Calls Tryz.prog 20 #[.pointer none] w (fun r w' => r = .returned (.slice none 0 0) ∧ w = w') := by
  go_enter Tryz.func20, Tryz.ntmps20
  go_wp2_with fail
  go_ret
  exact ⟨rfl, rfl⟩
theorem bk_less_nil (w : World) (x y : SV) : Calls Tryz.prog 25 #[.pointer none, .agg x.agg, .agg y.agg] w (RetBl false w) := by
  have E := fun w1 => bk_err_nil w1
  simp only [SV.agg]
  go_enter Tryz.func25, Tryz.ntmps25
  go_wp2_with fail
  with_reducible refine (E _).mono ?_
  rintro _ _ ⟨rfl, rfl⟩
  go_wp2_with fail
  go_ret
  refine ⟨rfl, ?_⟩
  repeat' (first | exact Below.refl _ _ | exact hb | refine Below.alloc ?_ (by first | (simp; done) | (simp; omega)) _ | refine below_set ?_ (by first | (simp; done) | (simp; omega)) (Nat.le_refl _) _)

end Go.Proofs.YthpbaaanbimapaaGreatDoor

namespace Go.Proofs.YthpbaaanbimapaaGreatDoor
set_option maxRecDepth 100000
open Go.RowKit
set_option linter.unusedVariables false
set_option linter.unusedSimpArgs false

theorem sz_int {z : Int} (h1 : -9223372036854775808 ≤ z) (h2 : z ≤ 9223372036854775807) : Sz (z : Rat) 1 := by
  refine ⟨?_, ?_⟩
  · rw [Rat.num_intCast, Nat.pow_one]; unfold W; omega
  · rw [Rat.den_intCast, Nat.pow_one]; unfold W; omega
theorem int_ne {z : Int} (h : z ≠ 0) : (z : Rat) ≠ 0 := by
  intro e
  exact h (Rat.intCast_inj.1 (e.trans (by rfl)))
set_option maxHeartbeats 1000000 in
theorem bk_quotient {w : World} {p q : Int} (p1 : -9223372036854775808 ≤ p) (p2 : p ≤ 9223372036854775807) (q1 : -9223372036854775808 ≤ q) (q2 : q ≤ 9223372036854775807) (h0 : q ≠ 0) :
    Calls Tryz.prog 49 #[.int .i64 p, .int .i64 q] w (RetQE ((p : Rat) / (q : Rat)) 0 w) := by
  obtain ⟨V, hW, Br, hb⟩ := box0 51 w #[.bool false, .slice none 0 0, .slice none 0 0]
  have P := fun (w1 : World) => Lib.hid (rat_of p p1 p2 w1)
  have R := fun (w1 : World) => Lib.hid (rat_of q q1 q2 w1)
  have D := fun (w1 : World) {s t : Bool} {A A' B B' : Option Addr} {n n' c c' m m' d d' : Nat} (h : Q w1 s A n c A' n' c' (p : Rat)) (k : Q w1 t B m d B' m' d' (q : Rat)) => rat_div h k (sz_int p1 p2) (sz_int q1 q2) (by omega) (int_ne h0)
  generalize (p : Rat) / (q : Rat) = X at *
  have HD := Lib.hid @D
  have HW := Lib.hid hW
  have HBr := Lib.hid Br
  clear D hW Br
  go_enter Tryz.func49, Tryz.ntmps49
  go_upto_region 1 with (fail)
  rw [HW.out]
  go_wp2_with fail
  with_reducible refine (P _).out.mono ?_
  rintro _ w1 ⟨sa, Aa, na, ca, Da, ma, da, rfl, qa, b1⟩
  go_wp2_with fail
  with_reducible refine (R _).out.mono ?_
  rintro _ w2 ⟨sb, Ab, nb, cb, Db, mb, db, rfl, qb, b2⟩
  go_wp2_with fail
  with_reducible refine (HD.out _ (qa.below b2) qb).mono ?_
  rintro _ w3 ⟨s3, A3, n3, c3, D3, m3, d3, rfl, q3, b3⟩
  have B3 := HBr.out.below' (bb b1 (bb b2 b3))
  have HB3 := Lib.hid B3
  obtain ⟨⟨r0, r1, r2⟩, f0, f1, f2⟩ := B3.three
  have x3 := Lib.hid (bb hb (bb b1 (bb b2 b3)))
  clear B3
  go_wp2_with fail
  refine bodyPost_ret (v := .tuple #[.agg #[.bool s3, .slice A3 n3 c3, .slice D3 m3 d3], .int .i64 0]) (by simp [results, Tryz.results49, go_sem, r0, r1, r2]) rfl ?_
  exact ⟨_, _, _, _, _, _, _, rfl, q3.put3 ⟨_, _, _, _, _, _, _, HB3.out⟩, below_put3 x3.out (Nat.le_refl _) (Nat.le_refl _) _ _ _⟩
/-- a new bank without answers -/
theorem bk_at_new (w : World) {m : Int} : BkAt (w.alloc (.cells (bkCells (PB.new m []) (.slice none 0 0) (.slice none 0 0) (.slice none 0 0)) 77)) [w.heap.size] w.heap.size (PB.new m []) (.slice none 0 0) (.slice none 0 0) (.slice none 0 0) [] where
  box := Box.new w _ _
  ra := Rw.nil
  rp := Rw.nil
  rm := Rw.nil
  pi := rfl
  ok := fun p hp => by cases hp
  own := fun x => by simp [ownL_nil]
  d1 := by simp [ownL_nil]
  d2 := by simp [ownL_nil]
  pl := by show 0 ≤ 65536; omega
  ml := by show 0 ≤ 65536; omega
  ul := Nat.le_refl _
set_option maxHeartbeats 1000000 in
theorem bk_new_nil (w : World) {m : Int} (h0 : 0 ≤ m) (h2 : m ≤ 2) : Calls Tryz.prog 8 #[.int .i64 m, .slice none 0 0] w (fun r w' => ∃ g, r = .returned (.pointer (some ⟨g, 0, none⟩)) ∧ Bk w' [g] g (PB.new m []) ∧ w.heap.size ≤ g ∧ Below w.heap.size w w') := by
  have h3 : decide (m < 0) = false := decide_eq_false (by omega)
  have h4 : decide (2 < m) = false := decide_eq_false (by omega)
  have hn := bk_at_new w (m := m)
  have HN := Lib.hid hn
  clear hn
  go_enter Tryz.func8, Tryz.ntmps8
  go_wp2_with fail
  go_ret
  exact ⟨_, rfl, ⟨_, _, _, _, HN.out⟩, Nat.le_refl _, below_alloc _ _⟩
theorem bk_undo_nil (w : World) (i a m o n : Int) (t : Bool) (e : Int) : Calls Tryz.prog 35 #[.pointer none, .agg (mkCells i a m o n t e)] w (RetBl false w) := by
  unfold mkCells
  go_enter Tryz.func35, Tryz.ntmps35
  go_wp2_with fail
  go_region
  all_goals
    go_wp2_with fail
    go_ret
    refine ⟨rfl, ?_⟩
    repeat' (first | exact Below.refl _ _ | refine Below.drew ?_ | refine Below.alloc ?_ (by first | (simp; done) | (simp; omega)) _)

end Go.Proofs.YthpbaaanbimapaaGreatDoor

namespace Go.Proofs.YthpbaaanbimapaaGreatDoor
set_option maxRecDepth 100000
open Go.RowKit
set_option linter.unusedVariables false
set_option linter.unusedSimpArgs false

theorem infoI : (Tryz.prog.info? 80).map (fun i => (i.zero, i.size, i.bytes)) = some (some (.agg #[.int .i64 0, .int .i64 0, .int .i64 0, .bool false, .slice none 0 0, .slice none 0 0]), 6, 80) := by kernel_rfl
theorem zeroI : ∀ u ∈ (Value.agg #[.int .i64 0, .int .i64 0, .int .i64 0, .bool false, .slice none 0 0, .slice none 0 0]).cells.toList, NZ u := by
  intro u hu
  simp only [Value.cells, List.mem_cons, List.not_mem_nil, or_false] at hu
  rcases hu with rfl | rfl | rfl | rfl | rfl | rfl
  · exact (NoW_i64 _).nz
  · exact (NoW_i64 _).nz
  · exact (NoW_i64 _).nz
  · exact (NoW_bool _).nz
  · exact (NoW_slice _ _ _).nz
  · exact (NoW_slice _ _ _).nz
theorem bkCells_nz {b : PB} {va vp vm : Value} {w : World} {F : List Nat} {g : Nat} {ps : List RI} (h : BkAt w F g b va vp vm ps) {t : TypeId} {w6 : World} (hb : Box t w6 g (bkCells b va vp vm)) : ∀ i u, w6.cell? ⟨g, i, none⟩ = some u → NZ u := by
  intro i u hu
  rw [hb.cell] at hu
  exact (bkCells_noW (ownL_noW _ h.ra) (ownL_noW _ h.rp) (ownL_noW _ h.rm) u (by rw [Array.mem_toList_iff]; exact Array.mem_of_getElem? hu)).nz
def PB.wrote1 (b : PB) (x : PI) : PB := { b with prog := b.prog ++ [x] }
theorem BkAt.pushed {w w5 w6 : World} {F : List Nat} {g : Nat} {b : PB} {va vp vm v' : Value} {ps : List RI} {p : RI} (h : BkAt w F g b va vp vm ps) (hb : Below w.heap.size w w5) (hr : Rw 6 RI.cells 80 w6 v' (ps ++ [p])) (ho : Only (ownL vp) w5 w6) (hk : WK w5 w6) (hv : ∀ x ∈ ownL v', x ∈ ownL vp ∨ w5.heap.size ≤ x) (hp : p.tight w6) (hl : b.prog.length < 65536) :
    BkAt ((w6.setCell ⟨g, 2, none⟩ v').setCell ⟨g, 4, none⟩ (.int .i64 ((b.prog.length : Int) + 1))) (g :: ownL va ++ ownL v' ++ ownL vm) g (b.wrote1 p.pi) va v' vm (ps ++ [p]) ∧
    Only F w ((w6.setCell ⟨g, 2, none⟩ v').setCell ⟨g, 4, none⟩ (.int .i64 ((b.prog.length : Int) + 1))) ∧ WK w ((w6.setCell ⟨g, 2, none⟩ v').setCell ⟨g, 4, none⟩ (.int .i64 ((b.prog.length : Int) + 1))) ∧ ∀ x ∈ (g :: ownL va ++ ownL v' ++ ownL vm), x ∈ F ∨ w.heap.size ≤ x := by
  have ho6 : Only (ownL vp) w w6 := (Only.of_below _ hb).trans ho (fun x hx => .inl hx)
  have wk6 : WK w w6 := (WK.below hb).trans hk
  have box6 := ho6.box h.box h.d1.2.1
  have ra6 := h.ra.only ho6 (fun x hx => (h.d2.1 x hx).1)
  have rm6 := h.rm.only ho6 (fun x hx e => h.d2.2 x e hx)
  have hlt := h.lt
  have hgF : g ∈ F := (h.own g).2 (.inl rfl)
  have hg := hlt g hgF
  have hs5 := hb.size
  have hgv : g ∉ ownL v' := fun e => by
    rcases hv g e with h9 | h9
    · exact h.d1.2.1 h9
    · omega
  have k8 : Keep g w6 ((w6.setCell ⟨g, 2, none⟩ v').setCell ⟨g, 4, none⟩ (.int .i64 ((b.prog.length : Int) + 1))) := ((Keep.refl g w6).setCell 2 v').setCell 4 _
  have wk8 := wk_keep k8 (bkCells_nz h box6)
  have o8 := only_keep k8
  have ne : ∀ {L : List Nat}, g ∉ L → ∀ x ∈ L, x ∉ [g] := fun hL x hx hy => by rw [List.mem_singleton] at hy; exact hL (hy ▸ hx)
  have box8 := box_setI (box_setI box6 2 v') 4 (.int .i64 ((b.prog.length : Int) + 1))
  have hcells : ((bkCells b va vp vm).setIfInBounds 2 v').setIfInBounds 4 (.int .i64 ((b.prog.length : Int) + 1)) = bkCells (b.wrote1 p.pi) va v' vm := by
    unfold bkCells PB.wrote1
    simp
  rw [hcells] at box8
  refine ⟨⟨box8, ra6.only o8 (ne h.d1.1), hr.only o8 (ne hgv), rm6.only o8 (ne h.d1.2.2), ?_, ?_, ?_, ⟨h.d1.1, hgv, h.d1.2.2⟩, ⟨fun x hx => ⟨fun e => ?_, (h.d2.1 x hx).2⟩, fun x hx e => ?_⟩, ?_, h.ml, h.ul⟩, ?_, wk6.trans wk8, fun x hx => ?_⟩
  · show _ = b.prog ++ [p.pi]; rw [List.map_append, h.pi]; rfl
  · intro q hq
    rcases List.mem_append.1 hq with hq | hq
    · exact RI.tight_wk (RI.tight_wk (h.ok q hq) wk6) wk8
    · rw [List.mem_singleton.1 hq]; exact RI.tight_wk hp wk8
  · intro x; simp [List.mem_append]
  · rcases hv x e with h9 | h9
    · exact (h.d2.1 x hx).1 h9
    · have := hlt x ((h.own x).2 (.inr (.inl hx))); omega
  · rcases hv x hx with h9 | h9
    · exact h.d2.2 x h9 e
    · have := hlt x ((h.own x).2 (.inr (.inr (.inr e)))); omega
  · show (b.prog ++ [p.pi]).length ≤ 65536; rw [List.length_append]; exact hl
  · refine (ho6.mono (G := F) (fun x hx => .inl ((h.own x).2 (.inr (.inr (.inl hx)))))).trans o8 (fun x hx => .inl ?_)
    rw [List.mem_singleton] at hx; rw [hx]; exact hgF
  · simp only [List.cons_append, List.mem_cons, List.mem_append] at hx
    rcases hx with rfl | (hx | hx) | hx
    · exact .inl hgF
    · exact .inl ((h.own x).2 (.inr (.inl hx)))
    · rcases hv x hx with h9 | h9
      · exact .inl ((h.own x).2 (.inr (.inr (.inl h9))))
      · right; omega
    · exact .inl ((h.own x).2 (.inr (.inr (.inr hx))))

end Go.Proofs.YthpbaaanbimapaaGreatDoor

namespace Go.Proofs.YthpbaaanbimapaaGreatDoor
set_option maxRecDepth 100000
set_option linter.unusedVariables false
set_option linter.unusedSimpArgs false

/-! ### the text of a number -/
/-! ### digits of a given number of places -/
/-! ### reading -/
def rd (l : List UInt8) : Nat := l.foldl (fun v c => v * 10 + (c.toNat - 48)) 0
/-! ### lengths and order -/
/-! ### groups of nineteen digits -/
def B : Nat := 10000000000000000000
/-! ### by ten, half word by half word -/
end Go.Proofs.YthpbaaanbimapaaGreatDoor

namespace Go.Proofs.YthpbaaanbimapaaGreatDoor
set_option maxRecDepth 100000
open Go.RowKit
set_option linter.unusedVariables false
set_option linter.unusedSimpArgs false

end Go.Proofs.YthpbaaanbimapaaGreatDoor

namespace Go.Proofs.YthpbaaanbimapaaGreatDoor
set_option maxRecDepth 100000
open Go.RowKit
set_option linter.unusedVariables false
set_option linter.unusedSimpArgs false

theorem Own.below {t : TypeId} {base : Nat} {w w' : World} {v : Value} {zs : List Int} (h : Own t base w v zs) (hb : Below w.heap.size w w') : Own t base w' v zs := by
  obtain ⟨h1, h2⟩ := h
  refine ⟨h1, ?_⟩
  rcases h2 with h2 | ⟨g, cap, cur, hv, hg, hh, r⟩
  · exact .inl h2
  · have hlt : g < w.heap.size := by
      rcases Nat.lt_or_ge g w.heap.size with h9 | h9
      · exact h9
      · rw [Array.getElem?_eq_none h9] at hh; cases hh
    exact .inr ⟨g, cap, cur, hv, hg, (hb.block g hlt).trans hh, r⟩
theorem Own.lit {w w1 : World} {t : TypeId} (hs : w.heap.size ≤ w1.heap.size) (x : Int) : Own t w.heap.size (w1.alloc (.cells #[.int .u64 x] t)) (.slice (some ⟨w1.heap.size, 0, none⟩) 1 1) [x] :=
  ⟨rfl, .inr ⟨w1.heap.size, 1, _, rfl, hs, heap_alloc_new w1 _, Nat.le_refl _, by unfold maxLen; omega, rfl, rfl⟩⟩
/-- a slice apart from the row that grows -/
theorem Sl.grown {w w1 : World} {o : Obj} {r : Option Nat} {A : Option Addr} {n c : Nat} {xs : List Int} (s : Sl w A n c xs) (hg : (w.alloc o).grownBy w1 r) (hne : ∀ b off, A = some ⟨b, off, none⟩ → some b ≠ r) : Sl w1 A n c xs := by
  refine ⟨s.1, fun h0 => ?_⟩
  obtain ⟨b, off, e, hlt, hc⟩ := s.2 h0
  have hsz := hg.size
  refine ⟨b, off, e, by simp at hsz; omega, fun j hj => ?_⟩
  have hbl := hg.block b (by simp; omega) (hne b off e)
  have e1 : w1.cell? ⟨b, off + j, none⟩ = (w.alloc o).cell? ⟨b, off + j, none⟩ := World.cell?_of_block (a := ⟨b, off + j, none⟩) hbl
  rw [e1, World.cell?_alloc_past _ _ _ hlt]
  exact hc j hj

end Go.Proofs.YthpbaaanbimapaaGreatDoor

namespace Go.Proofs.YthpbaaanbimapaaGreatDoor
set_option maxRecDepth 100000
open Go.RowKit
set_option linter.unusedVariables false
set_option linter.unusedSimpArgs false

/-- block g begins with the integers zs, none frozen -/
def Cl (k : IntKind) (w : World) (g : Nat) (zs : List Int) : Prop := ∀ j, j < zs.length → w.cell? ⟨g, j, none⟩ = some (.int k (zs.getD j 0)) ∧ w.frozen? ⟨g, j, none⟩ = false
theorem Cl.set {k : IntKind} {w : World} {g : Nat} {zs : List Int} (h : Cl k w g zs) (i : Nat) (hi : i < zs.length) (u : Int) : Cl k (w.setCell ⟨g, i, none⟩ (.int k u)) g (zs.set i u) := by
  intro j hj
  rw [List.length_set] at hj
  refine ⟨?_, by rw [World.frozen?_setCell]; exact (h j hj).2⟩
  by_cases e : i = j
  · subst e
    rw [World.cell?_setCell_same _ _ _ (h i hi).1, getD_set_self _ hi]
  · rw [World.cell?_setCell_other _ _ _ _ (by intro e2; injection e2 with _ e3; exact e e3), getD_set_ne _ e]
    exact (h j hj).1
theorem Cl.below {k : IntKind} {w w' : World} {g : Nat} {zs : List Int} (h : Cl k w g zs) (hb : Below w.heap.size w w') (hg : g < w.heap.size) : Cl k w' g zs := by
  intro j hj
  exact ⟨(hb.cell (p := ⟨g, j, none⟩) hg).trans (h j hj).1, (hb.frozen (p := ⟨g, j, none⟩) hg).trans (h j hj).2⟩
end Go.Proofs.YthpbaaanbimapaaGreatDoor
