/-
  More words for memory: a call that writes into one block alone; slices that do not lie in that block; parts of slices. No Go function in sight.
-/
import Derived.Test.YtmoahgiklgicgaaNatLaws
namespace Go.Proofs.Ytmoahgiklgicgaa
set_option maxRecDepth 100000
open Go.RowKit
set_option linter.unusedVariables false
set_option linter.unusedSimpArgs false

/-- of the blocks that were there, block g alone may have turned -/
structure Keep (g : Nat) (w w' : World) : Prop where
  os : w'.os = w.os
  tape : w'.tape = w.tape
  output : w'.output = w.output
  size : w.heap.size ≤ w'.heap.size
  block : ∀ k, k < w.heap.size → k ≠ g → w'.heap[k]? = w.heap[k]?
theorem Keep.refl (g : Nat) (w : World) : Keep g w w := ⟨rfl, rfl, rfl, Nat.le_refl _, fun _ _ _ => rfl⟩
theorem Keep.trans {g : Nat} {a b c : World} (h : Keep g a b) (k : Keep g b c) : Keep g a c :=
  ⟨k.os.trans h.os, k.tape.trans h.tape, k.output.trans h.output, Nat.le_trans h.size k.size, fun i hi hg => (k.block i (Nat.lt_of_lt_of_le hi h.size) hg).trans (h.block i hi hg)⟩
theorem Keep.setCell {g : Nat} {a w : World} (h : Keep g a w) (i : Nat) (u : Value) : Keep g a (w.setCell ⟨g, i, none⟩ u) :=
  h.trans ⟨rfl, rfl, rfl, by simp [World.setCell], fun k _ hg => Below.heap_setCell _ _ _ _ hg⟩
theorem Keep.drew {g : Nat} {a w : World} (h : Keep g a w) : Keep g a w.drew := ⟨h.os, h.tape, h.output, h.size, h.block⟩
theorem Keep.drewN {g : Nat} {a w : World} (h : Keep g a w) (n : Nat) : Keep g a (w.drewN n) := ⟨h.os, h.tape, h.output, h.size, h.block⟩
theorem Keep.alloc {g : Nat} {a w : World} (h : Keep g a w) (o : Obj) : Keep g a (w.alloc o) :=
  h.trans ⟨rfl, rfl, rfl, by simp, fun k hk _ => Below.heap_alloc _ _ _ hk⟩
theorem Keep.of_below (g : Nat) {w w' : World} (h : Below w.heap.size w w') : Keep g w w' := ⟨h.os, h.tape, h.output, h.size, fun k hk _ => h.block k hk⟩
theorem Keep.below {g B : Nat} {w w' : World} (h : Keep g w w') (hg : B ≤ g) (hB : B ≤ w.heap.size) : Below B w w' :=
  ⟨h.os, h.tape, h.output, h.size, fun k hk => h.block k (by omega) (by omega)⟩
theorem Below.keep {B g : Nat} {a w w' : World} (h : Below B a w) (k : Keep g w w') (hg : B ≤ g) (hB : B ≤ a.heap.size) : Below B a w' :=
  h.trans (k.below hg (Nat.le_trans hB h.size))
theorem Row.keep {t : TypeId} {w w' : World} {g g' : Nat} {zs : List Int} (h : Row t w g zs) (k : Keep g' w w') (hg : g ≠ g') : Row t w' g zs := (k.block g h.lt hg).trans h

/-- the slice reads as xs, and does not lie in block g -/
def SlN (g : Nat) (w : World) (A : Option Addr) (n c : Nat) (xs : List Int) : Prop :=
  Sl w A n c xs ∧ (0 < n → ∃ b off, A = some ⟨b, off, none⟩ ∧ b ≠ g)
theorem SlN.sl {g : Nat} {w : World} {A : Option Addr} {n c : Nat} {xs : List Int} (h : SlN g w A n c xs) : Sl w A n c xs := h.1
theorem SlN.keep {g : Nat} {w w' : World} {A : Option Addr} {n c : Nat} {xs : List Int} (h : SlN g w A n c xs) (k : Keep g w w') : SlN g w' A n c xs := by
  refine ⟨⟨h.1.1, fun h0 => ?_⟩, h.2⟩
  obtain ⟨b, off, e, hlt, hc⟩ := h.1.2 h0
  obtain ⟨b', off', e', hne⟩ := h.2 h0
  rw [e] at e'
  injection e' with e'
  injection e' with e1 e2
  subst e1 e2
  exact ⟨b, off, e, Nat.lt_of_lt_of_le hlt k.size, fun j hj => (World.cell?_of_block (w := w) (k.block b hlt hne)).trans (hc j hj)⟩
theorem Sl.apart {g : Nat} {w : World} {A : Option Addr} {n c : Nat} {xs : List Int} (h : Sl w A n c xs) (hg : w.heap.size ≤ g) : SlN g w A n c xs := by
  refine ⟨h, fun h0 => ?_⟩
  obtain ⟨b, off, e, hlt, _⟩ := h.2 h0
  exact ⟨b, off, e, by omega⟩
theorem Sl.apart' {g : Nat} {w w' : World} {A : Option Addr} {n c : Nat} {xs : List Int} (h : Sl w A n c xs) (hb : Below w.heap.size w w') (hg : w.heap.size ≤ g) : SlN g w' A n c xs := by
  refine ⟨h.below hb, fun h0 => ?_⟩
  obtain ⟨b, off, e, hlt, _⟩ := h.2 h0
  exact ⟨b, off, e, by omega⟩
theorem SlN.at_ {g : Nat} {w : World} {A : Option Addr} {n c k : Nat} {xs : List Int} (h : SlN g w A n c xs) (hk : k < n) :
    ∃ b off, A = some ⟨b, off, none⟩ ∧ b ≠ g ∧ w.cell? ⟨b, off + k, none⟩ = some (.int .u64 (xs.getD k 0)) := by
  obtain ⟨b, off, e, hlt, hc⟩ := h.1.2 (by omega)
  obtain ⟨b', off', e', hne⟩ := h.2 (by omega)
  rw [e] at e'
  injection e' with e'
  injection e' with e1 e2
  subst e1 e2
  exact ⟨b, off, e, hne, hc k hk⟩
/-- the part from k on; the model keeps the address where nothing can lie behind it -/
theorem Sl.drop {w : World} {b off n c k : Nat} {xs : List Int} (h : Sl w (some ⟨b, off, none⟩) n c xs) (hk : k ≤ n) : Sl w (some ⟨b, off + k, none⟩) (n - k) (c - k) (xs.drop k) := by
  refine ⟨⟨by rw [List.length_drop, h.1.1], by have := h.cap; omega, fun x hx => h.us x (List.mem_of_mem_drop hx)⟩, fun h0 => ?_⟩
  obtain ⟨b', off', e, hlt, hc⟩ := h.2 (by omega)
  injection e with e
  injection e with e1 e2
  subst e1 e2
  refine ⟨b, off + k, rfl, hlt, fun j hj => ?_⟩
  rw [Nat.add_assoc, hc (k + j) (by omega)]
  simp [List.getD_eq_getElem?_getD, List.getElem?_drop]
/-- a part of a row that is known whole -/
theorem Row.part {t : TypeId} {w : World} {g off n c : Nat} {zs : List Int} (h : Row t w g zs) (hd : Dg W zs) (hfit : off + n ≤ zs.length) (hc : n ≤ c) : Sl w (some ⟨g, off, none⟩) n c ((zs.drop off).take n) := by
  refine ⟨⟨by rw [List.length_take, List.length_drop]; omega, hc, fun x hx => U_Dg hd x (List.mem_of_mem_drop (List.mem_of_mem_take hx))⟩, fun h0 => ⟨g, off, rfl, h.lt, fun j hj => ?_⟩⟩
  rw [h.cell (by omega)]
  simp [List.getD_eq_getElem?_getD, List.getElem?_take, List.getElem?_drop, hj]
/-- make([]uint64, n): a block of zeros; the world behind it is a name -/
theorem make_words (w : World) (n : Nat) (hn : n ≤ 1000000000) : ∃ w1, (Instr.makeSlice 34 (.int .i64 (n : Int)) (.int .i64 (n : Int))).run Try.prog w = .ok (.slice (some ⟨w.heap.size, 0, none⟩) n n) w1 ∧ Row 22 w1 w.heap.size (List.replicate n 0) ∧ Below w.heap.size w w1 ∧ w.heap.size < w1.heap.size :=
  ⟨_, run_make_row' (P := Try.prog) 34 22 (.int .u64 0) 8 Try.underlying34 infoW rfl .i64 .i64 n (by omega) (by omega) w, Row.new w 22 n, (Below.refl _ _).alloc (Nat.le_refl _) _, by simp⟩
theorem Keep.setRow {g : Nat} {a w : World} (h : Keep g a w) (cs : Array Value) : Keep g a (w.setRow g cs) :=
  h.trans ⟨rfl, rfl, rfl, by simp [World.setRow], fun k _ hg => setRow_other w g k cs hg⟩
/-- the list zs with xs laid over it from place off on -/
def spl (zs : List Int) (off : Nat) (xs : List Int) : List Int := zs.take off ++ (xs ++ zs.drop (off + xs.length))
theorem length_spl {zs xs : List Int} {off : Nat} (h : off + xs.length ≤ zs.length) : (spl zs off xs).length = zs.length := by
  unfold spl; simp; omega
theorem Dg.spl {b : Nat} {zs xs : List Int} (hz : Dg b zs) (hx : Dg b xs) (off : Nat) : Dg b (spl zs off xs) := (hz.take _).append (hx.append (hz.drop _))
theorem add_none (b off j : Nat) : ((⟨b, off, none⟩ : Addr).add j) = ⟨b, off + j, none⟩ := by
  unfold Addr.add; split
  · subst_vars; rfl
  · rfl
/-- copy of a list of words into a row that is known whole, the whole source fitting -/
theorem wpList_copy_words {P : Program} {w : World} {ops : Array Oper} {rest : List Oper} {o : Oper} {a : Act} {Q : Exit → Act → World → Prop} (hgd : o.guard = none) (d s : Operand) (dT sT : TypeId)
    (ho : o.op = .call { callee := .builtin .copy, args := #[d, s], argTypes := #[dT, sT] }) (t : TypeId) (hu : P.underlying dT = some (.slice t)) (hsz : (P.info? t).map (·.size) = some 1)
    (g off dLen dCap : Nat) (sp : Option Addr) (sLen sCap : Nat) (hd : a.eval d = .slice (some ⟨g, off, none⟩) dLen dCap) (hs : a.eval s = .slice sp sLen sCap)
    (zs xs : List Int) (hr : Row t w g zs) (hsl : Sl w sp sLen sCap xs) (hle : sLen ≤ dLen) (hfit : off + sLen ≤ zs.length)
    (h : ∀ w', Hid (Row t w' g (spl zs off xs)) → Hid (Keep g w w') → wpList P ops Q rest (a.put o.dst (goInt sLen)) w') : wpList P ops Q (o :: rest) a w := by
  have hl : xs.length = sLen := hsl.len.symm
  by_cases h0 : sLen = 0
  · subst h0
    obtain rfl : xs = [] := List.eq_nil_of_length_eq_zero hl
    refine wpList_copy_nothing hgd d s dT sT ho t hu hsz _ sp dLen dCap 0 sCap hd hs (by simp) ?_
    exact h w (show Row t w g (spl zs off []) by unfold spl; simpa using hr) (Keep.refl _ _)
  · obtain ⟨b, off', rfl, _, hc⟩ := hsl.at_ (k := 0) (by omega)
    have e : (xs.map (Value.int .u64)).length = Nat.min sLen dLen := by rw [List.length_map, hl]; exact (Nat.min_eq_left hle).symm
    refine wpList_copy_own hgd d s dT sT ho t hu hsz g off dLen dCap _ sLen sCap hd hs (zs.map (Value.int .u64)).toArray t hr (xs.map (Value.int .u64)) e ?_ (by simp; omega) (ints_oneCell .u64 _) ?_
    · intro j v hv
      have hj : j < xs.length := by have := (List.getElem?_eq_some_iff.1 hv).1; simpa using this
      rw [add_none, hc j (by omega)]
      rw [List.getElem?_map, List.getElem?_eq_getElem hj] at hv
      rw [← hv]
      simp [List.getD_eq_getElem?_getD, List.getElem?_eq_getElem hj]
    · rw [List.length_map, hl]
      refine h _ ?_ ((Keep.refl _ _).setRow _)
      show Row t _ g _
      have := setRow_heap w g (zs.map (Value.int .u64)).toArray ((zs.map (Value.int .u64)).toArray.toList.take off ++ (xs.map (Value.int .u64) ++ (zs.map (Value.int .u64)).toArray.toList.drop (off + sLen))).toArray t (0, 0) hr
      unfold Row spl
      rw [this, hl]
      simp [List.map_take, List.map_drop]
/-- what a call leaves that writes into block g alone: nothing returned, a new list there of which T holds -/
def Wrote (t : TypeId) (g : Nat) (T : List Int → Prop) (w : World) (e : Ending) (w' : World) : Prop := ∃ zs', e = .returned (.tuple #[]) ∧ Row t w' g zs' ∧ Keep g w w' ∧ T zs'
theorem Sl.new {w w' : World} {A : Option Addr} {n c g : Nat} {xs : List Int} (h : Sl w' A n c xs) (hn : New w A) (hg : g < w.heap.size) : SlN g w' A n c xs := by
  refine ⟨h, fun h0 => ?_⟩
  obtain ⟨b, off, e, _, _⟩ := h.2 h0
  exact ⟨b, off, e, by have := hn b off e; omega⟩
/-- a call that returns a slice of n words that say v, in new memory -/
def RetV (n v : Nat) (w : World) (e : Ending) (w' : World) : Prop := ∃ A c zs, e = .returned (.slice A n c) ∧ Sl w' A n c zs ∧ val zs = v ∧ Below w.heap.size w w' ∧ New w A

end Go.Proofs.Ytmoahgiklgicgaa
