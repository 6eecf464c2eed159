/-
  What quot.Root and quot.Square return: the root, rounded down, by Newton's steps; whether a number is a square. Conditions: the slices read as lists of words, of at most 10^5 words.
-/
import Derived.Test.YtmoahgiklgicgaaDoorRefShiftAll
import Derived.Test.YtmoahgiklgicgaaDoorProdMathAll
import Derived.Deep.RegionWith
import Derived.Lib.SliceRun
import Derived.WalkMore
namespace Go.Proofs.YtmoahgiklgicgaaDoor
set_option maxRecDepth 100000
open Go.RowKit
set_option linter.unusedVariables false
set_option linter.unusedSimpArgs false

/-- of the blocks that were there, block g alone may have turned -/
structure Keep (g : Nat) (w w' : World) : Prop where
  os : w'.os = w.os
  tape : w'.tape = w.tape
  output : w'.output = w.output
  size : w.heap.size ≤ w'.heap.size
  block : ∀ k, k < w.heap.size → k ≠ g → w'.heap[k]? = w.heap[k]?
theorem Keep.refl (g : Nat) (w : World) : Keep g w w := ⟨rfl, rfl, rfl, Nat.le_refl _, fun _ _ _ => rfl⟩
theorem Keep.trans {g : Nat} {a b c : World} (h : Keep g a b) (k : Keep g b c) : Keep g a c :=
  ⟨k.os.trans h.os, k.tape.trans h.tape, k.output.trans h.output, Nat.le_trans h.size k.size, fun i hi hg => (k.block i (Nat.lt_of_lt_of_le hi h.size) hg).trans (h.block i hi hg)⟩
theorem Keep.setCell {g : Nat} {a w : World} (h : Keep g a w) (i : Nat) (u : Value) : Keep g a (w.setCell ⟨g, i, none⟩ u) :=
  h.trans ⟨rfl, rfl, rfl, by simp [World.setCell], fun k _ hg => Below.heap_setCell _ _ _ _ hg⟩
theorem Keep.drew {g : Nat} {a w : World} (h : Keep g a w) : Keep g a w.drew := ⟨h.os, h.tape, h.output, h.size, h.block⟩
theorem Keep.drewN {g : Nat} {a w : World} (h : Keep g a w) (n : Nat) : Keep g a (w.drewN n) := ⟨h.os, h.tape, h.output, h.size, h.block⟩
theorem Keep.alloc {g : Nat} {a w : World} (h : Keep g a w) (o : Obj) : Keep g a (w.alloc o) :=
  h.trans ⟨rfl, rfl, rfl, by simp, fun k hk _ => Below.heap_alloc _ _ _ hk⟩
theorem Keep.of_below (g : Nat) {w w' : World} (h : Below w.heap.size w w') : Keep g w w' := ⟨h.os, h.tape, h.output, h.size, fun k hk _ => h.block k hk⟩
theorem Keep.below {g B : Nat} {w w' : World} (h : Keep g w w') (hg : B ≤ g) (hB : B ≤ w.heap.size) : Below B w w' :=
  ⟨h.os, h.tape, h.output, h.size, fun k hk => h.block k (by omega) (by omega)⟩
theorem Below.keep {B g : Nat} {a w w' : World} (h : Below B a w) (k : Keep g w w') (hg : B ≤ g) (hB : B ≤ a.heap.size) : Below B a w' :=
  h.trans (k.below hg (Nat.le_trans hB h.size))
theorem Row.keep {t : TypeId} {w w' : World} {g g' : Nat} {zs : List Int} (h : Row t w g zs) (k : Keep g' w w') (hg : g ≠ g') : Row t w' g zs := (k.block g h.lt hg).trans h

/-- the slice reads as xs, and does not lie in block g -/
def SlN (g : Nat) (w : World) (A : Option Addr) (n c : Nat) (xs : List Int) : Prop :=
  Sl w A n c xs ∧ (0 < n → ∃ b off, A = some ⟨b, off, none⟩ ∧ b ≠ g)
theorem SlN.sl {g : Nat} {w : World} {A : Option Addr} {n c : Nat} {xs : List Int} (h : SlN g w A n c xs) : Sl w A n c xs := h.1
theorem SlN.keep {g : Nat} {w w' : World} {A : Option Addr} {n c : Nat} {xs : List Int} (h : SlN g w A n c xs) (k : Keep g w w') : SlN g w' A n c xs := by
  refine ⟨⟨h.1.1, fun h0 => ?_⟩, h.2⟩
  obtain ⟨b, off, e, hlt, hc⟩ := h.1.2 h0
  obtain ⟨b', off', e', hne⟩ := h.2 h0
  rw [e] at e'
  injection e' with e'
  injection e' with e1 e2
  subst e1 e2
  exact ⟨b, off, e, Nat.lt_of_lt_of_le hlt k.size, fun j hj => (World.cell?_of_block (w := w) (k.block b hlt hne)).trans (hc j hj)⟩
theorem Sl.apart {g : Nat} {w : World} {A : Option Addr} {n c : Nat} {xs : List Int} (h : Sl w A n c xs) (hg : w.heap.size ≤ g) : SlN g w A n c xs := by
  refine ⟨h, fun h0 => ?_⟩
  obtain ⟨b, off, e, hlt, _⟩ := h.2 h0
  exact ⟨b, off, e, by omega⟩
theorem Sl.apart' {g : Nat} {w w' : World} {A : Option Addr} {n c : Nat} {xs : List Int} (h : Sl w A n c xs) (hb : Below w.heap.size w w') (hg : w.heap.size ≤ g) : SlN g w' A n c xs := by
  refine ⟨h.below hb, fun h0 => ?_⟩
  obtain ⟨b, off, e, hlt, _⟩ := h.2 h0
  exact ⟨b, off, e, by omega⟩
theorem SlN.at_ {g : Nat} {w : World} {A : Option Addr} {n c k : Nat} {xs : List Int} (h : SlN g w A n c xs) (hk : k < n) :
    ∃ b off, A = some ⟨b, off, none⟩ ∧ b ≠ g ∧ w.cell? ⟨b, off + k, none⟩ = some (.int .u64 (xs.getD k 0)) := by
  obtain ⟨b, off, e, hlt, hc⟩ := h.1.2 (by omega)
  obtain ⟨b', off', e', hne⟩ := h.2 (by omega)
  rw [e] at e'
  injection e' with e'
  injection e' with e1 e2
  subst e1 e2
  exact ⟨b, off, e, hne, hc k hk⟩
/-- the part from k on; the model keeps the address where nothing can lie behind it -/
theorem Sl.drop {w : World} {b off n c k : Nat} {xs : List Int} (h : Sl w (some ⟨b, off, none⟩) n c xs) (hk : k ≤ n) : Sl w (some ⟨b, off + k, none⟩) (n - k) (c - k) (xs.drop k) := by
  refine ⟨⟨by rw [List.length_drop, h.1.1], by have := h.cap; omega, fun x hx => h.us x (List.mem_of_mem_drop hx)⟩, fun h0 => ?_⟩
  obtain ⟨b', off', e, hlt, hc⟩ := h.2 (by omega)
  injection e with e
  injection e with e1 e2
  subst e1 e2
  refine ⟨b, off + k, rfl, hlt, fun j hj => ?_⟩
  rw [Nat.add_assoc, hc (k + j) (by omega)]
  simp [List.getD_eq_getElem?_getD, List.getElem?_drop]
/-- a part of a row that is known whole -/
theorem Row.part {t : TypeId} {w : World} {g off n c : Nat} {zs : List Int} (h : Row t w g zs) (hd : Dg W zs) (hfit : off + n ≤ zs.length) (hc : n ≤ c) : Sl w (some ⟨g, off, none⟩) n c ((zs.drop off).take n) := by
  refine ⟨⟨by rw [List.length_take, List.length_drop]; omega, hc, fun x hx => U_Dg hd x (List.mem_of_mem_drop (List.mem_of_mem_take hx))⟩, fun h0 => ⟨g, off, rfl, h.lt, fun j hj => ?_⟩⟩
  rw [h.cell (by omega)]
  simp [List.getD_eq_getElem?_getD, List.getElem?_take, List.getElem?_drop, hj]
/-- make([]uint64, n): a block of zeros; the world behind it is a name -/
theorem make_words (w : World) (n : Nat) (hn : n ≤ 1000000000) : ∃ w1, (Instr.makeSlice 49 (.int .i64 (n : Int)) (.int .i64 (n : Int))).run Tryd.prog w = .ok (.slice (some ⟨w.heap.size, 0, none⟩) n n) w1 ∧ Row 22 w1 w.heap.size (List.replicate n 0) ∧ Below w.heap.size w w1 ∧ w.heap.size < w1.heap.size :=
  ⟨_, run_make_row' (P := Tryd.prog) 49 22 (.int .u64 0) 8 Tryd.underlying49 infoW rfl .i64 .i64 n (by omega) (by omega) w, Row.new w 22 n, (Below.refl _ _).alloc (Nat.le_refl _) _, by simp⟩
theorem Keep.setRow {g : Nat} {a w : World} (h : Keep g a w) (cs : Array Value) : Keep g a (w.setRow g cs) :=
  h.trans ⟨rfl, rfl, rfl, by simp [World.setRow], fun k _ hg => setRow_other w g k cs hg⟩
/-- the list zs with xs laid over it from place off on -/
def spl (zs : List Int) (off : Nat) (xs : List Int) : List Int := zs.take off ++ (xs ++ zs.drop (off + xs.length))
theorem length_spl {zs xs : List Int} {off : Nat} (h : off + xs.length ≤ zs.length) : (spl zs off xs).length = zs.length := by
  unfold spl; simp; omega
theorem Dg.spl {b : Nat} {zs xs : List Int} (hz : Dg b zs) (hx : Dg b xs) (off : Nat) : Dg b (spl zs off xs) := (hz.take _).append (hx.append (hz.drop _))
theorem add_none (b off j : Nat) : ((⟨b, off, none⟩ : Addr).add j) = ⟨b, off + j, none⟩ := by
  unfold Addr.add; split
  · subst_vars; rfl
  · rfl
/-- copy of a list of words into a row that is known whole, the whole source fitting -/
theorem wpList_copy_words {P : Program} {w : World} {ops : Array Oper} {rest : List Oper} {o : Oper} {a : Act} {Q : Exit → Act → World → Prop} (hgd : o.guard = none) (d s : Operand) (dT sT : TypeId)
    (ho : o.op = .call { callee := .builtin .copy, args := #[d, s], argTypes := #[dT, sT] }) (t : TypeId) (hu : P.underlying dT = some (.slice t)) (hsz : (P.info? t).map (·.size) = some 1)
    (g off dLen dCap : Nat) (sp : Option Addr) (sLen sCap : Nat) (hd : a.eval d = .slice (some ⟨g, off, none⟩) dLen dCap) (hs : a.eval s = .slice sp sLen sCap)
    (zs xs : List Int) (hr : Row t w g zs) (hsl : Sl w sp sLen sCap xs) (hle : sLen ≤ dLen) (hfit : off + sLen ≤ zs.length)
    (h : ∀ w', Hid (Row t w' g (spl zs off xs)) → Hid (Keep g w w') → wpList P ops Q rest (a.put o.dst (goInt sLen)) w') : wpList P ops Q (o :: rest) a w := by
  have hl : xs.length = sLen := hsl.len.symm
  by_cases h0 : sLen = 0
  · subst h0
    obtain rfl : xs = [] := List.eq_nil_of_length_eq_zero hl
    refine wpList_copy_nothing hgd d s dT sT ho t hu hsz _ sp dLen dCap 0 sCap hd hs (by simp) ?_
    exact h w (show Row t w g (spl zs off []) by unfold spl; simpa using hr) (Keep.refl _ _)
  · obtain ⟨b, off', rfl, _, hc⟩ := hsl.at_ (k := 0) (by omega)
    have e : (xs.map (Value.int .u64)).length = Nat.min sLen dLen := by rw [List.length_map, hl]; exact (Nat.min_eq_left hle).symm
    refine wpList_copy_own hgd d s dT sT ho t hu hsz g off dLen dCap _ sLen sCap hd hs (zs.map (Value.int .u64)).toArray t hr (xs.map (Value.int .u64)) e ?_ (by simp; omega) (ints_oneCell .u64 _) ?_
    · intro j v hv
      have hj : j < xs.length := by have := (List.getElem?_eq_some_iff.1 hv).1; simpa using this
      rw [add_none, hc j (by omega)]
      rw [List.getElem?_map, List.getElem?_eq_getElem hj] at hv
      rw [← hv]
      simp [List.getD_eq_getElem?_getD, List.getElem?_eq_getElem hj]
    · rw [List.length_map, hl]
      refine h _ ?_ ((Keep.refl _ _).setRow _)
      show Row t _ g _
      have := setRow_heap w g (zs.map (Value.int .u64)).toArray ((zs.map (Value.int .u64)).toArray.toList.take off ++ (xs.map (Value.int .u64) ++ (zs.map (Value.int .u64)).toArray.toList.drop (off + sLen))).toArray t (0, 0) hr
      unfold Row spl
      rw [this, hl]
      simp [List.map_take, List.map_drop]
/-- what a call leaves that writes into block g alone: nothing returned, a new list there of which T holds -/
def Wrote (t : TypeId) (g : Nat) (T : List Int → Prop) (w : World) (e : Ending) (w' : World) : Prop := ∃ zs', e = .returned (.tuple #[]) ∧ Row t w' g zs' ∧ Keep g w w' ∧ T zs'
theorem Sl.new {w w' : World} {A : Option Addr} {n c g : Nat} {xs : List Int} (h : Sl w' A n c xs) (hn : New w A) (hg : g < w.heap.size) : SlN g w' A n c xs := by
  refine ⟨h, fun h0 => ?_⟩
  obtain ⟨b, off, e, _, _⟩ := h.2 h0
  exact ⟨b, off, e, by have := hn b off e; omega⟩
/-- a call that returns a slice of n words that say v, in new memory -/
def RetV (n v : Nat) (w : World) (e : Ending) (w' : World) : Prop := ∃ A c zs, e = .returned (.slice A n c) ∧ Sl w' A n c zs ∧ val zs = v ∧ Below w.heap.size w w' ∧ New w A

end Go.Proofs.YtmoahgiklgicgaaDoor

namespace Go.Proofs.YtmoahgiklgicgaaDoor
set_option maxRecDepth 100000
open Go.RowKit
set_option linter.unusedVariables false
set_option linter.unusedSimpArgs false

end Go.Proofs.YtmoahgiklgicgaaDoor

namespace Go.Proofs.YtmoahgiklgicgaaDoor
set_option maxRecDepth 100000
open Go.RowKit
set_option linter.unusedVariables false
set_option linter.unusedSimpArgs false

theorem Below.undrew {w w' : World} (h : Below w.drew.heap.size w.drew w') : Below w.heap.size w w' := ⟨h.os, h.tape, h.output, h.size, h.block⟩
end Go.Proofs.YtmoahgiklgicgaaDoor

namespace Go.Proofs.YtmoahgiklgicgaaDoor
set_option maxRecDepth 100000
open Go.RowKit
set_option linter.unusedVariables false
set_option linter.unusedSimpArgs false

/-- the slot holds a slice of n words that say v; of what was there in w nothing has turned -/
def Made (w : World) (n v : Nat) (s : Value) (wx : World) : Prop := ∃ A c p, s = .slice A n c ∧ Sl wx A n c p ∧ val p = v ∧ Below w.heap.size w wx
/-- .. a slice of at most K words that say v -/
def Some_ (w : World) (K v : Nat) (s : Value) (wx : World) : Prop := ∃ A n c p, s = .slice A n c ∧ n ≤ K ∧ Sl wx A n c p ∧ val p = v ∧ Below w.heap.size w wx

theorem spl_two {p1 p2 : List Int} {N k : Nat} (h1 : p1.length = k) (h2 : k + p2.length = N) : spl (spl (List.replicate N 0) 0 p1) k p2 = p1 ++ p2 := by
  subst h1
  have e1 : spl (List.replicate N 0) 0 p1 = p1 ++ List.replicate (N - p1.length) 0 := by unfold spl; simp
  rw [e1]
  unfold spl
  rw [List.take_append_of_le_length (Nat.le_refl _), List.take_of_length_le (Nat.le_refl _), List.drop_eq_nil_of_le (by simp; omega), List.append_nil]

end Go.Proofs.YtmoahgiklgicgaaDoor

namespace Go.Proofs.YtmoahgiklgicgaaDoor
set_option maxRecDepth 100000
open Go.RowKit
set_option linter.unusedVariables false
set_option linter.unusedSimpArgs false

/-! ### division by a word -/
/-- where a division by a word stands: the words from k on are divided -/
def WdInv (xs : List Int) (d : Int) (k : Nat) (r : Int) (qs : List Int) : Prop :=
  qs.length = xs.length ∧ Dg W qs ∧ (0 ≤ r ∧ r < d) ∧ valB W (qs.drop k) * d.toNat + r.toNat = valB W (xs.drop k)
theorem wdInv_0 (xs : List Int) {d : Int} (hd : 0 < d) : WdInv xs d xs.length 0 (List.replicate xs.length 0) :=
  ⟨by simp, Dg.zeros W_pos _, by omega, by rw [List.drop_eq_nil_of_le (by simp), List.drop_eq_nil_of_le (Nat.le_refl _)]; simp [valB]⟩
theorem valB_drop_set (b : Nat) (qs : List Int) (k : Nat) (hk : k < qs.length) (x : Int) : valB b ((qs.set k x).drop k) = x.toNat + b * valB b (qs.drop (k + 1)) := by
  rw [valB_drop, getD_set_self _ hk, List.drop_set_of_lt (by omega)]
theorem wd_alg (b q d r x t X r' : Nat) (h : q * d + r = X) (e : r * b + x = t * d + r') : (t + b * q) * d + r' = x + b * X := by
  subst h
  have e1 : (t + b * q) * d = t * d + b * (q * d) := by grind
  have e2 : b * (q * d + r) = b * (q * d) + r * b := by grind
  omega
theorem wd_core (b R X D : Nat) (hX : X < b) (hRD : R < D) : (R * b + X) / D < b ∧ (R * b + X) % D < D ∧ R * b + X = (R * b + X) / D * D + (R * b + X) % D := by
  have h1 : (R + 1) * b ≤ D * b := Nat.mul_le_mul_right b hRD
  rw [Nat.add_mul] at h1
  have hD : 0 < D := by omega
  refine ⟨?_, Nat.mod_lt _ hD, ?_⟩
  · rw [Nat.div_lt_iff_lt_mul hD, Nat.mul_comm b D]; omega
  · rw [Nat.mul_comm (_ / D) D]; exact (Nat.div_add_mod _ D).symm
theorem wd_cast (b R X D : Nat) : ((R : Int) * (b : Int) + (X : Int)) / (D : Int) = (((R * b + X) / D : Nat) : Int) ∧ ((R : Int) * (b : Int) + (X : Int)) % (D : Int) = (((R * b + X) % D : Nat) : Int) := by
  constructor <;> push_cast <;> rfl
theorem wd_digit_b (b : Nat) {r x d : Int} (hr : 0 ≤ r) (hrd : r < d) (hx0 : 0 ≤ x) (hx : x < (b : Int)) :
    (0 ≤ (r * (b : Int) + x) / d ∧ (r * (b : Int) + x) / d < (b : Int)) ∧ (0 ≤ (r * (b : Int) + x) % d ∧ (r * (b : Int) + x) % d < d) ∧ r.toNat * b + x.toNat = ((r * (b : Int) + x) / d).toNat * d.toNat + ((r * (b : Int) + x) % d).toNat := by
  obtain ⟨D, rfl⟩ := Int.eq_ofNat_of_zero_le (show 0 ≤ d by omega)
  obtain ⟨R, rfl⟩ := Int.eq_ofNat_of_zero_le hr
  obtain ⟨X, rfl⟩ := Int.eq_ofNat_of_zero_le hx0
  have c := wd_core b R X D (by omega) (by omega)
  have e := wd_cast b R X D
  rw [e.1, e.2]
  clear e
  generalize (R * b + X) / D = Q at *
  generalize (R * b + X) % D = M at *
  obtain ⟨c1, c2, c3⟩ := c
  refine ⟨⟨by omega, by omega⟩, ⟨by omega, by omega⟩, ?_⟩
  simp only [Int.toNat_natCast]
  exact c3
theorem W_int : ((W : Nat) : Int) = 18446744073709551616 := by unfold W; rfl
theorem wd_digit {r x d : Int} (hr : 0 ≤ r) (hrd : r < d) (hx : U x) :
    U ((r * 18446744073709551616 + x) / d) ∧ (0 ≤ (r * 18446744073709551616 + x) % d ∧ (r * 18446744073709551616 + x) % d < d) ∧ r.toNat * W + x.toNat = ((r * 18446744073709551616 + x) / d).toNat * d.toNat + ((r * 18446744073709551616 + x) % d).toNat := by
  have h := wd_digit_b W hr hrd hx.1 (by rw [W_int]; exact hx.2)
  rw [W_int] at h
  exact h
theorem wdInv_step {xs qs : List Int} {d r t r' : Int} {k : Nat} (h : WdInv xs d (k + 1) r qs) (hk : k < xs.length) (ht : U t) (hr' : 0 ≤ r' ∧ r' < d)
    (e : r.toNat * W + (xs.getD k 0).toNat = t.toNat * d.toNat + r'.toNat) : WdInv xs d k r' (qs.set k t) := by
  obtain ⟨h1, h2, h3, h4⟩ := h
  refine ⟨by rw [List.length_set, h1], h2.set _ ht.1 (by have := ht.2; unfold W; omega), hr', ?_⟩
  rw [valB_drop_set _ _ _ (by omega), valB_drop W xs k]
  exact wd_alg _ _ _ _ _ _ _ _ h4 e
theorem wdInv_end {xs qs : List Int} {d r : Int} (h : WdInv xs d 0 r qs) : val qs = val xs / d.toNat ∧ r.toNat = val xs % d.toNat := by
  obtain ⟨h1, h2, h3, h4⟩ := h
  simp only [List.drop_zero] at h4
  have hd : 0 < d.toNat := by omega
  have hr : r.toNat < d.toNat := by omega
  unfold val
  rw [← h4, Nat.mul_comm]
  exact ⟨by rw [Nat.mul_add_div hd, Nat.div_eq_of_lt hr, Nat.add_zero], by rw [Nat.mul_add_mod, Nat.mod_eq_of_lt hr]⟩

/-! ### digits of a long quotient -/
/-- where a long division stands: the digits from k on are found; us is what is left -/
def DivInv (A V n m k : Nat) (us qs : List Int) : Prop :=
  (us.length = m + n ∧ Dg W us) ∧ (qs.length = m ∧ Dg W qs) ∧ valB W qs * V + valB W us = A ∧ (∀ j, j < k → qs.getD j 0 = 0) ∧ valB W (us.drop k) < V
theorem divInv_0 {A V n m : Nat} {us : List Int} (h1 : us.length = m + n) (h2 : Dg W us) (h3 : valB W us = A) (h4 : A < W ^ m * V) : DivInv A V n m m us (List.replicate m 0) := by
  refine ⟨⟨h1, h2⟩, ⟨by simp, Dg.zeros W_pos _⟩, by rw [valB_zeros]; omega, fun j _ => getD_zeros _ j, ?_⟩
  rw [← valB_div W_pos h2, h3]
  rw [Nat.div_lt_iff_lt_mul (Nat.pow_pos W_pos), Nat.mul_comm]
  exact h4
theorem div_part {A V n m i : Nat} {us qs : List Int} (h : DivInv A V n m (i + 1) us qs) (hV : V ≤ W ^ n) (hi : i < m) :
    ((us.drop i).take (n + 1)).length = n + 1 ∧ valB W (us.drop (i + (n + 1))) = 0 ∧ valB W (us.drop i) = val ((us.drop i).take (n + 1)) ∧ val ((us.drop i).take (n + 1)) < W * V := by
  obtain ⟨⟨h1, h2⟩, h3, h4, h5, h6⟩ := h
  have e0 := valB_split W (us.drop (i + 1)) n
  rw [List.drop_drop] at e0
  have z : valB W (us.drop (i + 1 + n)) = 0 := by
    rcases Nat.eq_zero_or_pos (valB W (us.drop (i + 1 + n))) with z | z
    · exact z
    · exfalso
      have : W ^ n * 1 ≤ W ^ n * valB W (us.drop (i + 1 + n)) := Nat.mul_le_mul_left _ z
      omega
  have e1 := valB_split W (us.drop i) (n + 1)
  rw [List.drop_drop, show i + (n + 1) = i + 1 + n by omega, z, Nat.mul_zero, Nat.add_zero] at e1
  have e2 := valB_drop W us i
  have hu := h2.at_ W_pos i
  refine ⟨by rw [List.length_take, List.length_drop]; omega, by rw [show i + (n + 1) = i + 1 + n by omega]; exact z, e1, ?_⟩
  unfold val
  rw [← e1, e2]
  have : W * (valB W (us.drop (i + 1)) + 1) ≤ W * V := Nat.mul_le_mul_left _ h6
  rw [Nat.mul_add] at this
  omega
/-- part of a list was replaced by a number -/
def Replaced (zs : List Int) (off L v : Nat) (ys : List Int) : Prop :=
  ys.length = zs.length ∧ Dg W ys ∧ ys.take off = zs.take off ∧ ys.drop (off + L) = zs.drop (off + L) ∧ valB W ((ys.drop off).take L) = v
theorem div_alg (q V T p r t D : Nat) {A Q : Nat} (h : q * V + (T + D * p) = A) (hp : p = t * V + r) (hQ : Q = q + D * t) : Q * V + (T + D * r) = A := by
  subst hQ hp h
  grind
theorem divInv_step {A V n m i p : Nat} {us qs ys : List Int} {t : Nat} (h : DivInv A V n m (i + 1) us qs) (hV : V ≤ W ^ n) (hi : i < m) (hp : p = val ((us.drop i).take (n + 1)))
    (ht : t = p / V) (hV0 : 0 < V) (hr : Replaced us i (n + 1) (p % V) ys) : DivInv A V n m i ys (qs.set i (t : Int)) ∧ t < W := by
  have hpart := div_part h hV hi
  obtain ⟨⟨h1, h2⟩, ⟨h3, h3'⟩, h4, h5, h6⟩ := h
  obtain ⟨r1, r2, r3, r4, r5⟩ := hr
  obtain ⟨p1, p2, p3, p4⟩ := hpart
  rw [← hp] at p3 p4
  have htW : t < W := by rw [ht, Nat.div_lt_iff_lt_mul hV0]; exact p4
  have ed : valB W (ys.drop i) = p % V := by
    rw [valB_split W (ys.drop i) (n + 1), r5, List.drop_drop, r4, p2]; omega
  refine ⟨⟨⟨by rw [r1, h1], r2⟩, ⟨by rw [List.length_set, h3], h3'.set _ (by omega) (by omega)⟩, ?_, fun j hj => ?_, ?_⟩, htW⟩
  · have e1 := valB_split W us i
    have e2 := valB_split W ys i
    rw [r3, ed] at e2
    rw [p3] at e1
    have hq := set_val W qs i (by omega) t (h5 i (by omega))
    rw [e2]
    rw [e1] at h4
    have hdm := Nat.div_add_mod p V
    exact div_alg _ _ _ _ _ _ _ h4 (by rw [ht, Nat.mul_comm]; exact hdm.symm) hq
  · rw [getD_set_ne _ (by omega)]
    exact h5 j (by omega)
  · rw [ed]; exact Nat.mod_lt _ hV0
/-- an estimate from the two highest words and the highest one of the divisor is not too small -/
theorem est_ge {ps vs : List Int} {n : Nat} (hp : ps.length = n + 1) (hdp : Dg W ps) (hv : vs.length = n) (hdv : Dg W vs) (hn : 1 ≤ n) (h0 : 0 < (vs.getD (n - 1) 0).toNat) :
    val ps / val vs ≤ ((ps.getD n 0).toNat * W + (ps.getD (n - 1) 0).toNat) / (vs.getD (n - 1) 0).toNat := by
  have e1 : val ps / W ^ (n - 1) = (ps.getD n 0).toNat * W + (ps.getD (n - 1) 0).toNat := by
    unfold val
    rw [valB_div W_pos hdp, valB_drop, show n - 1 + 1 = n by omega, valB_drop, List.drop_eq_nil_of_le (by omega)]
    simp [valB]
    rw [Nat.mul_comm]
    omega
  have e2 : W ^ (n - 1) * (vs.getD (n - 1) 0).toNat ≤ val vs := by
    unfold val
    rw [valB_split W vs (n - 1), valB_drop, show n - 1 + 1 = n by omega, List.drop_eq_nil_of_le (by omega)]
    simp [valB]
  rw [← e1, Nat.div_div_eq_div_mul]
  exact Nat.div_le_div_left e2 (Nat.mul_pos (Nat.pow_pos W_pos) h0)
/-- the divisor and the dividend, shifted -/
theorem norm_div {a b n la s : Nat} (hb : W ^ (n - 1) * 2 ^ (63 - s) ≤ b) (hb2 : b < W ^ (n - 1) * 2 ^ (64 - s)) (hn : 1 ≤ n) (hs : s ≤ 63) (ha : a < W ^ la) (hla : n ≤ la) :
    W ^ (n - 1) ≤ b * 2 ^ s ∧ b * 2 ^ s ≤ W ^ n ∧ b * 2 ^ s < W ^ n ∧ a * 2 ^ s < W ^ (la + 1) ∧ a * 2 ^ s < W ^ (la - n + 1) * (b * 2 ^ s) := by
  have p0 : 0 < 2 ^ s := Nat.two_pow_pos s
  have e1 : W ^ (n - 1) * 2 ^ 63 ≤ b * 2 ^ s := by
    have := Nat.mul_le_mul_right (2 ^ s) hb
    rw [Nat.mul_assoc, ← Nat.pow_add, show 63 - s + s = 63 by omega] at this
    exact this
  have e2 : b * 2 ^ s < W ^ n := by
    have := Nat.mul_lt_mul_of_pos_right hb2 p0
    rw [Nat.mul_assoc, ← Nat.pow_add, show 64 - s + s = 64 by omega, ← W_pow, ← Nat.pow_succ, show (n - 1).succ = n by omega] at this
    exact this
  have hs2 : 2 ^ s ≤ 2 ^ 63 := Nat.pow_le_pow_right (by omega) hs
  have e3 : a * 2 ^ s < W ^ la * 2 ^ 63 := by
    have h1 : a * 2 ^ s < W ^ la * 2 ^ s := Nat.mul_lt_mul_of_pos_right ha p0
    have h2 : W ^ la * 2 ^ s ≤ W ^ la * 2 ^ 63 := Nat.mul_le_mul_left _ hs2
    omega
  refine ⟨Nat.le_trans ?_ e1, Nat.le_of_lt e2, e2, ?_, ?_⟩
  · exact Nat.le_mul_of_pos_right _ (by decide)
  · rw [Nat.pow_succ]
    have : W ^ la * 2 ^ 63 ≤ W ^ la * W := Nat.mul_le_mul_left _ (by decide)
    omega
  · have : W ^ la * 2 ^ 63 ≤ W ^ (la - n + 1) * (b * 2 ^ s) := by
      have h1 := Nat.mul_le_mul_left (W ^ (la - n + 1)) e1
      rw [← Nat.mul_assoc, ← Nat.pow_add, show la - n + 1 + (n - 1) = la by omega] at h1
      exact h1
    omega
theorem div_end {A V n m a b s : Nat} {us qs : List Int} (h : DivInv A V n m 0 us qs) (hA : A = a * 2 ^ s) (hV : V = b * 2 ^ s) : val qs = a / b ∧ val us / 2 ^ s = a % b := by
  obtain ⟨_, _, h4, _, h6⟩ := h
  simp only [List.drop_zero] at h6
  have p0 : 0 < 2 ^ s := Nat.two_pow_pos s
  unfold val
  rw [Nat.mul_comm] at h4
  have hq : valB W qs = A / V := by rw [← h4, Nat.mul_add_div (by omega), Nat.div_eq_of_lt h6, Nat.add_zero]
  have hr : valB W us = A % V := by rw [← h4, Nat.mul_add_mod, Nat.mod_eq_of_lt h6]
  rw [hq, hr, hA, hV, Nat.mul_div_mul_right _ _ p0, Nat.mul_mod_mul_right, Nat.mul_div_cancel _ p0]
  exact ⟨rfl, rfl⟩
/-- the highest word of a normalized list, and how far it can be shifted -/
theorem top_word {xs : List Int} (hd : Dg W xs) {n : Nat} (hl : xs.length = n) (hn : 1 ≤ n) (h0 : xs.getD (n - 1) 0 ≠ 0) :
    ∃ s, s ≤ 63 ∧ blen (xs.getD (n - 1) 0).toNat + s = 64 ∧ W ^ (n - 1) * 2 ^ (63 - s) ≤ val xs ∧ val xs < W ^ (n - 1) * 2 ^ (64 - s) := by
  have ht := hd.at_ W_pos (n - 1)
  generalize e : (xs.getD (n - 1) 0).toNat = x
  have hx0 : 0 < x := by omega
  have hxW : x < 2 ^ 64 := by rw [← W_pow]; omega
  have b1 := blen_le hxW
  have b2 := blen_pos hx0
  have b3 := blen_lt x
  have b4 := blen_self hx0
  refine ⟨64 - blen x, by omega, by omega, ?_, ?_⟩
  all_goals
    have e1 := valB_split W xs (n - 1)
    rw [valB_drop, show n - 1 + 1 = n by omega, List.drop_eq_nil_of_le (by omega), e] at e1
    have hz : valB W [] = 0 := rfl
    rw [hz, Nat.mul_zero, Nat.add_zero] at e1
    have e2 := valB_take_lt W_pos hd (n - 1)
    unfold val
    rw [e1]
  · rw [show 63 - (64 - blen x) = blen x - 1 by omega]
    have := Nat.mul_le_mul_left (W ^ (n - 1)) b4
    omega
  · rw [show 64 - (64 - blen x) = blen x by omega]
    have := Nat.mul_le_mul_left (W ^ (n - 1)) (show x + 1 ≤ 2 ^ blen x by omega)
    rw [Nat.mul_add] at this
    omega
theorem words_len_ge {v k : Nat} (h : W ^ k ≤ v) : k + 1 ≤ (words v).length := by
  rcases Nat.lt_or_ge (words v).length (k + 1) with hl | hl
  · exfalso
    have h1 := valB_lt (words_Dg v)
    have h2 : valB W (words v) = v := val_words v
    have h3 : W ^ (words v).length ≤ W ^ k := Nat.pow_le_pow_right W_pos (by omega)
    omega
  · exact hl

/-! ### roots -/
/-- the root of a number, rounded down -/
def rt : Nat → Nat
  | 0 => 0
  | a + 1 => if (rt a + 1) * (rt a + 1) ≤ a + 1 then rt a + 1 else rt a
theorem sq_succ (r : Nat) : (r + 1) * (r + 1) = r * r + 2 * r + 1 := by grind
theorem rt_spec (a : Nat) : rt a * rt a ≤ a ∧ a < (rt a + 1) * (rt a + 1) := by
  induction a with
  | zero => simp [rt]
  | succ a ih =>
    unfold rt
    split
    · rename_i h
      refine ⟨h, ?_⟩
      have := sq_succ (rt a)
      have := sq_succ (rt a + 1)
      omega
    · rename_i h
      exact ⟨by omega, by omega⟩
theorem rt_unique {a r : Nat} (h1 : r * r ≤ a) (h2 : a < (r + 1) * (r + 1)) : rt a = r := by
  obtain ⟨g1, g2⟩ := rt_spec a
  rcases Nat.lt_trichotomy (rt a) r with h | h | h
  · exfalso
    have := Nat.mul_le_mul (show rt a + 1 ≤ r by omega) (show rt a + 1 ≤ r by omega)
    omega
  · exact h
  · exfalso
    have := Nat.mul_le_mul (show r + 1 ≤ rt a by omega) (show r + 1 ≤ rt a by omega)
    omega
theorem rt_pos {a : Nat} (h : 0 < a) : 0 < rt a := by
  rcases Nat.eq_zero_or_pos (rt a) with e | e
  · have := (rt_spec a).2; rw [e] at this; omega
  · exact e
theorem newton_ge {a x : Nat} (hx : 0 < x) : rt a ≤ (x + a / x) / 2 := by
  obtain ⟨g1, _⟩ := rt_spec a
  generalize rt a = s at *
  rcases Nat.lt_or_ge (2 * s) x with h | h
  · generalize a / x = q
    omega
  · have k : 2 * s - x ≤ a / x := by
      rw [Nat.le_div_iff_mul_le hx]
      refine Nat.le_trans ?_ g1
      obtain ⟨d, hd⟩ : ∃ d, 2 * s = x + d := ⟨2 * s - x, by omega⟩
      rw [show 2 * s - x = d by omega]
      have e4 : (x + d) * (x + d) = 4 * (s * s) := by rw [← hd]; grind
      have e5 : (x + d) * (x + d) = x * x + d * d + 2 * (d * x) := by grind
      rcases Nat.le_total x d with hle | hle
      · obtain ⟨c, rfl⟩ : ∃ c, d = x + c := ⟨d - x, by omega⟩
        have e6 : (x + c) * (x + c) = x * x + c * c + 2 * (c * x) := by grind
        have e7 : (x + c) * x = x * x + c * x := by grind
        omega
      · obtain ⟨c, rfl⟩ : ∃ c, x = d + c := ⟨x - d, by omega⟩
        have e6 : (d + c) * (d + c) = d * d + c * c + 2 * (c * d) := by grind
        have e7 : d * (d + c) = d * d + c * d := by grind
        omega
    generalize a / x = q at *
    omega
theorem newton_stop {a x : Nat} (hx : 0 < x) (hge : rt a ≤ x) (h : x ≤ (x + a / x) / 2) : x = rt a := by
  have h1 : x ≤ a / x := by omega
  rw [Nat.le_div_iff_mul_le hx] at h1
  obtain ⟨g1, g2⟩ := rt_spec a
  rcases Nat.lt_or_ge (rt a) x with hl | hl
  · exfalso
    have := Nat.mul_le_mul (show rt a + 1 ≤ x by omega) (show rt a + 1 ≤ x by omega)
    omega
  · omega
theorem rt_start {a k : Nat} (h : a < 2 ^ (2 * k)) : rt a ≤ 2 ^ k := by
  obtain ⟨g1, _⟩ := rt_spec a
  rcases Nat.lt_or_ge (2 ^ k) (rt a) with hl | hl
  · exfalso
    have := Nat.mul_le_mul (Nat.le_of_lt hl) (Nat.le_of_lt hl)
    rw [← Nat.pow_add, show k + k = 2 * k by omega] at this
    omega
  · exact hl
theorem rt_sq (a : Nat) : rt (a * a) = a := rt_unique (Nat.le_refl _) (by have := sq_succ a; omega)

end Go.Proofs.YtmoahgiklgicgaaDoor

namespace Go.Proofs.YtmoahgiklgicgaaDoor
set_option maxRecDepth 100000
open Go.RowKit
set_option linter.unusedVariables false
set_option linter.unusedSimpArgs false

/-- a call that returns a number, a word and true -/
def RetQW (q : Nat) (r : Int) (w : World) (e : Ending) (w' : World) : Prop := ∃ A n c, e = .returned (.tuple #[.slice A n c, .int .u64 r, .bool true]) ∧ Sl w' A n c (words q) ∧ Below w.heap.size w w'

theorem RetQW.of {q n c : Nat} {A : Option Addr} {r r' : Int} {w w' : World} (hr : r' = r) (hs : Sl w' A n c (words q)) (hb : Below w.heap.size w w') : RetQW q r w (.returned (.tuple #[.slice A n c, .int .u64 r', .bool true])) w' := by
  subst hr; exact ⟨A, n, c, rfl, hs, hb⟩

/-- .. in new memory -/
def RetQWN (q : Nat) (r : Int) (w : World) (e : Ending) (w' : World) : Prop := ∃ A n c, e = .returned (.tuple #[.slice A n c, .int .u64 r, .bool true]) ∧ Sl w' A n c (words q) ∧ Below w.heap.size w w' ∧ New w A
theorem RetQWN.of {q n c : Nat} {A : Option Addr} {r r' : Int} {w w' : World} (hr : r' = r) (hs : Sl w' A n c (words q)) (hb : Below w.heap.size w w') (hn : New w A) : RetQWN q r w (.returned (.tuple #[.slice A n c, .int .u64 r', .bool true])) w' := by
  subst hr; exact ⟨A, n, c, rfl, hs, hb, hn⟩

theorem quot_of_rem {q d r : Nat} (h : r < d) : (q * d + r) / d = q := by rw [Nat.mul_comm, Nat.mul_add_div (by omega), Nat.div_eq_of_lt h, Nat.add_zero]
/-- a call that returns a word that is at least t -/
def Est (t : Nat) (w : World) (e : Ending) (w' : World) : Prop := ∃ (q : Int) (k : Nat), e = .returned (.int .u64 q) ∧ U q ∧ t ≤ q.toNat ∧ w' = w.drewN k

theorem spl_set (zs : List Int) (o k : Nat) (ho : o < zs.length) : spl (zs.set o 0) (o + 1) (List.replicate k 0) = spl zs o (List.replicate (k + 1) 0) := by
  unfold spl
  rw [List.take_succ_eq_append_getElem (by rw [List.length_set]; exact ho), List.getElem_set_self, List.take_set_of_le (Nat.le_refl _), List.drop_set_of_lt (by omega), List.replicate_succ, List.length_cons, List.length_replicate,
    show o + 1 + k = o + (k + 1) by omega]
  simp
theorem Row.zeros {t : TypeId} {g : Nat} (k : Nat) : ∀ {w : World} {zs : List Int} {o : Nat}, Row t w g zs → o + k ≤ zs.length → Row t (w.setCells g o (List.replicate k (.int .u64 0))) g (spl zs o (List.replicate k 0)) := by
  induction k with
  | zero => intro w zs o h hk; unfold spl; simpa [World.setCells] using h
  | succ k ih =>
    intro w zs o h hk
    rw [← spl_set zs o k (by omega)]
    exact ih (h.set o 0) (by rw [List.length_set]; omega)
theorem Keep.zeros {g : Nat} {a : World} (k : Nat) : ∀ {w : World} {o : Nat}, Keep g a w → Keep g a (w.setCells g o (List.replicate k (.int .u64 0))) := by
  induction k with
  | zero => intro w o h; exact h
  | succ k ih => intro w o h; exact ih (h.setCell o _)
theorem zeroW (w : World) : (zeroValue 22).run Tryd.prog w = .ok (.int .u64 0) w := by kernel_rfl
theorem replaced_spl {zs xs : List Int} {off L m : Nat} (hd : Dg W zs) (hx : Dg W xs) (hm : xs.length = m) (hml : m ≤ L) (hfit : off + L ≤ zs.length) :
    Replaced zs off L (val xs) (spl (spl zs off xs) (off + m) (List.replicate (L - m) 0)) := by
  have l1 : (spl zs off xs).length = zs.length := length_spl (by omega)
  have e1 : (spl zs off xs).take (off + m) = zs.take off ++ xs := by
    unfold spl
    rw [← List.append_assoc, List.take_append_of_le_length (by simp; omega), List.take_of_length_le (by simp; omega)]
  have e2 : (spl zs off xs).drop (off + L) = zs.drop (off + L) := by
    unfold spl
    rw [← List.append_assoc, List.drop_append, List.drop_eq_nil_of_le (by simp; omega), List.drop_drop]
    have hl : (List.take off zs ++ xs).length = off + m := by simp; omega
    rw [hl, hm, List.nil_append]
    congr 1
    omega
  have e3 : spl (spl zs off xs) (off + m) (List.replicate (L - m) 0) = zs.take off ++ (xs ++ List.replicate (L - m) 0) ++ zs.drop (off + L) := by
    rw [spl, e1, List.length_replicate, show off + m + (L - m) = off + L by omega, e2]
    simp [List.append_assoc]
  have l4 : (List.take off zs).length = off := by simp; omega
  have l5 : (xs ++ List.replicate (L - m) (0 : Int)).length = L := by simp; omega
  rw [e3]
  refine ⟨by simp; omega, ((hd.take _).append (hx.append (Dg.zeros W_pos _))).append (hd.drop _), ?_, ?_, ?_⟩
  · rw [List.append_assoc, List.take_append_of_le_length (by omega), List.take_of_length_le (by omega)]
  · rw [List.drop_append, List.drop_eq_nil_of_le (by rw [List.length_append, l4, l5]; omega), List.length_append, l4, l5]
    simp
  · rw [List.append_assoc, List.drop_append, List.drop_eq_nil_of_le (by omega), l4, Nat.sub_self, List.drop_zero, List.nil_append, List.take_append_of_le_length (by omega), List.take_of_length_le (by omega), valB_over]
    rfl

end Go.Proofs.YtmoahgiklgicgaaDoor

namespace Go.Proofs.YtmoahgiklgicgaaDoor
set_option maxRecDepth 100000
open Go.RowKit
set_option linter.unusedVariables false
set_option linter.unusedSimpArgs false

/-- the number in a cell -/
def cellInt : Option Value → Int
  | some (.int _ z) => z
  | _ => 0
/-- the n words from place off of block b on -/
def readAt (w : World) (b off n : Nat) : List Int := (List.range n).map fun j => cellInt (w.cell? ⟨b, off + j, none⟩)
/-- the number that a slot's slice says: for a loop's measure -/
def mesV (v : Value) (w : World) : Nat :=
  match v with
  | .slice (some ⟨b, off, none⟩) n _ => val (readAt w b off n)
  | _ => 0
theorem mesV_eq {w : World} {A : Option Addr} {n c X : Nat} (h : Sl w A n c (words X)) : mesV (.slice A n c) w = X := by
  rcases Nat.eq_zero_or_pos n with h0 | h0
  · subst h0
    have e : words X = [] := List.eq_nil_of_length_eq_zero h.len.symm
    have hX : X = 0 := by rw [← val_words X, e]; rfl
    rw [hX]
    unfold mesV
    split
    · rename_i b off n' c' heq
      injection heq with _ e2
      subst e2
      rfl
    · rfl
  · obtain ⟨b, off, rfl, _, hc⟩ := h.at_ (k := 0) h0
    show val (readAt w b off n) = X
    have e : readAt w b off n = words X := by
      unfold readAt
      apply List.ext_getElem
      · rw [List.length_map, List.length_range]; exact h.len
      · intro i h1 h2
        rw [List.length_map, List.length_range] at h1
        rw [List.getElem_map, List.getElem_range, hc i h1]
        simp [cellInt, List.getD_eq_getElem?_getD, List.getElem?_eq_getElem h2]
    rw [e, val_words]
/-- a call that returns two numbers -/
def RetQR (q r : Nat) (w : World) (e : Ending) (w' : World) : Prop := ∃ A n c A' n' c', e = .returned (.tuple #[.slice A n c, .slice A' n' c']) ∧ Sl w' A n c (words q) ∧ Sl w' A' n' c' (words r) ∧ Below w.heap.size w w'

/-- a call that returns two numbers and a bool -/
def RetDiv (q r : Nat) (ok : Bool) (w : World) (e : Ending) (w' : World) : Prop := ∃ A n c A' n' c', e = .returned (.tuple #[.slice A n c, .slice A' n' c', .bool ok]) ∧ Sl w' A n c (words q) ∧ Sl w' A' n' c' (words r) ∧ Below w.heap.size w w'
theorem val_short {ys : List Int} (hd : Dg W ys) (h : sz ys ≤ 1) : val ys = (ys.getD 0 0).toNat := by
  have e := valB_take_sz W ys h
  unfold val
  rw [← e, show (1 : Nat) = 0 + 1 from rfl, valB_take_succ]
  simp [valB]
theorem val_long {ys : List Int} (hd : Dg W ys) (h : 1 < sz ys) : 2 ≤ (words (val ys)).length ∧ 0 < val ys := by
  rw [words_val hd, length_trim]
  refine ⟨h, ?_⟩
  rcases Nat.eq_zero_or_pos (val ys) with e | e
  · have := (valB_zero_iff W_pos hd).1 e; omega
  · exact e

end Go.Proofs.YtmoahgiklgicgaaDoor

namespace Go.Proofs.YtmoahgiklgicgaaDoor
set_option maxRecDepth 100000
open Go.RowKit
set_option linter.unusedVariables false
set_option linter.unusedSimpArgs false

theorem U_nat {x : Nat} (h : x < 18446744073709551616) : U (x : Int) := by unfold U; omega
theorem two_words (k : Nat) : (List.replicate (k / 64 + 1) (0 : Int)).set (k / 64) ((2 ^ (k % 64) : Nat) : Int) = words (2 ^ k) := by
  have hp : 2 ^ (k % 64) < W := by
    rw [W_pow]; exact Nat.pow_lt_pow_right (by omega) (Nat.mod_lt _ (by omega))
  have h0 : 0 < 2 ^ (k % 64) := Nat.two_pow_pos _
  generalize hx : 2 ^ (k % 64) = x at *
  have hd : Dg W ((List.replicate (k / 64 + 1) (0 : Int)).set (k / 64) (x : Int)) := (Dg.zeros W_pos _).set _ (by omega) (by omega)
  have hv : val ((List.replicate (k / 64 + 1) (0 : Int)).set (k / 64) (x : Int)) = 2 ^ k := by
    unfold val
    rw [set_val W _ _ (by simp) x (getD_zeros _ _), valB_zeros, ← hx, pow_shift]
    omega
  have hs : sz ((List.replicate (k / 64 + 1) (0 : Int)).set (k / 64) (x : Int)) = k / 64 + 1 := by
    refine sz_unique _ _ (fun j hj => ?_) (.inr ?_)
    · rw [getD_set_ne _ (by omega)]; exact getD_zeros _ _
    · rw [Nat.add_sub_cancel, getD_set_self _ (by simp)]; omega
  rw [← hv, words_val hd, trim, hs, List.take_of_length_le (by simp)]

theorem half_add {a b k : Nat} (ha : a < W ^ k) (hb : b < W ^ k) : (a + b) / 2 < W ^ k := by omega

end Go.Proofs.YtmoahgiklgicgaaDoor
