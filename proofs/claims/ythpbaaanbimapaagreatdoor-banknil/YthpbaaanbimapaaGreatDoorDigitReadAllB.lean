/-
  Operations of a bank of the mode Line. Conditions: as each lemma says.
-/
import Derived.Test.YthpbaaanbimapaaGreatDoorBkOwnAllB
import Derived.Test.YthpbaaanbimapaaGreatDoorGcdMathAllB
import Derived.Test.YthpbaaanbimapaaGreatDoorRatMulAllB
import Derived.Test.YthpbaaanbimapaaGreatDoorRatRunAllB
namespace Go.Proofs.YthpbaaanbimapaaGreatDoor
set_option maxRecDepth 100000
open Go.RowKit
set_option linter.unusedVariables false
set_option linter.unusedSimpArgs false

/-- the digits so far -/
def DigTo (s : ByteArray) (k : Nat) : Prop := ∀ j (hj : j < s.size), j < k → 48 ≤ s[j].toNat ∧ s[j].toNat ≤ 57
theorem DigTo.step {s : ByteArray} {k : Nat} (h : DigTo s k) (hk : k < s.size) (h1 : ¬ s[k].toNat < 48) (h2 : ¬ 57 < s[k].toNat) : DigTo s (k + 1) := fun j hj hjk => by
  by_cases e : j = k
  · subst e; omega
  · exact h j hj (by omega)


end Go.Proofs.YthpbaaanbimapaaGreatDoor

namespace Go.Proofs.YthpbaaanbimapaaGreatDoor
set_option maxRecDepth 100000
open Go.RowKit
set_option linter.unusedVariables false
set_option linter.unusedSimpArgs false

/-- whether a text is a number's -/
def numB (l : List UInt8) : Bool := !l.isEmpty && (!(l.head? == some 48) || l == [48]) && l.all fun c => decide (48 ≤ c.toNat ∧ c.toNat ≤ 57)
/-- the number that is read, and the error's number -/
def rdv (l : List UInt8) : Nat := if decide (l.length ≤ 400) && numB l then rd l else 0
def rde (l : List UInt8) : Int := if 400 < l.length then 3 else if numB l then 0 else 2
/-- a call that returns the number of a text, or why it is none -/
def RetRd (l : List UInt8) (w : World) (e : Ending) (w' : World) : Prop := ∃ A n c, e = .returned (.tuple #[.slice A n c, .int .i64 (rde l)]) ∧ Sl w' A n c (words (rdv l)) ∧ Below w.heap.size w w'
theorem RetRd.of {l : List UInt8} {w w' : World} {A : Option Addr} {n c v : Nat} {x : Int} (h : rdv l = v ∧ rde l = x) (s : Sl w' A n c (words v)) (b : Below w.heap.size w w') : RetRd l w (.returned (.tuple #[.slice A n c, .int .i64 x])) w' := by
  obtain ⟨rfl, rfl⟩ := h
  exact ⟨A, n, c, rfl, s, b⟩
end Go.Proofs.YthpbaaanbimapaaGreatDoor

namespace Go.Proofs.YthpbaaanbimapaaGreatDoor
set_option maxRecDepth 100000
set_option linter.unusedVariables false
set_option linter.unusedSimpArgs false

/-- what precedes the first / and what follows it -/
def above (l : List UInt8) : List UInt8 := l.takeWhile (· != 47)
def behind (l : List UInt8) : List UInt8 := if l.contains 47 then (l.dropWhile (· != 47)).drop 1 else [49]
end Go.Proofs.YthpbaaanbimapaaGreatDoor

namespace Go.Proofs.YthpbaaanbimapaaGreatDoor
set_option maxRecDepth 100000
open Go.RowKit
set_option linter.unusedVariables false
set_option linter.unusedSimpArgs false

end Go.Proofs.YthpbaaanbimapaaGreatDoor

namespace Go.Proofs.YthpbaaanbimapaaGreatDoor
set_option maxRecDepth 100000
open Go.RowKit
set_option linter.unusedVariables false
set_option linter.unusedSimpArgs false

end Go.Proofs.YthpbaaanbimapaaGreatDoor

namespace Go.Proofs.YthpbaaanbimapaaGreatDoor
set_option maxRecDepth 100000
open Go.RowKit
set_option linter.unusedVariables false
set_option linter.unusedSimpArgs false

theorem SlQ.tail {w : World} {b off l f : Nat} {Xs : List Rat} (h : SlQ w (some ⟨b, off, none⟩) l f Xs) (h0 : 0 < l) : SlQ w (some ⟨b, off + 3, none⟩) (l - 1) (f - 1) (Xs.drop 1) := by
  obtain ⟨xs, h1, h2, h3⟩ := h
  have hl := h1.1.1
  obtain ⟨b', off', e, hlt, hc⟩ := h1.2 h0
  injection e with e
  injection e with e1 e2
  subst e1 e2
  refine ⟨xs.drop 1, ⟨⟨by rw [List.length_drop, hl], by have := h1.1.2.1; omega, by have := h1.1.2.2.1; omega, fun x hx => h1.1.2.2.2 x (List.mem_of_mem_drop hx)⟩, fun h9 => ⟨b, off + 3, rfl, hlt, fun j hj i hi => ?_⟩⟩, by rw [List.length_drop, List.length_drop, h2], fun j x hx => ?_⟩
  · have := hc (j + 1) (by omega) i hi
    rw [List.getElem?_drop, Nat.add_comm 1 j, ← this]
    congr 2
    omega
  · rw [List.getElem?_drop] at hx
    have := h3 _ x hx
    rw [List.getD_eq_getElem?_getD, List.getElem?_drop, ← List.getD_eq_getElem?_getD]
    exact this

end Go.Proofs.YthpbaaanbimapaaGreatDoor

namespace Go.Proofs.YthpbaaanbimapaaGreatDoor
set_option maxRecDepth 100000
open Go.RowKit
set_option linter.unusedVariables false
set_option linter.unusedSimpArgs false

theorem Box.setOther {t : TypeId} {w : World} {g g' : Nat} {vs : Array Value} (h : Box t w g vs) (hne : g ≠ g') (i : Nat) (x : Value) : Box t (w.setCell ⟨g', i, none⟩ x) g vs := (((Keep.refl g' w).setCell i x).block g h.lt hne).trans h
set_option maxRecDepth 100000 in
set_option maxHeartbeats 4000000 in
theorem bk_write {w : World} {F : List Nat} {g : Nat} {b : PB} {op a c : Int} {q : RQ} (h : Bk w F g b) (hp : RI.tight w ⟨op, a, c, q⟩) (hl : b.prog.length < 65536) :
    Calls Tryz.prog 51 #[.pointer (some ⟨g, 0, none⟩), .agg #[.int .i64 op, .int .i64 a, .int .i64 c, .bool q.s, .slice q.A q.n q.c, .slice q.A' q.n' q.c']] w (fun r w' => r = .returned (.tuple #[.int .i64 b.prog.length, .int .i64 0]) ∧ BkStep w F g (b.wrote1 ⟨op, a, c, (q.s, q.z, q.z')⟩) w') := by
  obtain ⟨va, vp, vm, ps, h⟩ := h
  obtain ⟨V, hW, Bx, hb⟩ := box0 80 w #[.int .i64 op, .int .i64 a, .int .i64 c, .bool q.s, .slice q.A q.n q.c, .slice q.A' q.n' q.c']
  have hV := h.below hb
  obtain ⟨j0, j1, j2, j3, j4, j5, j6, j7, j8, j9, j10⟩ := hV.cells
  obtain ⟨A_p, c_p, rfl, hc1, hc2⟩ := h.rp.form
  have hpl : ps.length = b.prog.length := by rw [← h.pi, List.length_map]
  have hg : g < w.heap.size := h.box.lt
  have hS : ∀ w', Box 80 w' w.heap.size #[.int .i64 op, .int .i64 a, .int .i64 c, .bool q.s, .slice q.A q.n q.c, .slice q.A' q.n' q.c'] → w'.cell? ⟨w.heap.size, 0, none⟩ = some (.int .i64 op) ∧ w'.cell? ⟨w.heap.size, 1, none⟩ = some (.int .i64 a) ∧ w'.cell? ⟨w.heap.size, 2, none⟩ = some (.int .i64 c) ∧ w'.cell? ⟨w.heap.size, 3, none⟩ = some (.bool q.s) ∧ w'.cell? ⟨w.heap.size, 4, none⟩ = some (.slice q.A q.n q.c) ∧ w'.cell? ⟨w.heap.size, 5, none⟩ = some (.slice q.A' q.n' q.c') := fun w' hB => hB.six.1
  obtain ⟨i0, hi0, hz0, hz1, hz2⟩ := info_parts infoI
  obtain ⟨k0, k1, k2, k3, k4, k5⟩ := Bx.six.1
  have hl2 : decide ((65536 : Int) ≤ (b.prog.length : Int)) = false := decide_eq_false (by omega)
  rw [hpl] at j2
  obtain ⟨L, hL⟩ : ∃ L : Nat, L = b.prog.length := ⟨_, rfl⟩
  rw [← hL] at hl hl2 j4 j2 ⊢
  have HLL := Lib.hid hL
  have HW := Lib.hid hW
  have HS := Lib.hid hS
  have HBx := Lib.hid Bx
  have HH := Lib.hid h
  have HP := Lib.hid hp
  have HPL := Lib.hid hpl
  clear hW hS Bx h hp hpl hV hL
  go_enter Tryz.func51, Tryz.ntmps51
  go_upto_region 1 with (fail)
  rw [HW.out]
  go_upto_region 3 with (fail)
  have j2d := j2
  refine wp_region_held_drew (S := fun w' => w'.cell? ⟨w.heap.size, 0, none⟩ = some (.int .i64 op) ∧ w'.cell? ⟨w.heap.size, 1, none⟩ = some (.int .i64 a) ∧ w'.cell? ⟨w.heap.size, 2, none⟩ = some (.int .i64 c) ∧ w'.cell? ⟨w.heap.size, 3, none⟩ = some (.bool q.s) ∧ w'.cell? ⟨w.heap.size, 4, none⟩ = some (.slice q.A q.n q.c) ∧ w'.cell? ⟨w.heap.size, 5, none⟩ = some (.slice q.A' q.n' q.c')) (by kernel_rfl) (HS.out _ HBx.out) (fun hHeld => ?_)
  refine wpAnyH_take (i := 0) (v := ?_) rfl (by kernel_rfl) (by kernel_rfl) (by kernel_rfl) (fun _ _ _ h => h) (Or.inl ⟨by kernel_rfl, ?_⟩) (by assumption) ?_
  rotate_left
  · intro w hSw
    (try dsimp only at hSw)
    go_simp
    (try with_reducible rfl)
  try simp only [Act.put, List.setIfInBounds_toArray, List.set_cons_zero, List.set_cons_succ, List.getElem_toArray, List.getElem_cons_zero, List.getElem_cons_succ]
  refine wpAnyH_take (i := 1) (v := ?_) rfl (by kernel_rfl) (by kernel_rfl) (by kernel_rfl) (fun _ _ _ h => h) (Or.inl ⟨by kernel_rfl, ?_⟩) (by assumption) ?_
  rotate_left
  · intro w hSw
    (try dsimp only at hSw)
    go_simp
    (try with_reducible rfl)
  try simp only [Act.put, List.setIfInBounds_toArray, List.set_cons_zero, List.set_cons_succ, List.getElem_toArray, List.getElem_cons_zero, List.getElem_cons_succ]
  refine wpAnyH_take (i := 2) (v := ?_) rfl (by kernel_rfl) (by kernel_rfl) (by kernel_rfl) (fun _ _ _ h => h) (Or.inl ⟨by kernel_rfl, ?_⟩) (by assumption) ?_
  rotate_left
  · intro w hSw
    (try dsimp only at hSw)
    go_simp
    (try with_reducible rfl)
  try simp only [Act.put, List.setIfInBounds_toArray, List.set_cons_zero, List.set_cons_succ, List.getElem_toArray, List.getElem_cons_zero, List.getElem_cons_succ]
  refine wpAnyH_take (i := 3) (v := ?_) rfl (by kernel_rfl) (by kernel_rfl) (by kernel_rfl) (fun _ _ _ h => h) (Or.inl ⟨by kernel_rfl, ?_⟩) (by assumption) ?_
  rotate_left
  · intro w hSw
    (try dsimp only at hSw)
    go_simp
    (try with_reducible rfl)
  try simp only [Act.put, List.setIfInBounds_toArray, List.set_cons_zero, List.set_cons_succ, List.getElem_toArray, List.getElem_cons_zero, List.getElem_cons_succ]
  refine wpAnyH_take (i := 5) (v := ?_) rfl (by kernel_rfl) (by kernel_rfl) (by kernel_rfl) (fun _ _ _ h => h) (Or.inl ⟨by kernel_rfl, ?_⟩) (by assumption) ?_
  rotate_left
  · intro w hSw
    (try dsimp only at hSw)
    go_simp
    (try with_reducible rfl)
  try simp only [Act.put, List.setIfInBounds_toArray, List.set_cons_zero, List.set_cons_succ, List.getElem_toArray, List.getElem_cons_zero, List.getElem_cons_succ]
  refine wpAnyH_ready (rs := [4, 6]) (by kernel_rfl) (by simp) ?_
  refine AllReadyH.cons rfl (fun K hK => ?_) (AllReadyH.cons rfl (fun K hK => ?_) AllReadyH.nil)
  · skip
    go_simp
    (try go_wp2_with fail)
    refine hK.out _ _ (HS.out _ HBx.out) (fun hHeld => ?_)
    clear hK K
    try simp only [Act.put, List.setIfInBounds_toArray, List.set_cons_zero, List.set_cons_succ, List.getElem_toArray, List.getElem_cons_zero, List.getElem_cons_succ]
    refine wpAnyH_ready (rs := [6]) (by kernel_rfl) (by simp) ?_
    refine AllReadyH.cons rfl (fun K hK => ?_) AllReadyH.nil
    go_simp
    obtain ⟨W1, hW1, B1, b1⟩ := box0 80 V.drew #[.int .i64 op, .int .i64 a, .int .i64 c, .bool q.s, .slice q.A q.n q.c, .slice q.A' q.n' q.c']
    have N1 := news_new V.drew #[.int .i64 op, .int .i64 a, .int .i64 c, .bool q.s, .slice q.A q.n q.c, .slice q.A' q.n' q.c'] 80
    rw [hW1] at N1
    replace hW1 : (V.alloc (.cells #[.int .i64 op, .int .i64 a, .int .i64 c, .bool q.s, .slice q.A q.n q.c, .slice q.A' q.n' q.c'] 80)).drew = W1 := hW1
    rw [hW1]
    clear hW1
    have y1 : Below V.heap.size V W1 := bb (Below.refl _ V).drew b1
    have J2 : W1.cell? ⟨g, 2, none⟩ = some (.slice A_p L c_p) := by have h9 := (HH.out.below (bb hb y1)).cells.2.2.1; rw [HPL.out, ← HLL.out] at h9; exact h9
    have HRW : Hid (Rw 6 RI.cells 80 W1 (.slice A_p L c_p) ps) := Lib.hid (by have h9 := HH.out.rp.below (bb hb y1); rw [HPL.out, ← HLL.out] at h9; exact h9)
    have HN1 := Lib.hid N1
    have HY1 := Lib.hid y1
    clear N1 b1 B1
    (try go_wp2_with fail)
    refine hK.out _ _ (HS.out _ (HBx.out.below' HY1.out)) (fun hHeld => ?_)
    clear hK K
    try simp only [Act.put, List.setIfInBounds_toArray, List.set_cons_zero, List.set_cons_succ, List.getElem_toArray, List.getElem_cons_zero, List.getElem_cons_succ]
    refine wpAnyH_ready (rs := [7]) (by kernel_rfl) (by simp) ?_
    refine AllReadyH.cons rfl (fun K hK => ?_) AllReadyH.nil
    rw [if_pos (by rfl)]
    refine wp_append_R _ _ _ 46 rfl 80 i0 _ 80 Tryz.underlying46 hi0 hz0 hz1 hz2 rfl (by decide) zeroI (.slice A_p L c_p) ps rfl HRW.out ⟨V.heap.size, 0, none⟩ 1 (⟨op, a, c, q⟩ : RI) rfl rfl ?c1 (ri_one _) ?c3 ?c4 ?_
    case c1 => exact HN1.out
    case c3 => have := HPL.out; have := HLL.out; unfold maxLen; omega
    case c4 => have := HPL.out; have := HLL.out; omega
    intro v' w6 hr ho hk hv
    rw [HLL.out, ← HPL.out] at ho hv
    have z1 := bb hb HY1.out
    have PU := HH.out.pushed z1 hr ho (by exact hk) hv (RI.tight_wk (RI.tight_wk HP.out (WK.below z1)) hk) (by rw [← HLL.out]; exact hl)
    have hgl : w.heap.size ∉ ownL (.slice A_p ps.length c_p) := fun e => by have := HH.out.rp.lt _ e; omega
    have o6 : Only (ownL (.slice A_p ps.length c_p)) w w6 := (Only.of_below _ z1).trans ho (fun x hx => .inl hx)
    have BG6 := o6.box HH.out.box HH.out.d1.2.1
    have BX6 : Box 80 w6 w.heap.size #[.int .i64 op, .int .i64 a, .int .i64 c, .bool q.s, .slice q.A q.n q.c, .slice q.A' q.n' q.c'] := (show Only (ownL (.slice A_p ps.length c_p)) V w6 from (Only.of_below _ HY1.out).trans ho (fun x hx => .inl hx)).box HBx.out hgl
    obtain ⟨A_n, c_n, ev, _, _⟩ := hr.form
    rw [List.length_append, HPL.out, ← HLL.out] at ev
    subst ev
    rw [← HLL.out] at PU
    have f2 := BG6.free 2
    have i2 := BG6.cell 2
    replace i2 : w6.cell? ⟨g, 2, none⟩ = some (.slice A_p L c_p) := by rw [HLL.out, ← HPL.out]; exact i2
    have f4 := BG6.free 4
    have i4 : w6.cell? ⟨g, 4, none⟩ = some (.int .i64 L) := by have h9 := BG6.cell 4; rw [HLL.out]; exact h9
    have HPU := Lib.hid PU
    have HBX6 := Lib.hid BX6
    have hne : w.heap.size ≠ g := by omega
    clear PU hr ho hk hv hgl o6 BG6 BX6 z1
    (try go_wp2_with fail)
    refine hK.out _ _ (HS.out _ HBX6.out) (fun hHeld => ?_)
    clear hK K
    try simp only [Act.put, List.setIfInBounds_toArray, List.set_cons_zero, List.set_cons_succ, List.getElem_toArray, List.getElem_cons_zero, List.getElem_cons_succ]
    refine wpAnyH_take (i := 8) (v := ?_) rfl (by kernel_rfl) (by kernel_rfl) (by kernel_rfl) (fun _ _ _ h => h) (Or.inl ⟨by kernel_rfl, ?_⟩) (by assumption) ?_
    rotate_left
    · intro w hSw
      (try dsimp only at hSw)
      go_simp
      (try with_reducible rfl)
    try simp only [Act.put, List.setIfInBounds_toArray, List.set_cons_zero, List.set_cons_succ, List.getElem_toArray, List.getElem_cons_zero, List.getElem_cons_succ]
    refine wpAnyH_take (i := 9) (v := ?_) rfl (by kernel_rfl) (by kernel_rfl) (by kernel_rfl) (fun _ _ _ h => h) (Or.inl ⟨by kernel_rfl, ?_⟩) (by assumption) ?_
    rotate_left
    · intro w hSw
      (try dsimp only at hSw)
      go_simp
      (try with_reducible rfl)
    try simp only [Act.put, List.setIfInBounds_toArray, List.set_cons_zero, List.set_cons_succ, List.getElem_toArray, List.getElem_cons_zero, List.getElem_cons_succ]
    refine wpAnyH_ready (rs := [10]) (by kernel_rfl) (by simp) ?_
    refine AllReadyH.cons rfl (fun K hK => ?_) AllReadyH.nil
    go_simp
    (try go_wp2_with fail)
    refine hK.out _ _ (HS.out _ (Box.setOther HBX6.out hne 2 _)) (fun hHeld => ?_)
    clear hK K
    try simp only [Act.put, List.setIfInBounds_toArray, List.set_cons_zero, List.set_cons_succ, List.getElem_toArray, List.getElem_cons_zero, List.getElem_cons_succ]
    refine wpAnyH_done (by kernel_rfl) ?_ _
    go_wp2_with fail
    go_ret2
    obtain ⟨h1, h2, h3, h4⟩ := HPU.out
    exact ⟨rfl, _, ⟨_, _, _, _, h1⟩, h2, h3, h4⟩
  · skip
    go_simp
    obtain ⟨W1, hW1, B1, b1⟩ := box0 80 V.drew #[.int .i64 op, .int .i64 a, .int .i64 c, .bool q.s, .slice q.A q.n q.c, .slice q.A' q.n' q.c']
    have N1 := news_new V.drew #[.int .i64 op, .int .i64 a, .int .i64 c, .bool q.s, .slice q.A q.n q.c, .slice q.A' q.n' q.c'] 80
    rw [hW1] at N1
    replace hW1 : (V.alloc (.cells #[.int .i64 op, .int .i64 a, .int .i64 c, .bool q.s, .slice q.A q.n q.c, .slice q.A' q.n' q.c'] 80)).drew = W1 := hW1
    rw [hW1]
    clear hW1
    have y1 : Below V.heap.size V W1 := bb (Below.refl _ V).drew b1
    have J2 : W1.cell? ⟨g, 2, none⟩ = some (.slice A_p L c_p) := by have h9 := (HH.out.below (bb hb y1)).cells.2.2.1; rw [HPL.out, ← HLL.out] at h9; exact h9
    have HRW : Hid (Rw 6 RI.cells 80 W1 (.slice A_p L c_p) ps) := Lib.hid (by have h9 := HH.out.rp.below (bb hb y1); rw [HPL.out, ← HLL.out] at h9; exact h9)
    have HN1 := Lib.hid N1
    have HY1 := Lib.hid y1
    clear N1 b1 B1
    (try go_wp2_with fail)
    refine hK.out _ _ (HS.out _ (HBx.out.below' HY1.out)) (fun hHeld => ?_)
    clear hK K
    try simp only [Act.put, List.setIfInBounds_toArray, List.set_cons_zero, List.set_cons_succ, List.getElem_toArray, List.getElem_cons_zero, List.getElem_cons_succ]
    refine wpAnyH_ready (rs := [4]) (by kernel_rfl) (by simp) ?_
    refine AllReadyH.cons rfl (fun K hK => ?_) AllReadyH.nil
    go_simp
    (try go_wp2_with fail)
    refine hK.out _ _ (HS.out _ (HBx.out.below' HY1.out)) (fun hHeld => ?_)
    clear hK K
    try simp only [Act.put, List.setIfInBounds_toArray, List.set_cons_zero, List.set_cons_succ, List.getElem_toArray, List.getElem_cons_zero, List.getElem_cons_succ]
    refine wpAnyH_ready (rs := [7]) (by kernel_rfl) (by simp) ?_
    refine AllReadyH.cons rfl (fun K hK => ?_) AllReadyH.nil
    rw [if_pos (by rfl)]
    refine wp_append_R _ _ _ 46 rfl 80 i0 _ 80 Tryz.underlying46 hi0 hz0 hz1 hz2 rfl (by decide) zeroI (.slice A_p L c_p) ps rfl HRW.out ⟨V.heap.size, 0, none⟩ 1 (⟨op, a, c, q⟩ : RI) rfl rfl ?c1 (ri_one _) ?c3 ?c4 ?_
    case c1 => exact HN1.out
    case c3 => have := HPL.out; have := HLL.out; unfold maxLen; omega
    case c4 => have := HPL.out; have := HLL.out; omega
    intro v' w6 hr ho hk hv
    rw [HLL.out, ← HPL.out] at ho hv
    have z1 := bb hb HY1.out
    have PU := HH.out.pushed z1 hr ho (by exact hk) hv (RI.tight_wk (RI.tight_wk HP.out (WK.below z1)) hk) (by rw [← HLL.out]; exact hl)
    have hgl : w.heap.size ∉ ownL (.slice A_p ps.length c_p) := fun e => by have := HH.out.rp.lt _ e; omega
    have o6 : Only (ownL (.slice A_p ps.length c_p)) w w6 := (Only.of_below _ z1).trans ho (fun x hx => .inl hx)
    have BG6 := o6.box HH.out.box HH.out.d1.2.1
    have BX6 : Box 80 w6 w.heap.size #[.int .i64 op, .int .i64 a, .int .i64 c, .bool q.s, .slice q.A q.n q.c, .slice q.A' q.n' q.c'] := (show Only (ownL (.slice A_p ps.length c_p)) V w6 from (Only.of_below _ HY1.out).trans ho (fun x hx => .inl hx)).box HBx.out hgl
    obtain ⟨A_n, c_n, ev, _, _⟩ := hr.form
    rw [List.length_append, HPL.out, ← HLL.out] at ev
    subst ev
    rw [← HLL.out] at PU
    have f2 := BG6.free 2
    have i2 := BG6.cell 2
    replace i2 : w6.cell? ⟨g, 2, none⟩ = some (.slice A_p L c_p) := by rw [HLL.out, ← HPL.out]; exact i2
    have f4 := BG6.free 4
    have i4 : w6.cell? ⟨g, 4, none⟩ = some (.int .i64 L) := by have h9 := BG6.cell 4; rw [HLL.out]; exact h9
    have HPU := Lib.hid PU
    have HBX6 := Lib.hid BX6
    have hne : w.heap.size ≠ g := by omega
    clear PU hr ho hk hv hgl o6 BG6 BX6 z1
    (try go_wp2_with fail)
    refine hK.out _ _ (HS.out _ HBX6.out) (fun hHeld => ?_)
    clear hK K
    try simp only [Act.put, List.setIfInBounds_toArray, List.set_cons_zero, List.set_cons_succ, List.getElem_toArray, List.getElem_cons_zero, List.getElem_cons_succ]
    refine wpAnyH_take (i := 8) (v := ?_) rfl (by kernel_rfl) (by kernel_rfl) (by kernel_rfl) (fun _ _ _ h => h) (Or.inl ⟨by kernel_rfl, ?_⟩) (by assumption) ?_
    rotate_left
    · intro w hSw
      (try dsimp only at hSw)
      go_simp
      (try with_reducible rfl)
    try simp only [Act.put, List.setIfInBounds_toArray, List.set_cons_zero, List.set_cons_succ, List.getElem_toArray, List.getElem_cons_zero, List.getElem_cons_succ]
    refine wpAnyH_take (i := 9) (v := ?_) rfl (by kernel_rfl) (by kernel_rfl) (by kernel_rfl) (fun _ _ _ h => h) (Or.inl ⟨by kernel_rfl, ?_⟩) (by assumption) ?_
    rotate_left
    · intro w hSw
      (try dsimp only at hSw)
      go_simp
      (try with_reducible rfl)
    try simp only [Act.put, List.setIfInBounds_toArray, List.set_cons_zero, List.set_cons_succ, List.getElem_toArray, List.getElem_cons_zero, List.getElem_cons_succ]
    refine wpAnyH_ready (rs := [10]) (by kernel_rfl) (by simp) ?_
    refine AllReadyH.cons rfl (fun K hK => ?_) AllReadyH.nil
    go_simp
    (try go_wp2_with fail)
    refine hK.out _ _ (HS.out _ (Box.setOther HBX6.out hne 2 _)) (fun hHeld => ?_)
    clear hK K
    try simp only [Act.put, List.setIfInBounds_toArray, List.set_cons_zero, List.set_cons_succ, List.getElem_toArray, List.getElem_cons_zero, List.getElem_cons_succ]
    refine wpAnyH_done (by kernel_rfl) ?_ _
    go_wp2_with fail
    go_ret2
    obtain ⟨h1, h2, h3, h4⟩ := HPU.out
    exact ⟨rfl, _, ⟨_, _, _, _, h1⟩, h2, h3, h4⟩

end Go.Proofs.YthpbaaanbimapaaGreatDoor

namespace Go.Proofs.YthpbaaanbimapaaGreatDoor
set_option maxRecDepth 100000
open Go.RowKit
set_option linter.unusedVariables false
set_option linter.unusedSimpArgs false

theorem BkStep.box {V w1 : World} {F : List Nat} {g gr : Nat} {b : PB} {t : TypeId} {vs : Array Value} (h : BkStep V F g b w1) (hB : Box t V gr vs) (hn : gr ∉ F) : Box t w1 gr vs := by
  obtain ⟨F', h1, h2, h3, h4⟩ := h
  exact h2.box hB hn
/-- a cell of the bank that holds no row is stored into -/
theorem BkStep.set {w w1 : World} {F : List Nat} {g i : Nat} {b b' : PB} (h : BkStep w F g b w1) (v : Value) (hc : ∀ va vp vm, (bkCells b va vp vm).setIfInBounds i v = bkCells b' va vp vm) (hp : b'.prog = b.prog) (hm : b'.met = b.met) (ha : b'.asks = b.asks) (hu : b'.used = b.used) : BkStep w F g b' (w1.setCell ⟨g, i, none⟩ v) := by
  obtain ⟨F', ⟨va, vp, vm, ps, h1⟩, h2, h3, h4⟩ := h
  obtain ⟨k1, k2, k3⟩ := h1.set v (hc va vp vm) hp hm ha (by rw [hu]; exact h1.ul)
  refine ⟨F', ⟨va, vp, vm, ps, k1⟩, h2.trans k2 (fun x hx => ?_), h3.trans k3, h4⟩
  exact h4 x hx
/-- a step of a bank since w; the blocks that it took lie at n or above -/
def BkS (w : World) (n : Nat) (F : List Nat) (g : Nat) (b : PB) (w' : World) : Prop := ∃ F', Bk w' F' g b ∧ Only F w w' ∧ WK w w' ∧ ∀ x ∈ F', x ∈ F ∨ n ≤ x
section
variable {w V w1 w2 : World} {n : Nat} {F : List Nat} {g gr i : Nat} {b b' : PB}
theorem BkStep.s (h : BkStep V F g b w1) (hb : Below w.heap.size w V) : BkS w V.heap.size F g b w1 := by
  obtain ⟨F', k1, k2, k3, k4⟩ := h
  exact ⟨F', k1, (Only.of_below F hb).trans k2 (fun x hx => .inl hx), (WK.below hb).trans k3, k4⟩
theorem BkS.keep (h : BkS w n F g b w1) (k : Keep gr w1 w2) (h1 : w.heap.size ≤ gr) (h2 : gr < n) (hF : gr ∉ F) (hz : ∀ i u, w1.cell? ⟨gr, i, none⟩ = some u → NZ u) : BkS w n F g b w2 := by
  obtain ⟨F', k1, k2, k3, k4⟩ := h
  have wk := wk_keep k hz
  refine ⟨F', k1.only (only_keep k) wk (fun x hx e => ?_), k2.trans (only_keep k) (fun x hx => .inr (by rw [List.mem_singleton] at hx; omega)), k3.trans wk, k4⟩
  rw [List.mem_singleton] at e
  subst e
  rcases k4 x hx with h9 | h9
  · exact hF h9
  · omega
theorem BkS.below (h : BkS w n F g b w1) (hb : Below w1.heap.size w1 w2) : BkS w n F g b w2 := by
  obtain ⟨F', h1, h2, h3, h4⟩ := h
  exact ⟨F', h1.below hb, h2.trans (Only.of_below [] hb) (fun x hx => by simp at hx), h3.trans (WK.below hb), h4⟩
theorem BkS.set (h : BkS w n F g b w1) (hn : w.heap.size ≤ n) (v : Value) (hc : ∀ va vp vm, (bkCells b va vp vm).setIfInBounds i v = bkCells b' va vp vm) (hp : b'.prog = b.prog) (hm : b'.met = b.met) (ha : b'.asks = b.asks) (hu : b'.used = b.used) : BkS w n F g b' (w1.setCell ⟨g, i, none⟩ v) := by
  obtain ⟨F', ⟨va, vp, vm, ps, h1⟩, h2, h3, h4⟩ := h
  obtain ⟨k1, k2, k3⟩ := h1.set v (hc va vp vm) hp hm ha (by rw [hu]; exact h1.ul)
  refine ⟨F', ⟨va, vp, vm, ps, k1⟩, h2.trans k2 (fun x hx => ?_), h3.trans k3, h4⟩
  rcases h4 x hx with h9 | h9
  · exact .inl h9
  · right; omega
theorem BkS.step (h : BkS w n F g b w1) (hn : w.heap.size ≤ n) : BkStep w F g b w1 := by
  obtain ⟨F', k1, k2, k3, k4⟩ := h
  refine ⟨F', k1, k2, k3, fun x hx => ?_⟩
  rcases k4 x hx with h9 | h9
  · exact .inl h9
  · right; omega
end
theorem nz_five {t : TypeId} {w : World} {g : Nat} {s : Bool} {A D : Option Addr} {n c m d : Nat} {f : Int} (h : Box t w g #[.bool s, .slice A n c, .slice D m d, .int .u64 0, .int .i64 f]) : ∀ i u, w.cell? ⟨g, i, none⟩ = some u → NZ u := by
  intro i u hu
  rw [h.cell] at hu
  match i, hu with
  | 0, hu => injection hu with hu; subst hu; exact (NoW_bool _).nz
  | 1, hu => injection hu with hu; subst hu; exact (NoW_slice _ _ _).nz
  | 2, hu => injection hu with hu; subst hu; exact (NoW_slice _ _ _).nz
  | 3, hu => injection hu with hu; subst hu; exact fun x e => by injection e with _ e; exact e.symm
  | 4, hu => injection hu with hu; subst hu; exact (NoW_i64 _).nz
  | i + 5, hu => simp at hu
theorem nilI_tight (w : World) {op a c : Int} (h1 : I64 op) (h2 : I64 a) (h3 : I64 c) : RI.tight w ⟨op, a, c, ⟨false, none, 0, 0, [], none, 0, 0, []⟩⟩ :=
  ⟨⟨h1, h2, h3, Sl.nil _ _ _, Sl.nil _ _ _, by show 0 ≤ maxLen; unfold maxLen; omega, by show 0 ≤ maxLen; unfold maxLen; omega⟩, .inl rfl, .inl rfl⟩

set_option maxRecDepth 100000 in
set_option maxHeartbeats 4000000 in
theorem bk_lit2 {w : World} {F : List Nat} {g : Nat} {b : PB} {p q u : Int} (h : Bk w F g b) (he : b.err = 0) (hm : b.mode = 2) (hl : b.prog.length < 65536) (hi : b.ins < 1000000000) :
    Calls Tryz.prog 33 #[.pointer (some ⟨g, 0, none⟩), .agg #[.int .i64 p, .int .i64 q, .int .u64 u]] w (fun r w' => r = .returned (.agg #[.bool false, .slice none 0 0, .slice none 0 0, .int .u64 0, .int .i64 b.prog.length]) ∧ BkStep w F g { b with prog := b.prog ++ [⟨1, b.ins, 0, nilQ⟩], ins := b.ins + 1 } w') := by
  obtain ⟨V1, hW1, B1, B2, hb1, hs1⟩ := boxesV 67 53 w #[.int .i64 p, .int .i64 q, .int .u64 u] SV.zero.agg
  obtain ⟨V, hW, B3, hb2⟩ := box0 53 V1 SV.zero.agg
  have hsV : V.heap.size = V1.heap.size + 1 := by rw [← hW]; simp
  have hb := bb hb1 hb2
  replace B2 := B2.below' hb2
  simp only [SV.agg, SV.zero] at hW1 hW B2 B3
  rw [hs1] at B3
  have hF := h.lt
  have hV := h.below hb
  have E := bk_err (h.below hb1)
  have WR := bk_write (op := 1) (a := (b.ins : Int)) (c := 0) (q := ⟨false, none, 0, 0, [], none, 0, 0, []⟩) hV (nilI_tight V (by unfold I64; omega) (by unfold I64; omega) (by unfold I64; omega)) hl
  rw [he] at E
  obtain ⟨va, vp, vm, ps, hA⟩ := hV
  obtain ⟨j0, j1, j2, j3, j4, j5, j6, j7, j8, j9, j10⟩ := hA.cells
  rw [hm] at j0
  have hg : g < w.heap.size := hF g ((hA.own g).2 (.inl rfl))
  have HE := Lib.hid E
  have HWR := Lib.hid WR
  have HW1 := Lib.hid hW1
  have HW := Lib.hid hW
  have HB2 := Lib.hid B2
  have HB3 := Lib.hid B3
  obtain ⟨L, hL⟩ : ∃ L : Nat, L = b.prog.length := ⟨_, rfl⟩
  rw [← hL] at HWR hl ⊢
  obtain ⟨I, hI⟩ : ∃ I : Nat, I = b.ins := ⟨_, rfl⟩
  have HII := Lib.hid hI
  rw [← hI] at HWR j8 hi
  have R9 := fun (w1 : World) => bk_result_ok (w := w1) (p := some ⟨g, 0, none⟩) ⟨false, none, 0, 0, none, 0, 0, 0, (L : Int)⟩
  simp only [SV.agg] at R9
  have HR9 := Lib.hid R9
  clear E WR hW hW1 B1 B2 B3 hA h j1 j2 j3 j4 j5 j6 j7 j9 j10 hL hI R9
  go_enter Tryz.func33, Tryz.ntmps33
  go_wp2_with fail
  rw [HW1.out]
  with_reducible refine HE.out.mono ?_
  rintro _ _ ⟨rfl, rfl⟩
  go_upto_region 5 with (fail)
  rw [HW.out]
  go_wp2_with fail
  with_reducible refine HWR.out.mono ?_
  rintro _ w3 ⟨rfl, st3⟩
  have C3 := st3.box HB3.out (fun hx => by have := hF _ hx; omega)
  have C2 := st3.box HB2.out (fun hx => by have := hF _ hx; omega)
  obtain ⟨⟨r0, r1, r2, r3, r4⟩, f0, f1, f2, f3, f4⟩ := C3.five
  have HC2 := Lib.hid C2
  have HC3 := Lib.hid C3
  have HST := Lib.hid (st3.s hb)
  clear st3 C2 C3
  have hnF : ∀ x, w.heap.size ≤ x → x ∉ F := fun x hx e => by have := hF x e; omega
  go_upto_region 12 with (fail)
  obtain ⟨W4, hW4⟩ : ∃ W, w3.setCell ⟨w.heap.size + 1 + 1, 4, none⟩ (.int .i64 (L : Int)) = W := ⟨_, rfl⟩
  have D3 : Box 53 W4 (w.heap.size + 1 + 1) #[.bool false, .slice none 0 0, .slice none 0 0, .int .u64 0, .int .i64 L] := by rw [← hW4]; exact box_setI HC3.out 4 _
  have D2 : Box 53 W4 (w.heap.size + 1) #[.bool false, .slice none 0 0, .slice none 0 0, .int .u64 0, .int .i64 0] := by rw [← hW4]; exact Box.setOther HC2.out (by omega) 4 _
  have S4 : BkS w V.heap.size F g (b.wrote1 ⟨1, b.ins, 0, nilQ⟩) W4 := by rw [← hW4, ← HII.out]; exact HST.out.keep ((Keep.refl _ w3).setCell 4 _) (by omega) (by omega) (hnF _ (by omega)) (nz_five HC3.out)
  rw [hW4]
  clear r0 r1 r2 r3 r4 f0 f1 f2 f3 f4 HC2 HC3 HST hW4
  have HS4 := Lib.hid S4
  obtain ⟨F4, ⟨va4, vp4, vm4, ps4, hA4⟩, _⟩ := S4
  have i8 : W4.cell? ⟨g, 8, none⟩ = some (.int .i64 I) := by have h9 := hA4.box.cell 8; rw [HII.out]; exact h9
  have fg8 := hA4.box.free 8
  have HD2 := Lib.hid D2
  have HD3 := Lib.hid D3
  clear hA4 D2 D3
  go_upto_region 14 with (fail)
  obtain ⟨W5, hW5⟩ : ∃ W, W4.setCell ⟨g, 8, none⟩ (.int .i64 ((I : Int) + 1)) = W := ⟨_, rfl⟩
  have D3 : Box 53 W5 (w.heap.size + 1 + 1) #[.bool false, .slice none 0 0, .slice none 0 0, .int .u64 0, .int .i64 L] := by rw [← hW5]; exact Box.setOther HD3.out (by omega) 8 _
  have D2 : Box 53 W5 (w.heap.size + 1) #[.bool false, .slice none 0 0, .slice none 0 0, .int .u64 0, .int .i64 0] := by rw [← hW5]; exact Box.setOther HD2.out (by omega) 8 _
  have S5 : BkS w V.heap.size F g { b with prog := b.prog ++ [⟨1, b.ins, 0, nilQ⟩], ins := b.ins + 1 } W5 := by
    rw [← hW5]
    exact HS4.out.set (by omega) _ (fun va vp vm => by rw [HII.out]; unfold bkCells PB.wrote1; simp) rfl rfl rfl rfl
  rw [hW5]
  obtain ⟨⟨r0, r1, r2, r3, r4⟩, _⟩ := D3.five
  have HS5 := Lib.hid S5
  have HD2' := Lib.hid D2
  clear hW5 S5 D2 D3 HD2 HD3 i8 fg8 HS4
  go_wp2_with fail
  with_reducible refine (HR9.out _).mono ?_
  rintro _ w6 ⟨rfl, b6⟩
  have E2 := HD2'.out.below' b6
  have HE2 := Lib.hid E2
  obtain ⟨⟨r0, r1, r2, r3, r4⟩, f0, f1, f2, f3, f4⟩ := E2.five
  clear E2
  go_wp2_with fail
  refine bodyPost_ret (v := .agg #[.bool false, .slice none 0 0, .slice none 0 0, .int .u64 0, .int .i64 L]) (by simp [results, Tryz.results33, go_sem, r0, r1, r2, r3, r4]) rfl ?_
  exact ⟨rfl, ((HS5.out.below b6).keep (keep_put5 w6 (w.heap.size + 1) _ _ _ _ _) (by omega) (by omega) (hnF _ (by omega)) (nz_five HE2.out)).step (by omega)⟩

end Go.Proofs.YthpbaaanbimapaaGreatDoor

namespace Go.Proofs.YthpbaaanbimapaaGreatDoor
set_option maxRecDepth 100000
open Go.RowKit
set_option linter.unusedVariables false
set_option linter.unusedSimpArgs false

/-- a call that only makes memory, and returns a scalar that reads as p -/
def RetVB (p : PV) (w : World) (e : Ending) (w' : World) : Prop := ∃ x : SV, e = .returned (.agg x.agg) ∧ x.is w' p ∧ Below w.heap.size w w'
theorem Q.keep5 {w w' : World} {g : Nat} {s : Bool} {A A' : Option Addr} {n c n' c' : Nat} {X : Rat} (h : Q w s A n c A' n' c' X) (k : Keep g w w') (hz : ∀ i u, w.cell? ⟨g, i, none⟩ = some u → NZ u) : Q w' s A n c A' n' c' X := Q.wk h (wk_keep k hz)

set_option maxRecDepth 100000 in
set_option maxHeartbeats 4000000 in
theorem bk_num0 {w : World} {F : List Nat} {g : Nat} {b : PB} {p q : Int} (h : Bk w F g b) (he : b.err = 0) (hm : b.mode = 0) (p1 : -9223372036854775808 ≤ p) (p2 : p ≤ 9223372036854775807) (q1 : -9223372036854775808 ≤ q) (q2 : q ≤ 9223372036854775807) (h0 : q ≠ 0) :
    Calls Tryz.prog 24 #[.pointer (some ⟨g, 0, none⟩), .int .i64 p, .int .i64 q] w (RetVB ⟨some ((p : Rat) / (q : Rat)), 0, 0⟩ w) := by
  obtain ⟨V1, hW1, B1, hb1⟩ := box0 53 w SV.zero.agg
  obtain ⟨V, hW, B3, hb2⟩ := box0 53 V1 SV.zero.agg
  have hs1 : V1.heap.size = w.heap.size + 1 := by rw [← hW1]; simp
  have hs2 : V.heap.size = w.heap.size + 1 + 1 := by rw [← hW, World.size_alloc, hs1]
  have hb := bb hb1 hb2
  rw [hs1] at B3
  replace B1 := B1.below' hb2
  simp only [SV.agg, SV.zero] at hW1 hW B1 B3
  have E := bk_err (h.below hb1)
  rw [he] at E
  have QT := fun w1 => bk_quotient (w := w1) p1 p2 q1 q2 h0
  have hJ : ∀ w1, Below w.heap.size w w1 → w1.cell? ⟨g, 0, none⟩ = some (.int .i64 0) := fun w1 hb9 => by
    obtain ⟨va, vp, vm, ps, hA⟩ := h.below hb9
    rw [← hm]
    exact hA.cells.1
  generalize (p : Rat) / (q : Rat) = X at *
  have HQT := Lib.hid QT
  have HE := Lib.hid E
  have HW1 := Lib.hid hW1
  have HW := Lib.hid hW
  have HB1 := Lib.hid B1
  have HB3 := Lib.hid B3
  have HJ := Lib.hid hJ
  clear QT E hW1 hW B1 B3 hJ h
  go_enter Tryz.func24, Tryz.ntmps24
  go_wp2_with fail
  rw [HW1.out]
  with_reducible refine HE.out.mono ?_
  rintro _ _ ⟨rfl, rfl⟩
  go_upto_region 4 with (fail)
  rw [HW.out]
  go_wp2_with fail
  with_reducible refine (HQT.out _).mono ?_
  rintro _ w3 ⟨s3, A3, n3, c3, D3, m3, d3, rfl, q3, b3⟩
  obtain ⟨V4, hV4, B4, hb4⟩ := box0 51 w3 #[.bool s3, .slice A3 n3 c3, .slice D3 m3 d3]
  have HV4 := Lib.hid hV4
  have C3 := HB3.out.below' (bb b3 hb4)
  have C1 := HB1.out.below' (bb b3 hb4)
  have j0 := HJ.out _ (bb hb (bb b3 hb4))
  obtain ⟨⟨k0, k1, k2⟩, _⟩ := B4.three
  obtain ⟨⟨r0, r1, r2, r3, r4⟩, f0, f1, f2, f3, f4⟩ := C3.five
  have HC3 := Lib.hid C3
  have HC1 := Lib.hid C1
  have HQ := Lib.hid (q3.below hb4)
  clear hV4 B4 C3 C1 q3
  go_upto_region 5 with (fail)
  rw [HV4.out]
  go_upto_region 13 with (fail)
  obtain ⟨W5, hW5⟩ : ∃ W, put3 V4 (w.heap.size + 1) (.bool s3) (.slice A3 n3 c3) (.slice D3 m3 d3) = W := ⟨_, rfl⟩
  have E3 : Box 53 W5 (w.heap.size + 1) #[.bool s3, .slice A3 n3 c3, .slice D3 m3 d3, .int .u64 0, .int .i64 0] := by rw [← hW5]; exact box_setI (box_setI (box_setI HC3.out 0 _) 1 _) 2 _
  have E1 : Box 53 W5 w.heap.size #[.bool false, .slice none 0 0, .slice none 0 0, .int .u64 0, .int .i64 0] := by rw [← hW5]; exact HC1.out.put3 (by omega) _ _ _
  have y5 : Below w.heap.size w W5 := by rw [← hW5]; exact below_put3 (bb hb (bb b3 hb4)) (by omega) (Nat.le_refl _) _ _ _
  have Q5 : Q W5 s3 A3 n3 c3 D3 m3 d3 X := by rw [← hW5]; exact HQ.out.keep5 (keep_put3 _ _ _ _ _) (nz_five HC3.out)
  unfold put3 at hW5
  (try rw [hW5])
  obtain ⟨⟨r0, r1, r2, r3, r4⟩, _⟩ := E3.five
  have R9 := bk_result_ok (w := W5) (p := some ⟨g, 0, none⟩) ⟨s3, A3, n3, c3, D3, m3, d3, 0, 0⟩
  simp only [SV.agg] at R9
  have HR9 := Lib.hid R9
  have HE1 := Lib.hid E1
  have HQ5 := Lib.hid Q5
  have HY5 := Lib.hid y5
  clear hW5 E3 E1 Q5 R9 HC3 HC1 HQ f0 f1 f2 f3 f4 y5 k0 k1 k2
  go_wp2_with fail
  with_reducible refine HR9.out.mono ?_
  rintro _ w6 ⟨rfl, b6⟩
  have E2 := HE1.out.below' b6
  have HE2 := Lib.hid E2
  obtain ⟨⟨r0, r1, r2, r3, r4⟩, f0, f1, f2, f3, f4⟩ := E2.five
  clear E2
  go_wp2_with fail
  refine bodyPost_ret (v := .agg #[.bool s3, .slice A3 n3 c3, .slice D3 m3 d3, .int .u64 0, .int .i64 0]) (by simp [results, Tryz.results24, go_sem, r0, r1, r2, r3, r4]) rfl ?_
  exact ⟨⟨s3, A3, n3, c3, D3, m3, d3, 0, 0⟩, rfl, ⟨rfl, rfl, (HQ5.out.below b6).keep5 (keep_put5 _ _ _ _ _ _ _) (nz_five HE2.out)⟩, below_put5 (bb HY5.out b6) (Nat.le_refl _) (Nat.le_refl _) _ _ _ _ _⟩

end Go.Proofs.YthpbaaanbimapaaGreatDoor

namespace Go.Proofs.YthpbaaanbimapaaGreatDoor
set_option maxRecDepth 100000
open Go.RowKit
set_option linter.unusedVariables false
set_option linter.unusedSimpArgs false

theorem boxesR3 (t : TypeId) (w : World) (vs us xs : Array Value) : ∃ W, ((w.alloc (.cells vs t)).alloc (.cells us t)).alloc (.cells xs t) = W ∧ Box t W w.heap.size vs ∧ Box t W (w.heap.size + 1) us ∧ Box t W (w.heap.size + 1 + 1) xs ∧ Below w.heap.size w W := by
  obtain ⟨W, h1, h2, h3, h4, h5, _⟩ := boxesV3 t t t w vs us xs
  exact ⟨W, h1, h2, h3, h4, h5⟩

set_option maxHeartbeats 2000000 in
theorem ex_add {w : World} {s t : Bool} {A A' B B' : Option Addr} {n n' c c' m m' d d' N : Nat} {X Y : Rat} (h : Q w s A n c A' n' c' X) (hX : Sz X N) (k : Q w t B m d B' m' d' Y) (hY : Sz Y N) (hN : N ≤ 40000) :
    Calls Tryz.prog 170 #[.int .i64 4, .agg #[.bool s, .slice A n c, .slice A' n' c'], .agg #[.bool t, .slice B m d, .slice B' m' d']] w (RetQE (X + Y) 0 w) := by
  obtain ⟨V, hW, B1, B2, Br, hb⟩ := boxesR3 51 w #[.bool s, .slice A n c, .slice A' n' c'] #[.bool t, .slice B m d, .slice B' m' d'] #[.bool false, .slice none 0 0, .slice none 0 0]
  have K := rat_add (h.below hb) (k.below hb) hX hY (by omega)
  obtain ⟨⟨k0, k1, k2⟩, _⟩ := B1.three
  obtain ⟨⟨j0, j1, j2⟩, _⟩ := B2.three
  obtain ⟨⟨r0, r1, r2⟩, f0, f1, f2⟩ := Br.three
  have HW := Lib.hid hW
  have HBr := Lib.hid Br
  generalize X + Y = Z at *
  have HK := Lib.hid K
  clear K
  clear hW B1 B2 Br
  go_enter Tryz.func170, Tryz.ntmps170
  go_upto_region 1 with (fail)
  rw [HW.out]
  clear r0 r1 r2 f0 f1 f2
  go_wp2_with fail
  with_reducible refine HK.out.mono ?_
  rintro _ w1 ⟨s1, A1, n1, c1, D1, m1, d1, rfl, q1, b1⟩
  have Br1 := HBr.out.below' b1
  have HB1 := Lib.hid Br1
  obtain ⟨⟨r0, r1, r2⟩, f0, f1, f2⟩ := Br1.three
  clear Br1
  go_wp2_with fail
  refine bodyPost_ret (v := .tuple #[.agg #[.bool s1, .slice A1 n1 c1, .slice D1 m1 d1], .int .i64 0]) (by simp [results, Tryz.results170, go_sem, r0, r1, r2]) rfl ?_
  exact ⟨_, _, _, _, _, _, _, rfl, q1.put3 ⟨_, _, _, _, _, _, _, HB1.out⟩, below_put3 (bb hb b1) (by omega) (Nat.le_refl _) _ _ _⟩

end Go.Proofs.YthpbaaanbimapaaGreatDoor

namespace Go.Proofs.YthpbaaanbimapaaGreatDoor
set_option maxRecDepth 100000
open Go.RowKit
set_option linter.unusedVariables false
set_option linter.unusedSimpArgs false

/-- operate where the operation has a value -/
def RetStep (p : PV) (w : World) (F : List Nat) (g : Nat) (b : PB) (e : Ending) (w' : World) : Prop := ∃ x : SV, e = .returned (.agg x.agg) ∧ x.is w' p ∧ BkStep w F g b w'
set_option maxRecDepth 100000 in
set_option maxHeartbeats 4000000 in
theorem bk_operate0 {w : World} {F : List Nat} {g : Nat} {b : PB} {op a c : Int} {q : SV} {x y : SV} {Z : Rat} (h : Bk w F g b) (he : b.err = 0) (hm : b.mode = 0) (ho : b.ops < 1000000000)
    (K : ∀ w1, Below w.heap.size w w1 → Calls Tryz.prog 170 #[.int .i64 op, .agg #[.bool x.s, .slice x.A x.n x.c, .slice x.D x.m x.d], .agg #[.bool y.s, .slice y.A y.n y.c, .slice y.D y.m y.d]] w1 (RetQE Z 0 w1)) :
    Calls Tryz.prog 104 #[.pointer (some ⟨g, 0, none⟩), .agg #[.int .i64 op, .int .i64 a, .int .i64 c, .bool q.s, .slice q.A q.n q.c, .slice q.D q.m q.d], .agg x.agg, .agg y.agg] w (RetStep ⟨some Z, 0, 0⟩ w F g { b with ops := b.ops + 1 }) := by
  obtain ⟨V0, hW0, B0, C0, D0, hb0, hs0⟩ := boxesV3 80 53 53 w #[.int .i64 op, .int .i64 a, .int .i64 c, .bool q.s, .slice q.A q.n q.c, .slice q.D q.m q.d] x.agg y.agg
  obtain ⟨V1, hW1, R1, hb1⟩ := box0 53 V0 SV.zero.agg
  obtain ⟨V, hW, B3, hb2⟩ := box0 53 V1 SV.zero.agg
  have hs1 : V1.heap.size = w.heap.size + 1 + 1 + 1 + 1 := by rw [← hW1, World.size_alloc, hs0]
  have hs2 : V.heap.size = w.heap.size + 1 + 1 + 1 + 1 + 1 := by rw [← hW, World.size_alloc, hs1]
  have hb01 := bb hb0 hb1
  have hb := bb hb01 hb2
  rw [hs0] at R1
  rw [hs1] at B3
  rw [← hW0] at hW1
  replace R1 := R1.below' hb2
  replace B0 := B0.below' (bb hb1 hb2)
  replace C0 := C0.below' (bb hb1 hb2)
  replace D0 := D0.below' (bb hb1 hb2)
  obtain ⟨s, A, n, c', D, m, d, u, f⟩ := x
  obtain ⟨t, A', n', c'', D', m', d', u', f'⟩ := y
  simp only [SV.agg, SV.zero] at hW1 hW R1 B3 B0 C0 D0 K ⊢
  have E := bk_err (h.below hb01)
  rw [he] at E
  have hF := h.lt
  have hnF : ∀ x, w.heap.size ≤ x → x ∉ F := fun x hx e => by have := hF x e; omega
  have hg : g < w.heap.size := by obtain ⟨va, vp, vm, ps, hA⟩ := h; exact hA.box.lt
  have hV := h.below hb
  obtain ⟨va, vp, vm, ps, hA⟩ := hV
  have j0 := hA.cells.1
  rw [hm] at j0
  have KV := K V hb
  obtain ⟨⟨x0, x1, x2, x3, x4⟩, _⟩ := C0.five
  obtain ⟨⟨y0, y1, y2, y3, y4⟩, _⟩ := D0.five
  have z0 := B0.six.1.1
  have HH := Lib.hid h
  have HKV := Lib.hid KV
  have HE := Lib.hid E
  have HW1 := Lib.hid hW1
  have HW := Lib.hid hW
  have HR1 := Lib.hid R1
  have HB3 := Lib.hid B3
  clear K KV E hW0 hW1 hW B0 C0 D0 R1 B3 h hA
  go_enter Tryz.func104, Tryz.ntmps104
  go_wp2_with fail
  rw [HW1.out]
  with_reducible refine HE.out.mono ?_
  rintro _ _ ⟨rfl, rfl⟩
  go_upto_region 4 with (fail)
  rw [HW.out]
  go_wp2_with fail
  with_reducible refine HKV.out.mono ?_
  rintro _ w3 ⟨s3, A3, n3, c3, D3, m3, d3, rfl, q3, b3⟩
  have C3 := HB3.out.below' b3
  have C1 := HR1.out.below' b3
  obtain ⟨⟨r0, r1, r2, r3, r4⟩, f0, f1, f2, f3, f4⟩ := C3.five
  have HC3 := Lib.hid C3
  have HC1 := Lib.hid C1
  have HQ := Lib.hid q3
  clear C3 C1 q3
  go_upto_region 14 with (fail)
  obtain ⟨W5, hW5⟩ : ∃ W, put3 w3 (w.heap.size + 1 + 1 + 1 + 1) (.bool s3) (.slice A3 n3 c3) (.slice D3 m3 d3) = W := ⟨_, rfl⟩
  have E3 : Box 53 W5 (w.heap.size + 1 + 1 + 1 + 1) #[.bool s3, .slice A3 n3 c3, .slice D3 m3 d3, .int .u64 0, .int .i64 0] := by rw [← hW5]; exact box_setI (box_setI (box_setI HC3.out 0 _) 1 _) 2 _
  have E1 : Box 53 W5 (w.heap.size + 1 + 1 + 1) #[.bool false, .slice none 0 0, .slice none 0 0, .int .u64 0, .int .i64 0] := by rw [← hW5]; exact HC1.out.put3 (by omega) _ _ _
  have y5 : Below w.heap.size w W5 := by rw [← hW5]; exact below_put3 (bb hb b3) (by omega) (Nat.le_refl _) _ _ _
  have Q5 : Q W5 s3 A3 n3 c3 D3 m3 d3 Z := by rw [← hW5]; exact HQ.out.keep5 (keep_put3 _ _ _ _ _) (nz_five HC3.out)
  unfold put3 at hW5
  (try rw [hW5])
  have S5 : BkS w (w.heap.size + 1 + 1 + 1 + 1 + 1) F g b W5 := ⟨F, HH.out.below y5, Only.of_below F y5, WK.below y5, fun x hx => .inl hx⟩
  obtain ⟨va5, vp5, vm5, ps5, hA5⟩ := HH.out.below y5
  have i7 := hA5.box.cell 7
  have fg7 := hA5.box.free 7
  replace i7 : W5.cell? ⟨g, 7, none⟩ = some (.int .i64 b.ops) := i7
  have HS5 := Lib.hid S5
  have HE1 := Lib.hid E1
  have HE3 := Lib.hid E3
  have HQ5 := Lib.hid Q5
  clear hW5 S5 E1 E3 Q5 hA5 r0 r1 r2 r3 r4 f0 f1 f2 f3 f4 HC3 HC1 HQ y5
  go_upto_region 16 with (fail)
  obtain ⟨W6, hW6⟩ : ∃ W, W5.setCell ⟨g, 7, none⟩ (.int .i64 ((b.ops : Int) + 1)) = W := ⟨_, rfl⟩
  have G3 : Box 53 W6 (w.heap.size + 1 + 1 + 1 + 1) #[.bool s3, .slice A3 n3 c3, .slice D3 m3 d3, .int .u64 0, .int .i64 0] := by rw [← hW6]; exact Box.setOther HE3.out (by omega) 7 _
  have G1 : Box 53 W6 (w.heap.size + 1 + 1 + 1) #[.bool false, .slice none 0 0, .slice none 0 0, .int .u64 0, .int .i64 0] := by rw [← hW6]; exact Box.setOther HE1.out (by omega) 7 _
  have S6 : BkS w (w.heap.size + 1 + 1 + 1 + 1 + 1) F g { b with ops := b.ops + 1 } W6 := by
    rw [← hW6]
    exact HS5.out.set (by omega) _ (fun va vp vm => by unfold bkCells; simp) rfl rfl rfl rfl
  have Q6 : Q W6 s3 A3 n3 c3 D3 m3 d3 Z := by
    rw [← hW6]
    obtain ⟨F5, ⟨va5, vp5, vm5, ps5, hA5⟩, _⟩ := HS5.out
    exact HQ5.out.wk (wk_set hA5.box (bkCells_noW (ownL_noW _ hA5.ra) (ownL_noW _ hA5.rp) (ownL_noW _ hA5.rm)) _)
  (try rw [hW6])
  obtain ⟨⟨r0, r1, r2, r3, r4⟩, _⟩ := G3.five
  have R9 := bk_result_ok (w := W6) (p := some ⟨g, 0, none⟩) ⟨s3, A3, n3, c3, D3, m3, d3, 0, 0⟩
  simp only [SV.agg] at R9
  have HR9 := Lib.hid R9
  have HS6 := Lib.hid S6
  have HD1 := Lib.hid G1
  have HQ6 := Lib.hid Q6
  clear hW6 S6 G1 G3 Q6 R9 HS5 HE1 HE3 HQ5 i7 fg7
  go_wp2_with fail
  with_reducible refine HR9.out.mono ?_
  rintro _ w6 ⟨rfl, b6⟩
  have E2 := HD1.out.below' b6
  have HE2 := Lib.hid E2
  obtain ⟨⟨r0, r1, r2, r3, r4⟩, f0, f1, f2, f3, f4⟩ := E2.five
  clear E2
  go_wp2_with fail
  refine bodyPost_ret (v := .agg #[.bool s3, .slice A3 n3 c3, .slice D3 m3 d3, .int .u64 0, .int .i64 0]) (by simp [results, Tryz.results104, go_sem, r0, r1, r2, r3, r4]) rfl ?_
  exact ⟨⟨s3, A3, n3, c3, D3, m3, d3, 0, 0⟩, rfl, ⟨rfl, rfl, (HQ6.out.below b6).keep5 (keep_put5 _ _ _ _ _ _ _) (nz_five HE2.out)⟩, ((HS6.out.below b6).keep (keep_put5 w6 _ _ _ _ _ _) (by omega) (by omega) (hnF _ (by omega)) (nz_five HE2.out)).step (by omega)⟩

end Go.Proofs.YthpbaaanbimapaaGreatDoor

namespace Go.Proofs.YthpbaaanbimapaaGreatDoor
set_option maxRecDepth 100000
open Go.RowKit
set_option linter.unusedVariables false
set_option linter.unusedSimpArgs false

theorem bk_upTo (i n : Int) (w : World) : Calls Tryz.prog 105 #[.int .i64 i, .int .i64 n] w (fun r w' => r = .returned (.bool (decide (0 ≤ i ∧ i ≤ n))) ∧ w = w') := by
  by_cases h1 : 0 ≤ i
  · by_cases h2 : i ≤ n
    · rw [decide_eq_true ⟨h1, h2⟩]
      go_enter Tryz.func105, Tryz.ntmps105
      go_wp2_with fail
      go_ret
      exact ⟨rfl, rfl⟩
    · rw [decide_eq_false (fun h => h2 h.2)]
      go_enter Tryz.func105, Tryz.ntmps105
      go_wp2_with fail
      go_ret
      exact ⟨rfl, rfl⟩
  · rw [decide_eq_false (fun h => h1 h.1)]
    go_enter Tryz.func105, Tryz.ntmps105
    go_wp2_with fail
    go_ret
    exact ⟨rfl, rfl⟩
set_option maxHeartbeats 2000000 in
theorem bk_find {w : World} {F : List Nat} {g : Nat} {b : PB} {x y : SV} (h : Bk w F g b) : Calls Tryz.prog 159 #[.pointer (some ⟨g, 0, none⟩), .agg x.agg, .agg y.agg] w (RetI (if b.wrote x.f = true ∧ b.wrote y.f = true then 0 else 1) w) := by
  obtain ⟨V, hW, B1, B2, hb, hs⟩ := boxesV 53 53 w x.agg y.agg
  obtain ⟨va, vp, vm, ps, hA⟩ := h.below hb
  have hpl : ps.length = b.prog.length := by rw [← hA.pi, List.length_map]
  obtain ⟨A_p, c_p, rfl, _⟩ := hA.rp.form
  have j2 := hA.cells.2.2.1
  rw [hpl] at j2
  have hL := hA.pl
  obtain ⟨s, A, n, c, D, m, d, u, f⟩ := x
  obtain ⟨s', A', n', c', D', m', d', u', f'⟩ := y
  simp only [SV.agg] at hW B1 B2 ⊢
  have k4 := B1.five.1.2.2.2.2
  have l4 := B2.five.1.2.2.2.2
  have HW := Lib.hid hW
  have U := fun (i : Int) (w1 : World) => bk_upTo i ((b.prog.length : Int) - 1) w1
  have e1 : decide (0 ≤ f ∧ f ≤ (b.prog.length : Int) - 1) = b.wrote f := by unfold PB.wrote; exact decide_eq_decide.2 (by omega)
  have e2 : decide (0 ≤ f' ∧ f' ≤ (b.prog.length : Int) - 1) = b.wrote f' := by unfold PB.wrote; exact decide_eq_decide.2 (by omega)
  have U1 := fun w1 => U f w1
  have U2 := fun w1 => U f' w1
  rw [e1] at U1
  rw [e2] at U2
  generalize b.wrote f = p1 at *
  generalize b.wrote f' = p2 at *
  generalize b.prog.length = L at *
  have H1 := Lib.hid U1
  have H2 := Lib.hid U2
  clear U U1 U2 e1 e2 hW B1 B2 hA h hpl
  cases p1
  · rw [if_neg (fun h => by cases h.1)]
    go_enter Tryz.func159, Tryz.ntmps159
    go_upto_region 1 with (fail)
    rw [HW.out]
    go_wp2_with fail
    with_reducible refine (H1.out _).mono ?_
    rintro _ _ ⟨rfl, rfl⟩
    go_wp2_with fail
    go_ret
    exact ⟨rfl, hb⟩
  · cases p2
    · rw [if_neg (fun h => by cases h.2)]
      go_enter Tryz.func159, Tryz.ntmps159
      go_upto_region 1 with (fail)
      rw [HW.out]
      go_wp2_with fail
      with_reducible refine (H1.out _).mono ?_
      rintro _ _ ⟨rfl, rfl⟩
      go_wp2_with fail
      with_reducible refine (H2.out _).mono ?_
      rintro _ _ ⟨rfl, rfl⟩
      go_wp2_with fail
      go_ret
      exact ⟨rfl, hb⟩
    · rw [if_pos ⟨rfl, rfl⟩]
      go_enter Tryz.func159, Tryz.ntmps159
      go_upto_region 1 with (fail)
      rw [HW.out]
      go_wp2_with fail
      with_reducible refine (H1.out _).mono ?_
      rintro _ _ ⟨rfl, rfl⟩
      go_wp2_with fail
      with_reducible refine (H2.out _).mono ?_
      rintro _ _ ⟨rfl, rfl⟩
      go_wp2_with fail
      go_ret
      exact ⟨rfl, hb⟩

set_option maxRecDepth 100000 in
set_option maxHeartbeats 4000000 in
theorem bk_operate2 {w : World} {F : List Nat} {g : Nat} {b : PB} {op a c : Int} {x y : SV} (h : Bk w F g b) (he : b.err = 0) (hm : b.mode = 2) (hl : b.prog.length < 65536) (hx : b.wrote x.f = true) (hy : b.wrote y.f = true) (hop : I64 op) (ha : I64 a) (hc : I64 c) (ho : b.ops < 1000000000) :
    Calls Tryz.prog 104 #[.pointer (some ⟨g, 0, none⟩), .agg #[.int .i64 op, .int .i64 a, .int .i64 c, .bool false, .slice none 0 0, .slice none 0 0], .agg x.agg, .agg y.agg] w (RetStep ⟨none, 0, b.prog.length⟩ w F g { b with prog := b.prog ++ [⟨op, a, c, nilQ⟩], ops := b.ops + 1 }) := by
  obtain ⟨V0, hW0, B0, C0, D0, hb0, hs0⟩ := boxesV3 80 53 53 w #[.int .i64 op, .int .i64 a, .int .i64 c, .bool false, .slice none 0 0, .slice none 0 0] x.agg y.agg
  obtain ⟨V1, hW1, R1, hb1⟩ := box0 53 V0 SV.zero.agg
  obtain ⟨V, hW, B3, hb2⟩ := box0 53 V1 SV.zero.agg
  have hs1 : V1.heap.size = w.heap.size + 1 + 1 + 1 + 1 := by rw [← hW1, World.size_alloc, hs0]
  have hs2 : V.heap.size = w.heap.size + 1 + 1 + 1 + 1 + 1 := by rw [← hW, World.size_alloc, hs1]
  have hb01 := bb hb0 hb1
  have hb := bb hb01 hb2
  rw [hs0] at R1
  rw [hs1] at B3
  rw [← hW0] at hW1
  replace R1 := R1.below' hb2
  replace B0 := B0.below' (bb hb1 hb2)
  replace C0 := C0.below' (bb hb1 hb2)
  replace D0 := D0.below' (bb hb1 hb2)
  have FD := bk_find (x := x) (y := y) (h.below hb)
  rw [if_pos ⟨hx, hy⟩] at FD
  have WR := fun (w1 : World) (hb9 : Below w.heap.size w w1) => bk_write (op := op) (a := a) (c := c) (q := ⟨false, none, 0, 0, [], none, 0, 0, []⟩) (h.below hb9) (nilI_tight w1 hop ha hc) hl
  obtain ⟨s, A, n, c', D, m, d, u, f⟩ := x
  obtain ⟨t, A', n', c'', D', m', d', u', f'⟩ := y
  simp only [SV.agg, SV.zero] at hW1 hW R1 B3 B0 C0 D0 FD ⊢
  have E := bk_err (h.below hb01)
  rw [he] at E
  have hF := h.lt
  have hnF : ∀ x, w.heap.size ≤ x → x ∉ F := fun x hx e => by have := hF x e; omega
  have hg : g < w.heap.size := by obtain ⟨va, vp, vm, ps, hA⟩ := h; exact hA.box.lt
  have hV := h.below hb
  obtain ⟨va, vp, vm, ps, hA⟩ := hV
  have j0 := hA.cells.1
  rw [hm] at j0
  obtain ⟨⟨x0, x1, x2, x3, x4⟩, _⟩ := C0.five
  obtain ⟨⟨y0, y1, y2, y3, y4⟩, _⟩ := D0.five
  have z0 := B0.six.1.1
  have HH := Lib.hid h
  have HFD := Lib.hid FD
  have HWR := Lib.hid WR
  have HE := Lib.hid E
  have HW1 := Lib.hid hW1
  have HW := Lib.hid hW
  have HR1 := Lib.hid R1
  have HB3 := Lib.hid B3
  have HB0 := Lib.hid B0
  clear FD WR E hW0 hW1 hW B0 C0 D0 R1 B3 h hA
  go_enter Tryz.func104, Tryz.ntmps104
  go_wp2_with fail
  rw [HW1.out]
  with_reducible refine HE.out.mono ?_
  rintro _ _ ⟨rfl, rfl⟩
  go_upto_region 4 with (fail)
  rw [HW.out]
  go_wp2_with fail
  with_reducible refine HFD.out.mono ?_
  rintro _ w2 ⟨rfl, b2⟩
  obtain ⟨⟨z0, z1, z2, z3, z4, z5⟩, _⟩ := (HB0.out.below' b2).six
  go_wp2_with fail
  with_reducible refine (HWR.out _ (bb hb b2)).mono ?_
  rintro _ w3 ⟨rfl, st3⟩
  have C3 := st3.box (HB3.out.below' b2) (fun hx => by have := hF _ hx; omega)
  have C1 := st3.box (HR1.out.below' b2) (fun hx => by have := hF _ hx; omega)
  obtain ⟨⟨r0, r1, r2, r3, r4⟩, f0, f1, f2, f3, f4⟩ := C3.five
  have HC3 := Lib.hid C3
  have HC1 := Lib.hid C1
  have hs9 : w.heap.size + 1 + 1 + 1 + 1 + 1 ≤ w2.heap.size := by have := b2.size; omega
  have HST := Lib.hid (st3.s (bb hb b2))
  clear C3 C1 st3 z0 z1 z2 z3 z4 z5
  go_upto_region 14 with (fail)
  obtain ⟨W5, hW5⟩ : ∃ W, w3.setCell ⟨w.heap.size + 1 + 1 + 1 + 1, 4, none⟩ (.int .i64 (b.prog.length : Int)) = W := ⟨_, rfl⟩
  have E3 : Box 53 W5 (w.heap.size + 1 + 1 + 1 + 1) #[.bool false, .slice none 0 0, .slice none 0 0, .int .u64 0, .int .i64 b.prog.length] := by rw [← hW5]; exact box_setI HC3.out 4 _
  have E1 : Box 53 W5 (w.heap.size + 1 + 1 + 1) #[.bool false, .slice none 0 0, .slice none 0 0, .int .u64 0, .int .i64 0] := by rw [← hW5]; exact Box.setOther HC1.out (by omega) 4 _
  have S5 : BkS w w2.heap.size F g (b.wrote1 ⟨op, a, c, nilQ⟩) W5 := by rw [← hW5]; exact HST.out.keep ((Keep.refl _ w3).setCell 4 _) (by omega) (by omega) (hnF _ (by omega)) (nz_five HC3.out)
  (try rw [hW5])
  have S5' := S5
  obtain ⟨F5, ⟨va5, vp5, vm5, ps5, hA5⟩, _⟩ := S5'
  have i7 := hA5.box.cell 7
  have fg7 := hA5.box.free 7
  replace i7 : W5.cell? ⟨g, 7, none⟩ = some (.int .i64 b.ops) := i7
  have HS5 := Lib.hid S5
  have HE1 := Lib.hid E1
  have HE3 := Lib.hid E3
  clear hW5 S5 E1 E3 hA5 r0 r1 r2 r3 r4 f0 f1 f2 f3 f4 HC3 HC1 HST
  go_upto_region 16 with (fail)
  obtain ⟨W6, hW6⟩ : ∃ W, W5.setCell ⟨g, 7, none⟩ (.int .i64 ((b.ops : Int) + 1)) = W := ⟨_, rfl⟩
  have G3 : Box 53 W6 (w.heap.size + 1 + 1 + 1 + 1) #[.bool false, .slice none 0 0, .slice none 0 0, .int .u64 0, .int .i64 b.prog.length] := by rw [← hW6]; exact Box.setOther HE3.out (by omega) 7 _
  have G1 : Box 53 W6 (w.heap.size + 1 + 1 + 1) #[.bool false, .slice none 0 0, .slice none 0 0, .int .u64 0, .int .i64 0] := by rw [← hW6]; exact Box.setOther HE1.out (by omega) 7 _
  have S6 : BkS w w2.heap.size F g { b with prog := b.prog ++ [⟨op, a, c, nilQ⟩], ops := b.ops + 1 } W6 := by
    rw [← hW6]
    exact HS5.out.set (by omega) _ (fun va vp vm => by unfold bkCells PB.wrote1; simp) rfl rfl rfl rfl
  (try rw [hW6])
  obtain ⟨⟨r0, r1, r2, r3, r4⟩, _⟩ := G3.five
  have R9 := bk_result_ok (w := W6) (p := some ⟨g, 0, none⟩) ⟨false, none, 0, 0, none, 0, 0, 0, (b.prog.length : Int)⟩
  simp only [SV.agg] at R9
  have HR9 := Lib.hid R9
  have HS6 := Lib.hid S6
  have HD1 := Lib.hid G1
  clear hW6 S6 G1 G3 R9 HS5 HE1 HE3 i7 fg7
  go_wp2_with fail
  with_reducible refine HR9.out.mono ?_
  rintro _ w6 ⟨rfl, b6⟩
  have E2 := HD1.out.below' b6
  have HE2 := Lib.hid E2
  obtain ⟨⟨r0, r1, r2, r3, r4⟩, f0, f1, f2, f3, f4⟩ := E2.five
  clear E2
  go_wp2_with fail
  refine bodyPost_ret (v := .agg #[.bool false, .slice none 0 0, .slice none 0 0, .int .u64 0, .int .i64 b.prog.length]) (by simp [results, Tryz.results104, go_sem, r0, r1, r2, r3, r4]) rfl ?_
  exact ⟨⟨false, none, 0, 0, none, 0, 0, 0, (b.prog.length : Int)⟩, rfl, ⟨rfl, rfl, rfl, rfl, rfl, rfl, rfl, rfl, rfl⟩, ((HS6.out.below b6).keep (keep_put5 w6 _ _ _ _ _ _) (by omega) (by omega) (hnF _ (by omega)) (nz_five HE2.out)).step (by omega)⟩

end Go.Proofs.YthpbaaanbimapaaGreatDoor
