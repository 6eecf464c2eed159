/-
  The iterator of package walk: it hands out all places in order, each in new memory. Conditions: the slice reads as a list of ints; the rounds keep all blocks of cells but those of X, which were there.
-/
import Derived.RangeFuncNested
import Derived.RangeFuncBound
import Derived.RangeFuncCalls
import Derived.RangeFuncLeaves
import Derived.Shelf.Abstract
import Derived.Shelf.RegionOpen
import Derived.WalkKit
import Derived.OwnWalkIn
import Derived.TacticsInMore
import Derived.LoopNIn
import Derived.LoopIn
import Derived.Test.YthhmofmncjodfaaZList
import Derived.Test.YthhmofmncjodfaaFed
namespace Go.Proofs.Ythhmofmncjodfaa
open Go.RowKit Go.Shelf
set_option linter.unusedVariables false
set_option linter.unusedSimpArgs false
attribute [local go_sem] Oper.semAt_some

/-- how many elements; the place of element k -/
def nE (d : List Int) : Nat := (cntZ d).toNat
def plc (d : List Int) (k : Nat) : List Int := castL (placeN (nat_ d) k)
theorem nE_le (d : List Int) : nE d ≤ 64 := by have := cntZ_range d; unfold nE; omega
theorem atB_nat (d : List Int) (k : Nat) : atB d k = decide (k < nE d) := by
  have := cntZ_range d
  unfold atB nE
  rw [decide_eq_decide]
  omega
theorem atR_nat {d : List Int} {k : Nat} (h : k < nE d) : atR d k = plc d k := by
  rw [atR_ok (by rw [atB_nat, decide_eq_true h]), Int.toNat_natCast]
  rfl
theorem nE_pos {d : List Int} {k : Nat} (h : k < nE d) : chk d = 0 ∧ k < prodN (nat_ d) := by
  by_cases h0 : chk d = 0
  · have := prod_nat (vd_of h0).pos
    unfold nE at h
    rw [cntZ_ok h0] at h
    exact ⟨h0, by omega⟩
  · unfold nE at h
    rw [cntZ_no h0] at h
    simp at h
theorem plc_place {d : List Int} {k : Nat} (h : k < nE d) : plB d (plc d k) = true ∧ plR d (plc d k) = k := by
  obtain ⟨h0, hk⟩ := nE_pos h
  have hv := vd_of h0
  have hb : plB d (plc d k) = true := by
    unfold plB plc
    rw [val_in hv.pos (placeN_val hk), decide_eq_true h0]
    rfl
  have hn : nat_ (plc d k) = placeN (nat_ d) k := by
    have := cast_nat (d := plc d k) (fun x hx => by
      unfold plc castL at hx
      obtain ⟨y, _, rfl⟩ := List.mem_map.1 hx
      omega)
    exact castL_inj this
  exact ⟨hb, by rw [plR_ok hb, hn, num_place hk]⟩
theorem nx_plc {d : List Int} {k : Nat} (h : k < nE d) : nxB d (plc d k) = decide (k + 1 < nE d) ∧ nxR d (plc d k) = atR d ((k + 1 : Nat) : Int) := by
  obtain ⟨h1, h2⟩ := plc_place h
  unfold nxB nxR
  rw [h1, h2, Bool.true_and]
  have e : (k : Int) + 1 = ((k + 1 : Nat) : Int) := by omega
  rw [e, atB_nat]
  exact ⟨rfl, rfl⟩
/-- all places -/
def plcs (d : List Int) : List (List Int) := (List.range (nE d)).map (plc d)
theorem plcs_len (d : List Int) : (plcs d).length = nE d := by simp [plcs]
theorem plcs_take {d : List Int} {k : Nat} (h : k < nE d) : (plcs d).take (k + 1) = (plcs d).take k ++ [plc d k] := by
  rw [List.take_succ_eq_append_getElem (by rw [plcs_len]; exact h)]
  simp [plcs]
/-- what a slice of ints reads as -/
def readZ (v : Value) (w : World) : List Int :=
  match v with
  | .slice (some a) n _ => (List.range n).map fun j => intOf ((w.cell? ⟨a.block, a.off + j, none⟩).getD undef)
  | _ => []
theorem readZ_eq {w : World} {A : Option Addr} {n c : Nat} {xs : List Int} (h : SlZ w A n c xs) : readZ (.slice A n c) w = xs := by
  have hl := h.len
  by_cases h0 : n = 0
  · subst h0
    rw [List.eq_nil_of_length_eq_zero hl]
    cases A <;> simp [readZ]
  · obtain ⟨b, off, _, _, rfl, _, _, _⟩ := h.get (j := 0) (by omega)
    unfold readZ
    apply List.ext_getElem
    · simp [hl]
    · intro i h1 h2
      obtain ⟨b', off', x, hx, e, _, _, hc⟩ := h.get (j := i) (by omega)
      injection e with e
      injection e with e1 e2
      subst e1 e2
      rw [getD_eq (by omega)] at hx
      simp only [List.getElem_map, List.getElem_range, hc]
      rw [hx]
      rfl
/-- how many places are still to come -/
def mesP (d : List Int) (v ok : Value) (w : World) : Nat :=
  match ok with
  | .bool true => nE d - numN (nat_ d) (nat_ (readZ v w))
  | _ => 0
theorem mesP_yes {d : List Int} {w : World} {A : Option Addr} {n c k : Nat} (h : SlZ w A n c (plc d k)) (hk : k < nE d) : mesP d (.slice A n c) (.bool true) w = nE d - k := by
  show nE d - numN (nat_ d) (nat_ (readZ (.slice A n c) w)) = _
  rw [readZ_eq h]
  obtain ⟨h1, h2⟩ := plc_place hk
  rw [plR_ok h1] at h2
  have : numN (nat_ d) (nat_ (plc d k)) = k := by omega
  rw [this]
theorem mesP_no (d : List Int) (v : Value) (w : World) : mesP d v (.bool false) w = 0 := rfl

set_option maxRecDepth 100000 in
set_option maxHeartbeats 4000000 in
theorem pl1 (n : Nat) (hn : 1 ≤ n) (l Bs : Nat) (X : Nat → Prop) (A : Option Addr) (len cap : Nat) (d : List Int) (hX : ¬ X Bs) (hXA : 0 < len → ∀ b off, A = some ⟨b, off, none⟩ → ¬ X b) (w0 : World) (hXB : ∀ b, X b → b < w0.heap.size) (J : List ZS → World → Prop)
    (hY : ∀ pre x W, J pre W → x.ok W → pre.length < nE d → YieldAt Fence.wide (n - 1) Try.prog l #[.slice x.A x.n x.c] W fun e W' => e = .returned (.bool true) ∧ J (pre ++ [x]) W' ∧ KC X W W')
    (W : World) (hw0 : Below w0.heap.size w0 W) (hBc : W.cell? ⟨Bs, 0, none⟩ = some (.slice A len cap)) (hs : SlZ W A len cap d) (hJB : ∀ pre W1 W2, J pre W1 → Below W1.heap.size W1 W2 → J pre W2)
    (h0 : J [] W) :
    CallsIn Fence.wide n Try.prog 49 #[.func (.yield l) #[] #[], .pointer (some ⟨Bs, 0, none⟩)] W fun e W' => (∃ v, e = .returned v) ∧ ∃ ys : List ZS, ys.map ZS.z = plcs d ∧ J ys W' := by
  have AT := wa_at hs 0
  have e0 : atB d ((0 : Nat) : Int) = decide (0 < nE d) := atB_nat d 0
  have e1 : (0 : Int) = ((0 : Nat) : Int) := rfl
  rw [e1, e0] at AT
  have HAT := Lib.hid AT
  clear e0 e1
  have hne := nE_le d
  clear AT
  refine callsIn_of_wp Try.func49 rfl trivial ?_ rfl
  simp only [Try.ntmps49, List.size_toArray, List.length_cons, List.length_nil, Nat.reduceAdd, Nat.reduceSub, Array.replicate_succ, Array.replicate_zero, List.push_toArray, List.append_toArray, List.nil_append, List.cons_append]
  gi_wp2_with (refine ⟨trivial, ?_⟩; gi_at_call 33; refine (callsIn_wide.2 HAT.out).mono ?_; rintro _ W1 ⟨A1, n1, c1, rfl, s1, t1, nw1, b1⟩)
  have HS1 := Lib.hid s1
  have hkx1 : KC X W W1 := KC.of_below b1
  have hJ1 := hJB _ _ _ h0 b1
  clear s1 HAT h0
  gi_wp2
  gi_loopw [3, 4] (fun av ok wr => ∃ (k : Nat) (A1 : Option Addr) (n1 c1 : Nat) (ys : List ZS), k ≤ nE d ∧ av = .slice A1 n1 c1 ∧ ok = .bool (decide (k < nE d)) ∧ Hid (ys.map ZS.z = (plcs d).take k) ∧ J ys wr ∧ KC X W wr ∧ Hid (SlZ wr A1 n1 c1 (atR d k)) ∧ Typ wr A1 n1 ∧ Hid (0 < n1 → ∀ b off, A1 = some ⟨b, off, none⟩ → W.heap.size ≤ b))
    (fun av ok wr => mesP d av ok wr)
  case atStart => exact ⟨0, A1, n1, c1, [], by omega, rfl, rfl, Lib.hid (by simp), hJ1, hkx1, HS1, t1, Lib.hid (fun h9 b off e => nw1 h9 b off e)⟩
  case round =>
    clear HS1 hkx1 hJ1 t1 nw1 b1
    obtain ⟨k, A2, n2, c2, ys, hk, rfl, rfl, HYS, hJs, hkx, HAT, hty, HNW⟩ := hrel
    have hBr : wr.cell? ⟨Bs, 0, none⟩ = some (.slice A len cap) := hkx.cell hX hBc
    have hyl : ys.length = k := by
      have : (ys.map ZS.z).length = k := by rw [HYS.out, List.length_take, plcs_len]; omega
      simpa using this
    by_cases hlt : k < nE d
    · have hat := HAT.out
      rw [atR_nat hlt] at hat
      have hms := mesP_yes hat hlt
      obtain ⟨fn, tmps, assign, body, hy, hR⟩ := hY ys ⟨A2, n2, c2, plc d k⟩ wr hJs ⟨hat, hty⟩ (by omega)
      have hnx := nx_plc hlt
      have HR := Lib.hid hR
      have HMS := Lib.hid hms
      have HT := Lib.hid hat
      have HNX := Lib.hid hnx
      simp only at hy
      rw [decide_eq_true hlt]
      clear hR hms hat hnx HAT
      gi_wp2
      refine HR.out.mono ?_
      rintro e W3 ⟨rfl, hJ3, hk3⟩
      have hk30 := hkx.trans hk3
      have hB3 : W3.cell? ⟨Bs, 0, none⟩ = some (.slice A len cap) := hk30.cell hX hBc
      have ha3 := HT.out.kc hk3 (fun h9 b off e9 hx9 => by
        have h8 := HNW.out h9 b off e9
        have h7 := hXB b hx9
        have h6 := hw0.size
        omega)
      have NX := wa_next (hs.kc hk30 hXA) ha3
      rw [HNX.out.1, HNX.out.2] at NX
      have HN := Lib.hid NX
      clear NX ha3
      gi_wp2_with (refine ⟨trivial, ?_⟩; gi_at_call 35; refine (callsIn_wide.2 HN.out).mono ?_; rintro _ W4 ⟨A4, n4, c4, rfl, s4, t4, nw4, b4⟩)
      have hJ4 := hJB _ _ _ hJ3 b4
      have hk4 : KC X W W4 := hk30.trans (KC.of_below b4)
      have HS4 := Lib.hid s4
      have hms4 : mesP d (.slice A4 n4 c4) (.bool (decide (k + 1 < nE d))) W4 < mesP d (.slice A2 n2 c2) (.bool true) wr := by
        rw [HMS.out]
        by_cases h9 : k + 1 < nE d
        · have := s4
          rw [atR_nat h9] at this
          rw [decide_eq_true h9, mesP_yes this h9]
          omega
        · rw [decide_eq_false h9, mesP_no]
          omega
      have HM4 := Lib.hid hms4
      clear s4 hms4
      gi_wp2
      go_roundw
      case rel =>
        refine ⟨k + 1, A4, n4, c4, _, by omega, rfl, rfl, Lib.hid ?_, hJ4, hk4, HS4, t4, Lib.hid (fun h9 b off e => Nat.le_trans hk30.1 (nw4 h9 b off e))⟩
        rw [List.map_append, HYS.out, plcs_take hlt]
        rfl
      case measure => exact HM4.out
    · obtain rfl : k = nE d := by omega
      have hys := HYS.out
      rw [List.take_of_length_le (by rw [plcs_len]; exact Nat.le_refl _)] at hys
      have HF := Lib.hid hys
      rw [decide_eq_false hlt]
      clear hY hyl hys HYS
      gi_wp2_with (refine ⟨(fun _ h9 => by cases h9), ?_⟩)
      go_end0
      exact ⟨⟨_, rfl⟩, ys, HF.out, hJs⟩

set_option maxHeartbeats 1000000 in
theorem pl0 (n : Nat) (a : Option Addr) (len cap : Nat) (w : World) :
    CallsIn Fence.wide n Try.prog 45 #[.slice a len cap] w fun e w' => e = .returned (.func (.func 49) #[] #[.pointer (some ⟨w.heap.size, 0, none⟩)]) ∧ w' = w.alloc (.cells #[.slice a len cap] 22) := by
  refine callsIn_of_wp Try.func45 rfl trivial ?_ rfl
  simp only [Try.ntmps45, List.size_toArray, List.length_cons, List.length_nil, Nat.reduceAdd, Nat.reduceSub, Array.replicate_succ, Array.replicate_zero, List.push_toArray, List.append_toArray, List.nil_append, List.cons_append]
  gi_wp2
  go_ret
  exact ⟨rfl, rfl⟩

end Go.Proofs.Ythhmofmncjodfaa
