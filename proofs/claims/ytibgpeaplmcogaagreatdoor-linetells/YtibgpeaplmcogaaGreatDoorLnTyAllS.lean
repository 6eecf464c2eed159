/-
  What evals.Exact returns. Conditions: the slices read as at most 300 instructions, whose numbers have at most 64 words, and as at most 1000 numbers of at most 64 words.
-/
import Derived.Test.YtibgpeaplmcogaaGreatDoorProg
import Derived.Test.YtibgpeaplmcogaaGreatDoorLnMemAllS
import Derived.KernelRfl
import Derived.Test.YtibgpeaplmcogaaGreatDoorLnNdAllS
import Derived.Test.YtibgpeaplmcogaaGreatDoorNatMathOneS
import Derived.Test.YtibgpeaplmcogaaGreatDoorQuotMathAllS
import Derived.Test.YtibgpeaplmcogaaGreatDoorRefShiftAllS
import Derived.Laws.BytesArg
import Derived.Test.YtibgpeaplmcogaaGreatDoorGcdLawsAllS
namespace Go.Proofs.YtibgpeaplmcogaaGreatDoor
set_option maxRecDepth 100000
open Go.RowKit Go.WideShapes Go.ChangeShapes
set_option linter.unusedVariables false

theorem rat_ty : RatTy Tryz.prog 25 :=
  ⟨⟨_, _, _, Tryz.underlying25, rfl, rfl, rfl, by kernel_rfl, by kernel_rfl, by kernel_rfl, Tryz.underlying4, _, _, Tryz.underlying23, Tryz.underlying23, Tryz.underlying76, Tryz.underlying76, by kernel_rfl, by kernel_rfl⟩, by kernel_rfl⟩
theorem ins_ty : InsTy Tryz.prog 27 :=
  ⟨⟨_, _, _, _, Tryz.underlying27, rfl, rfl, rfl, rfl, by kernel_rfl, by kernel_rfl, by kernel_rfl, Tryz.underlying3, Tryz.underlying3, Tryz.underlying3, rat_ty⟩, by kernel_rfl⟩
section
variable {H : Type} {enc : TypeId × Value → H} {w : World} {base b0 : Nat} {held : Bool} {r : Reach} {v : Value} {d : DataW H} {p : List MemPlace}
theorem arg_rats (hv : Value.okWide Tryz.prog w r b0 47 v) (h : DataW.Trod enc Tryz.prog w base (fun _ => true) held 47 v d p) : ∃ A n c xs, v = .slice A n c ∧ SlR w A n c xs := by
  obtain ⟨A, n, c, rfl⟩ := okWide_slice Tryz.underlying47 hv
  obtain ⟨fuel, hf⟩ := h
  exact open_slr Tryz.underlying47 rat_ty (by simpa [Value.cells] using hf)
theorem arg_inss (hv : Value.okWide Tryz.prog w r b0 22 v) (h : DataW.Trod enc Tryz.prog w base (fun _ => true) held 22 v d p) : ∃ A n c xs, v = .slice A n c ∧ SlP w A n c xs := by
  obtain ⟨A, n, c, rfl⟩ := okWide_slice Tryz.underlying22 hv
  obtain ⟨fuel, hf⟩ := h
  exact open_slp Tryz.underlying22 ins_ty (by simpa [Value.cells] using hf)
theorem arg_ints (hv : Value.okWide Tryz.prog w r b0 38 v) (h : DataW.Trod enc Tryz.prog w base (fun _ => true) held 38 v d p) : ∃ A n c xs, v = .slice A n c ∧ SlZ w A n c xs := by
  obtain ⟨A, n, c, rfl⟩ := okWide_slice Tryz.underlying38 hv
  obtain ⟨fuel, hf⟩ := h
  exact open_slz Tryz.underlying38 Tryz.underlying3 (by kernel_rfl) (by simpa [Value.cells] using hf)
theorem arg_words (hv : Value.okWide Tryz.prog w r b0 23 v) (h : DataW.Trod enc Tryz.prog w base (fun _ => true) held 23 v d p) : ∃ A n c z, v = .slice A n c ∧ Sl w A n c z ∧ n ≤ maxLen := by
  obtain ⟨A, n, c, rfl⟩ := okWide_slice Tryz.underlying23 hv
  obtain ⟨fuel, hf⟩ := h
  exact open_sl Tryz.underlying23 Tryz.underlying76 (by kernel_rfl) (by simpa [Value.cells] using hf)
theorem arg_rat (hv : Value.okWide Tryz.prog w r b0 25 v) (h : DataW.Trod enc Tryz.prog w base (fun _ => true) held 25 v d p) : ∃ q : RQ, v = .agg #[.bool q.s, .slice q.A q.n q.c, .slice q.A' q.n' q.c'] ∧ q.ok w := by
  obtain ⟨cs, rfl, hsz⟩ := okWide_struct Tryz.underlying25 hv
  obtain ⟨fuel, hf⟩ := h
  obtain ⟨q, e, ok⟩ := open_rq rat_ty (by simpa [Value.cells] using hf)
  obtain ⟨l⟩ := cs
  refine ⟨q, ?_, ok⟩
  have e2 : l = q.cells := by simpa using e
  rw [e2]
  rfl
theorem arg_ins (hv : Value.okWide Tryz.prog w r b0 27 v) (h : DataW.Trod enc Tryz.prog w base (fun _ => true) held 27 v d p) : ∃ q : RI, v = .agg #[.int .i64 q.op, .int .i64 q.a, .int .i64 q.b, .bool q.q.s, .slice q.q.A q.q.n q.q.c, .slice q.q.A' q.q.n' q.q.c'] ∧ q.ok w := by
  obtain ⟨cs, rfl, hsz⟩ := okWide_struct Tryz.underlying27 hv
  obtain ⟨fuel, hf⟩ := h
  obtain ⟨q, e, ok⟩ := open_ri ins_ty (by simpa [Value.cells] using hf)
  obtain ⟨l⟩ := cs
  refine ⟨q, ?_, ok⟩
  have e2 : l = q.cells := by simpa using e
  rw [e2]
  rfl
end

end Go.Proofs.YtibgpeaplmcogaaGreatDoor

namespace Go.Proofs.YtibgpeaplmcogaaGreatDoor
set_option maxRecDepth 100000
open Go.RowKit Go.Maps
set_option linter.unusedVariables false
set_option linter.unusedSimpArgs false

/-- a row of ints -/
def ZRow (w : World) (g : Nat) (zs : List Int) : Prop := Box 3 w g (zs.map (Value.int .i64)).toArray
theorem ZRow.set {w : World} {g : Nat} {zs : List Int} (h : ZRow w g zs) (i : Nat) (z : Int) : ZRow (w.setCell ⟨g, i, none⟩ (.int .i64 z)) g (zs.set i z) := by
  unfold ZRow Box at *
  unfold World.setCell
  simp [Array.getElem?_modify, h, List.map_set]
theorem ZRow.cell {w : World} {g : Nat} {zs : List Int} (h : ZRow w g zs) {i : Nat} (hi : i < zs.length) : w.cell? ⟨g, i, none⟩ = some (.int .i64 (zs.getD i 0)) := by
  rw [Box.cell h]
  simp [List.getD, hi]
theorem ZRow.slz {w : World} {g : Nat} {zs : List Int} (h : ZRow w g zs) (hi : ∀ z ∈ zs, I64 z) (hn : zs.length ≤ maxLen) : SlZ w (some ⟨g, 0, none⟩) zs.length zs.length zs := by
  refine ⟨⟨rfl, Nat.le_refl _, hn, fun x hx => ⟨hi x hx, rfl⟩⟩, fun h0 => ⟨g, 0, rfl, Box.lt h, fun j hj i hi2 => ?_⟩⟩
  obtain rfl : i = 0 := by omega
  rw [Nat.zero_add, Nat.mul_one, Nat.add_zero, h.cell hj, List.getElem?_eq_getElem hj]
  simp [List.getD, List.getElem?_eq_getElem hj]
theorem make_ints (w : World) (n : Nat) (hn : n ≤ 1000000) : ∃ w1, (Instr.makeSlice 38 (.int .i64 (n : Int)) (.int .i64 (n : Int))).run Tryz.prog w = .ok (.slice (some ⟨w.heap.size, 0, none⟩) n n) w1 ∧ ZRow w1 w.heap.size (List.replicate n 0) ∧ Below w.heap.size w w1 := by
  refine ⟨_, run_make_row' (P := Tryz.prog) 38 3 (.int .i64 0) 8 Tryz.underlying38 (by kernel_rfl) rfl .i64 .i64 n (by omega) (by omega) w, ?_, below_alloc _ _⟩
  have e : madeCells #[.int .i64 0] n = ((List.replicate n (0 : Int)).map (Value.int .i64)).toArray := by
    apply Array.toList_inj.1
    rw [toList_madeCells_one]
    simp
  unfold ZRow
  rw [e]
  exact Box.new w _ _
theorem setZ_at {zs : List Int} {i : Nat} (hi : i < zs.length) (z : Int) (k : Nat) : (zs.set i z).getD k 0 = if k = i then z else zs.getD k 0 := by
  rw [List.getD_eq_getElem?_getD, List.getElem?_set, List.getD_eq_getElem?_getD]
  by_cases h : i = k
  · subst h; simp [hi]
  · rw [if_neg h, if_neg (fun e => h e.symm)]

set_option maxRecDepth 100000 in
set_option maxHeartbeats 4000000 in
theorem line_newNumbers {w : World} {B : Option Addr} {m d : Nat} {outs : List Int} {mb N : Nat} {th : Int → Bool} {v : Int → Int} (ho : SlZ w B m d outs) (M : MapIs w mb N th v) (hm : m ≤ 65536) :
    Calls Tryz.prog 54 #[.slice B m d, .map (some mb)] w (RetZ (outs.map fun o => if th o = true then v o else -1) w) := by
  have hol : outs.length = m := ho.1.1
  obtain ⟨D, hD, hDm, hM⟩ := M
  obtain ⟨w1, hmk, hz1, b1⟩ := make_ints w m (by omega)
  have hD1 : w1.ownsMap Tryz.prog 3 (plainElem Tryz.prog 3) mb N D := by
    have hlt := hD.lt
    obtain ⟨es, clock, h1, r⟩ := hD
    exact ⟨es, clock, (b1.block mb hlt).trans h1, r⟩
  have hne : mb ≠ w.heap.size := by have := hD.lt; omega
  have HMK := Lib.hid hmk
  have HZ0 := Lib.hid hz1
  have HOL := Lib.hid hol
  have HM := Lib.hid hM
  have HD1 := Lib.hid hD1
  clear hmk hz1 hol hM hD hD1 hDm
  have hmk := HMK.out
  go_enter Tryz.func54, Tryz.ntmps54
  go_wp2_with fail
  clear hmk HMK
  go_loopw [15] (fun iv wr => ∃ (k : Nat) (zs : List Int), k ≤ m ∧ iv = .int .i64 k ∧ Hid (zs.length = m) ∧ Hid (ZRow wr w.heap.size zs) ∧ Hid (wr.ownsMap Tryz.prog 3 (plainElem Tryz.prog 3) mb N D) ∧ Hid (∀ i, i < k → I64 (zs.getD i 0) ∧ zs.getD i 0 = if th (outs.getD i 0) = true then v (outs.getD i 0) else -1) ∧ Below w.heap.size w wr) (fun iv _ => m - mes iv)
  case atStart => exact ⟨0, _, by omega, rfl, Lib.hid (by simp), HZ0, HD1, Lib.hid (fun i hi => absurd hi (by omega)), b1⟩
  case round =>
    clear HZ0 HD1 b1
    obtain ⟨k, zs, hk, rfl, HL, HZ, HD, HT, hb⟩ := hrel
    by_cases hk2 : k < m
    · obtain ⟨b0, off, o, rfl, hlt, hok, hoi, c0⟩ := (ho.below hb).at_ hk2
      have hog : outs.getD k 0 = o := by rw [List.getD_eq_getElem?_getD, hok]; rfl
      obtain ⟨hth, hat0⟩ := HM.out o hoi
      have c1 := HZ.out.cell (i := k) (by have := HL.out; omega)
      have c2 := Box.free HZ.out k
      have hwf := wfI hoi
      have HG := Lib.hid hog
      clear hog hok hoi
      cases hto : th o
      case false =>
        rw [hto] at hth
        have HTO := Lib.hid hto
        have HAT := Lib.hid hat0
        clear hto hat0
        go_wp2_with (at_lookup; refine wpList_lookup_own_ok_int _ rfl _ _ 71 rfl 3 3 .i64 lawI Tryz.underlying71 Tryz.underlying3 (zeroI _) mb N D rfl HD.out (.int .i64 o) _ rfl (keyOf_int_mk Tryz.underlying3 hwf) ?_; intro c9 hat hwc)
        go_roundw
        case rel =>
          refine ⟨k + 1, zs.set k (-1), by omega, by go_num, Lib.hid (by rw [List.length_set]; exact HL.out), Lib.hid (HZ.out.set k _), Lib.hid ?_, Lib.hid (fun i hi => ?_), hb.setCell (p := ⟨w.heap.size, k, none⟩) (Nat.le_refl _) _⟩
          · have hlt9 := HD.out.lt
            obtain ⟨es, clock, h1, r⟩ := HD.out
            exact ⟨es, clock, (((Keep.refl w.heap.size wr).setCell k _).block mb hlt9 hne).trans h1, r⟩
          · rw [setZ_at (by have := HL.out; omega)]
            rcases Nat.lt_or_eq_of_le (Nat.le_of_lt_succ hi) with h9 | h9
            · rw [if_neg (by omega)]; exact HT.out i h9
            · rw [if_pos h9, h9, HG.out, HTO.out]
              rw [if_neg (by decide)]
              exact ⟨by unfold I64; omega, rfl⟩
        case measure => simp [mes, intOf]; omega
      case true =>
        rw [hto] at hth
        have HTO := Lib.hid hto
        have HAT := Lib.hid hat0
        clear hto hat0
        go_wp2_with (at_lookup; refine wpList_lookup_own_ok_int _ rfl _ _ 71 rfl 3 3 .i64 lawI Tryz.underlying71 Tryz.underlying3 (zeroI _) mb N D rfl HD.out (.int .i64 o) _ rfl (keyOf_int_mk Tryz.underlying3 hwf) ?_; intro c9 hat hwc)
        go_roundw
        case rel =>
          refine ⟨k + 1, zs.set k c9, by omega, by go_num, Lib.hid (by rw [List.length_set]; exact HL.out), Lib.hid (HZ.out.set k _), Lib.hid ?_, Lib.hid (fun i hi => ?_), hb.setCell (p := ⟨w.heap.size, k, none⟩) (Nat.le_refl _) _⟩
          · have hlt9 := HD.out.lt
            obtain ⟨es, clock, h1, r⟩ := HD.out
            exact ⟨es, clock, (((Keep.refl w.heap.size wr).setCell k _).block mb hlt9 hne).trans h1, r⟩
          · rw [setZ_at (by have := HL.out; omega)]
            rcases Nat.lt_or_eq_of_le (Nat.le_of_lt_succ hi) with h9 | h9
            · rw [if_neg (by omega)]; exact HT.out i h9
            · rw [if_pos h9, h9, HG.out, HTO.out]
              rw [if_pos rfl]
              have h8 := HAT.out
              rw [HTO.out, if_pos rfl] at h8
              rw [h8] at hat
              injection hat with hat
              injection hat with _ hat
              exact ⟨I64_of_wf hwc, hat.symm⟩
        case measure => simp [mes, intOf]; omega
    · obtain rfl : k = m := by omega
      go_wp2_with fail
      go_ret
      have hzs : zs = outs.map fun o => if th o = true then v o else -1 := by
        apply List.ext_getElem
        · rw [List.length_map, HL.out, HOL.out]
        · intro i h1 h2
          have h3 := (HT.out i (by rw [HL.out] at h1; exact h1)).2
          have h4 : i < outs.length := by rw [HOL.out]; rw [HL.out] at h1; exact h1
          rw [List.getD_eq_getElem?_getD, List.getElem?_eq_getElem h1, List.getD_eq_getElem?_getD, List.getElem?_eq_getElem h4] at h3
          rw [List.getElem_map]
          exact h3
      have hl := HL.out
      refine ⟨_, _, _, rfl, ?_, hb⟩
      rw [← hzs]
      have hsz := HZ.out.slz (fun z hz => by
        obtain ⟨i, hi⟩ := List.mem_iff_getElem?.1 hz
        have hil : i < zs.length := by
          rcases Nat.lt_or_ge i zs.length with h9 | h9
          · exact h9
          · rw [List.getElem?_eq_none h9] at hi; cases hi
        have h3 := (HT.out i (by omega)).1
        rw [List.getD_eq_getElem?_getD, hi] at h3
        exact h3) (by unfold maxLen; omega)
      rw [hl] at hsz
      exact hsz

end Go.Proofs.YtibgpeaplmcogaaGreatDoor

namespace Go.Proofs.YtibgpeaplmcogaaGreatDoor
set_option maxRecDepth 100000
set_option linter.unusedVariables false
set_option linter.unusedSimpArgs false

/-! ### the text of a number -/
def dig8 (d : Nat) : UInt8 := UInt8.ofNat (48 + d)
theorem dig8_toNat {d : Nat} (h : d < 10) : (dig8 d).toNat = 48 + d := by
  unfold dig8
  rw [UInt8.toNat_ofNat']
  omega
theorem dig8_48 {d : Nat} (h : d < 10) : dig8 d = 48 ↔ d = 0 := by
  constructor
  · intro e
    have := congrArg UInt8.toNat e
    rw [dig8_toNat h] at this
    have e2 : (48 : UInt8).toNat = 48 := rfl
    omega
  · rintro rfl; rfl
/-- the digits, none for 0 -/
def txt0F : Nat → Nat → List UInt8
  | 0, _ => []
  | f + 1, n => if n = 0 then [] else txt0F f (n / 10) ++ [dig8 (n % 10)]
def txt0 (n : Nat) : List UInt8 := txt0F n n
theorem txt0F_zero (f : Nat) : txt0F f 0 = [] := by cases f <;> simp [txt0F]
theorem txt0F_fuel (f n : Nat) (h : n ≤ f) : txt0F f n = txt0F n n := by
  induction n using Nat.strongRecOn generalizing f with
  | ind n ih =>
    by_cases h0 : n = 0
    · subst h0; rw [txt0F_zero, txt0F_zero]
    · obtain ⟨f, rfl⟩ : ∃ g, f = g + 1 := ⟨f - 1, by omega⟩
      obtain ⟨m, rfl⟩ : ∃ m, n = m + 1 := ⟨n - 1, by omega⟩
      rw [txt0F, txt0F, if_neg h0, if_neg h0, ih _ (by omega) f (by omega), ih _ (by omega) m (by omega)]
theorem txt0_zero : txt0 0 = [] := rfl
theorem txt0_step {n : Nat} (h : n ≠ 0) : txt0 n = txt0 (n / 10) ++ [dig8 (n % 10)] := by
  obtain ⟨m, rfl⟩ : ∃ m, n = m + 1 := ⟨n - 1, by omega⟩
  unfold txt0
  rw [txt0F, if_neg h, txt0F_fuel _ _ (by omega)]
/-- the text -/
def txt (n : Nat) : List UInt8 := if n = 0 then [48] else txt0 n
theorem txt0_ne {n : Nat} (h : n ≠ 0) : txt0 n ≠ [] := by rw [txt0_step h]; simp
theorem txt_of {n : Nat} {l : List UInt8} (e : l = txt0 n) : (if l = [] then [48] else l) = txt n := by
  subst e
  unfold txt
  by_cases h : n = 0
  · subst h; rfl
  · rw [if_neg h, if_neg (txt0_ne h)]

/-! ### digits of a given number of places -/
def digs : Nat → Nat → List UInt8
  | 0, _ => []
  | L + 1, n => digs L (n / 10) ++ [dig8 (n % 10)]
theorem digs_length (L n : Nat) : (digs L n).length = L := by
  induction L generalizing n with
  | zero => rfl
  | succ L ih => rw [digs, List.length_append, ih]; rfl
theorem dropWhile_snoc (p : UInt8 → Bool) (l : List UInt8) (c : UInt8) : (l ++ [c]).dropWhile p = if l.dropWhile p = [] then (if p c then [] else [c]) else l.dropWhile p ++ [c] := by
  induction l with
  | nil => by_cases h : p c <;> simp [List.dropWhile, h]
  | cons a l ih =>
    by_cases h : p a
    · simp only [List.cons_append, List.dropWhile_cons, h, if_true]; exact ih
    · simp [List.dropWhile_cons, h]
theorem digs_trim (L n : Nat) (h : n < 10 ^ L) : (digs L n).dropWhile (· == 48) = txt0 n := by
  induction L generalizing n with
  | zero =>
    have : n = 0 := by simpa using h
    subst this; rfl
  | succ L ih =>
    have hd : n / 10 < 10 ^ L := by rw [Nat.pow_succ] at h; omega
    rw [digs, dropWhile_snoc, ih _ hd]
    by_cases h0 : n = 0
    · subst h0; rfl
    · rw [txt0_step h0]
      by_cases h1 : n / 10 = 0
      · rw [h1, txt0_zero, if_pos rfl, if_neg]
        · rfl
        · have hm : n % 10 ≠ 0 := by omega
          have := mt (dig8_48 (Nat.mod_lt n (by omega : 10 > 0))).1 hm
          simpa using this
      · rw [if_neg (txt0_ne h1)]
theorem digs_at (L n i : Nat) (h : i < L) : (digs L n)[L - 1 - i]? = some (dig8 (n / 10 ^ i % 10)) := by
  induction L generalizing n i with
  | zero => omega
  | succ L ih =>
    rw [digs]
    rcases i with _ | i
    · rw [List.getElem?_append_right (by rw [digs_length]; omega), digs_length]
      simp
    · rw [List.getElem?_append_left (by rw [digs_length]; omega), show L + 1 - 1 - (i + 1) = L - 1 - i by omega, ih _ _ (by omega), Nat.div_div_eq_div_mul, Nat.pow_succ, Nat.mul_comm 10]

/-! ### reading -/
def rd (l : List UInt8) : Nat := l.foldl (fun v c => v * 10 + (c.toNat - 48)) 0
/-! ### lengths and order -/
theorem txt0_ge {n : Nat} (h : n ≠ 0) : 10 ^ ((txt0 n).length - 1) ≤ n := by
  induction n using Nat.strongRecOn with
  | ind n ih =>
    have hl : (txt0 n).length = (txt0 (n / 10)).length + 1 := by rw [txt0_step h]; simp
    rw [hl, Nat.add_sub_cancel]
    by_cases h1 : n / 10 = 0
    · rw [h1, txt0_zero]; simp; omega
    · have h2 := ih _ (by omega) h1
      have h3 : 0 < (txt0 (n / 10)).length := List.length_pos_iff.2 (txt0_ne h1)
      have h4 : 10 ^ (txt0 (n / 10)).length = 10 ^ ((txt0 (n / 10)).length - 1) * 10 := by rw [← Nat.pow_succ]; congr 1; omega
      omega
theorem txt0_len {n L : Nat} (h : n < 10 ^ L) : (txt0 n).length ≤ L := by
  by_cases h0 : n = 0
  · subst h0; simp [txt0_zero]
  · have h1 := txt0_ge h0
    have h2 := Nat.lt_of_le_of_lt h1 h
    have := (Nat.pow_lt_pow_iff_right (by omega : 1 < 10)).1 h2
    omega
theorem txt_len {n L : Nat} (h : n < 10 ^ L) (hL : 0 < L) : (txt n).length ≤ L := by
  unfold txt
  split
  · simp; omega
  · exact txt0_len h
theorem W_le_ten : W ≤ 10 ^ 20 := by unfold W; decide
theorem words20 {n : Nat} (h : n < W ^ 20) : n < 10 ^ (20 * 20) := by
  have := Nat.pow_le_pow_left W_le_ten 20
  rw [← Nat.pow_mul] at this
  omega

/-! ### groups of nineteen digits -/
def B : Nat := 10000000000000000000
theorem B_eq : B = 10 ^ 19 := by decide
theorem B_pos : 0 < B := by unfold B; omega
theorem B_le_W : B ≤ W := by unfold B W; omega
theorem W_le_BB : W ≤ B ^ 2 := by unfold B W; decide
/-- the groups so far, and what is left -/
def SpInv (n : Nat) (R : Nat) (gs : List Int) : Prop := Dg B gs ∧ valB B gs + B ^ gs.length * R = n
theorem spInv_0 (n : Nat) : SpInv n (n / B) [((n % B : Nat) : Int)] := by
  refine ⟨Dg.cons (by omega) (by have := Nat.mod_lt n B_pos; omega) (Dg.nil _), ?_⟩
  simp only [valB, List.length_cons, List.length_nil, Nat.pow_succ, Nat.pow_zero, Nat.one_mul, Int.toNat_natCast, Nat.mul_zero, Nat.add_zero, Nat.zero_add]
  exact Nat.mod_add_div n B
theorem spInv_step {n R : Nat} {gs : List Int} (h : SpInv n R gs) : SpInv n (R / B) (gs ++ [((R % B : Nat) : Int)]) := by
  obtain ⟨hd, he⟩ := h
  refine ⟨hd.snoc (by omega) (by have := Nat.mod_lt R B_pos; omega), ?_⟩
  rw [valB_snoc, List.length_append, Int.toNat_natCast]
  simp only [List.length_cons, List.length_nil, Nat.zero_add, Nat.pow_succ]
  rw [Nat.mul_assoc, Nat.add_assoc, ← Nat.mul_add, Nat.mod_add_div]
  exact he
theorem spInv_small {n R N : Nat} {gs : List Int} (h : SpInv n R gs) (hn : n < W ^ N) (hR : 0 < R) : gs.length < 2 * N := by
  have h1 : B ^ gs.length ≤ n := by
    rw [← h.2]
    have := Nat.le_mul_of_pos_right (B ^ gs.length) hR
    omega
  have h2 : W ^ N ≤ B ^ (2 * N) := by
    have := Nat.pow_le_pow_left W_le_BB N
    rwa [← Nat.pow_mul] at this
  exact (Nat.pow_lt_pow_iff_right (by unfold B; omega)).1 (Nat.lt_of_le_of_lt h1 (Nat.lt_of_lt_of_le hn h2))
theorem spInv_end {n : Nat} {gs : List Int} (h : SpInv n 0 gs) : Dg B gs ∧ valB B gs = n := ⟨h.1, by have := h.2; rw [Nat.mul_zero, Nat.add_zero] at this; exact this⟩

theorem digit_lemma (g R r c : Nat) (hr : r < c) : (g + 10 ^ c * R) / 10 ^ r % 10 = g / 10 ^ r % 10 := by
  have e : 10 ^ c * R = 10 ^ r * (10 * (10 ^ (c - r - 1) * R)) := by
    rw [← Nat.mul_assoc, ← Nat.mul_assoc, ← Nat.pow_succ, ← Nat.pow_add]
    congr 2
    omega
  rw [e, Nat.add_mul_div_left _ _ (Nat.pow_pos (by omega)), Nat.add_mul_mod_self_left]
theorem group_digit {gs : List Int} (hd : Dg B gs) (k : Nat) : valB B gs / 10 ^ k % 10 = (gs.getD (k / 19) 0).toNat / 10 ^ (k % 19) % 10 := by
  have e : 10 ^ k = B ^ (k / 19) * 10 ^ (k % 19) := by
    rw [B_eq, ← Nat.pow_mul, ← Nat.pow_add]
    congr 1
    omega
  rw [e, ← Nat.div_div_eq_div_mul, valB_div B_pos hd, valB_drop, B_eq]
  exact digit_lemma _ _ _ _ (Nat.mod_lt _ (by omega))
/-- the groups and the text when k digits are written -/
def ShInv (gs : List Int) (L k : Nat) (hs zs : List Int) : Prop :=
  (hs.length = gs.length ∧ Dg B hs ∧ (∀ j, k / 19 < j → hs.getD j 0 = gs.getD j 0) ∧ hs.getD (k / 19) 0 = (((gs.getD (k / 19) 0).toNat / 10 ^ (k % 19) : Nat) : Int)) ∧
  (zs.length = L ∧ ∀ i, i < k → zs.getD (L - 1 - i) 0 = ((48 + valB B gs / 10 ^ i % 10 : Nat) : Int))
theorem shInv_0 {gs : List Int} (hd : Dg B gs) (L : Nat) : ShInv gs L 0 gs (List.replicate L 0) :=
  ⟨⟨rfl, hd, fun _ _ => rfl, by rw [Nat.zero_div, Nat.zero_mod, Nat.pow_zero, Nat.div_one]; exact (Dg_toNat (hd.at_ B_pos 0)).symm⟩, by simp, fun i h => by omega⟩
theorem shInv_digit {gs hs zs : List Int} {L k : Nat} (hd : Dg B gs) (h : ShInv gs L k hs zs) : (hs.getD (k / 19) 0).tmod 10 = ((valB B gs / 10 ^ k % 10 : Nat) : Int) := by
  rw [h.1.2.2.2, group_digit hd]
  rfl
theorem shInv_step {gs hs zs : List Int} {L k : Nat} {v d : Int} (hd : Dg B gs) (h : ShInv gs L k hs zs) (hk : k < L) (hL : L ≤ 19 * gs.length) (hv : v = (hs.getD (k / 19) 0).tdiv 10) (hdg : d = ((48 + valB B gs / 10 ^ k % 10 : Nat) : Int)) :
    ShInv gs L (k + 1) (hs.set (k / 19) v) (zs.set (L - 1 - k) d) := by
  obtain ⟨⟨h1, h2, h3, h4⟩, h5, h6⟩ := h
  have hq : k / 19 < gs.length := by omega
  have hv2 : v = (((gs.getD (k / 19) 0).toNat / 10 ^ (k % 19) / 10 : Nat) : Int) := by rw [hv, h4]; rfl
  have hb := h2.at_ B_pos (k / 19)
  have hv3 : 0 ≤ v ∧ v < (B : Int) := by
    rw [hv2]
    rw [h4] at hb
    have := Nat.div_le_self ((gs.getD (k / 19) 0).toNat / 10 ^ (k % 19)) 10
    omega
  refine ⟨⟨by rw [List.length_set]; exact h1, h2.set _ hv3.1 hv3.2, fun j hj => ?_, ?_⟩, by rw [List.length_set]; exact h5, fun i hi => ?_⟩
  · rw [getD_set_ne _ (by omega)]
    exact h3 j (by omega)
  · by_cases hr : k % 19 = 18
    · rw [show (k + 1) / 19 = k / 19 + 1 by omega, show (k + 1) % 19 = 0 by omega, getD_set_ne _ (by omega), h3 _ (by omega), Nat.pow_zero, Nat.div_one]
      exact (Dg_toNat (hd.at_ B_pos _)).symm
    · rw [show (k + 1) / 19 = k / 19 by omega, show (k + 1) % 19 = k % 19 + 1 by omega, getD_set_self _ (by omega), hv2, Nat.div_div_eq_div_mul, Nat.pow_succ]
  · by_cases hik : i = k
    · subst hik
      rw [getD_set_self _ (by omega), hdg]
    · rw [getD_set_ne _ (by omega)]
      exact h6 i (by omega)
theorem shInv_end {gs hs zs : List Int} {L : Nat} (h : ShInv gs L L hs zs) : (zs.map fun z => UInt8.ofNat z.toNat) = digs L (valB B gs) := by
  obtain ⟨_, h5, h6⟩ := h
  apply List.ext_getElem?
  intro j
  by_cases hj : j < L
  · have e : j = L - 1 - (L - 1 - j) := by omega
    have h7 := h6 (L - 1 - j) (by omega)
    have h8 := digs_at L (valB B gs) (L - 1 - j) (by omega)
    rw [← e] at h7 h8
    rw [h8, List.getElem?_map, List.getElem?_eq_getElem (by omega)]
    rw [List.getD_eq_getElem?_getD, List.getElem?_eq_getElem (by omega)] at h7
    simp only [Option.getD_some] at h7
    rw [Option.map_some, h7, Int.toNat_natCast]
    rfl
  · rw [List.getElem?_eq_none (by rw [List.length_map]; omega), List.getElem?_eq_none (by rw [digs_length]; omega)]

/-! ### by ten, half word by half word -/
theorem toNat_join {r x c : Int} (hr : 0 ≤ r) (hx : 0 ≤ x) (hc : c = r * 4294967296 + x) : c.toNat = r.toNat * 4294967296 + x.toNat := by
  rw [hc, Int.toNat_add (Int.mul_nonneg hr (by decide)) hx, Int.toNat_mul hr (by decide)]
  rfl
theorem H_eq : H = 4294967296 := rfl
def TenInv (hs : List Int) (k : Nat) (r : Int) (qs : List Int) : Prop :=
  qs.length = hs.length ∧ Dg H qs ∧ 0 ≤ r ∧ r < 10 ∧ (∀ j, j < k → qs.getD j 0 = hs.getD j 0) ∧ valB H (hs.drop k) = 10 * valB H (qs.drop k) + r.toNat
theorem tenInv_0 {hs : List Int} (hd : Dg H hs) : TenInv hs hs.length 0 hs := by
  refine ⟨rfl, hd, by omega, by omega, fun _ _ => rfl, ?_⟩
  rw [List.drop_length]
  rfl
theorem ten_step (b h Q r c : Nat) (hc : c = r * b + h) : h + b * (10 * Q + r) = 10 * (c / 10 + b * Q) + c % 10 := by
  have e1 : b * (10 * Q + r) = 10 * (b * Q) + r * b := by rw [Nat.mul_add, Nat.mul_left_comm, Nat.mul_comm r b]
  have e2 : 10 * (c / 10 + b * Q) = 10 * (c / 10) + 10 * (b * Q) := Nat.mul_add _ _ _
  rw [e1, e2]
  omega
theorem tenInv_step {hs qs : List Int} {k : Nat} {r c : Int} (hd : Dg H hs) (h : TenInv hs (k + 1) r qs) (hk : k < hs.length) (hc : c = r * 4294967296 + qs.getD k 0) :
    TenInv hs k (c.tmod 10) (qs.set k (c.tdiv 10)) ∧ 0 ≤ c ∧ c < 42949672960 := by
  obtain ⟨h1, h2, h3, h4, h5, h6⟩ := h
  have e := h5 k (by omega)
  have hb := hd.at_ H_pos k
  rw [e] at hc
  have hH : (H : Int) = 4294967296 := rfl
  have hc0 : 0 ≤ c ∧ c < 42949672960 := by omega
  have et : c.tmod 10 = c % 10 := Int.tmod_eq_emod_of_nonneg hc0.1
  have ed : c.tdiv 10 = c / 10 := Int.tdiv_eq_ediv_of_nonneg hc0.1
  rw [et, ed]
  refine ⟨⟨by rw [List.length_set]; exact h1, h2.set _ (by omega) (by omega), by omega, by omega, fun j hj => ?_, ?_⟩, hc0⟩
  · rw [getD_set_ne _ (by omega)]
    exact h5 j (by omega)
  · have hset : (qs.set k (c / 10)).drop (k + 1) = qs.drop (k + 1) := by
      rw [List.drop_set]
      simp
    rw [valB_drop, valB_drop H (qs.set k (c / 10)), hset, getD_set_self _ (by omega), h6]
    have e7 : (c / 10).toNat = c.toNat / 10 := by omega
    have e8 : (c % 10).toNat = c.toNat % 10 := by omega
    rw [e7, e8]
    have e9 : c.toNat = r.toNat * 4294967296 + (hs.getD k 0).toNat := toNat_join h3 hb.1 hc
    exact ten_step H _ _ _ _ (by rw [H_eq]; exact e9)
theorem tenInv_end {hs qs : List Int} {r : Int} (h : TenInv hs 0 r qs) : valB H qs = valB H hs / 10 ∧ r = ((valB H hs % 10 : Nat) : Int) := by
  have h6 := h.2.2.2.2.2
  rw [List.drop_zero, List.drop_zero] at h6
  have := h.2.2.1
  have := h.2.2.2.1
  omega
end Go.Proofs.YtibgpeaplmcogaaGreatDoor

namespace Go.Proofs.YtibgpeaplmcogaaGreatDoor
set_option maxRecDepth 100000
open Go.RowKit
set_option linter.unusedVariables false
set_option linter.unusedSimpArgs false

/-- the bytes of a string -/
def by_ (s : ByteArray) : List UInt8 := s.data.toList
/-- the string of some bytes -/
def str (l : List UInt8) : ByteArray := ⟨l.toArray⟩
theorem by_str (l : List UInt8) : by_ (str l) = l := rfl
theorem str_by (s : ByteArray) : str (by_ s) = s := by
  cases s
  simp [str, by_]
theorem by_length (s : ByteArray) : (by_ s).length = s.size := by unfold by_; rw [Array.length_toList]; rfl
theorem str_size (l : List UInt8) : (str l).size = l.length := by rw [← by_length]; rfl
theorem toList_by (s : ByteArray) : s.toList = by_ s := ByteArray.toList_eq s
theorem by_drop (s : ByteArray) (k : Nat) : by_ (s.extract k s.size) = (by_ s).drop k := by
  obtain ⟨l, rfl⟩ : ∃ l, s = str l := ⟨_, (str_by s).symm⟩
  have : (str l).extract k (str l).size = str ((l.drop k).take ((str l).size - k)) := ByteArray.extract_mk l k _
  rw [this, by_str, by_str, str_size]
  exact List.take_of_length_le (by rw [List.length_drop]; omega)
theorem by_at (s : ByteArray) (k : Nat) (h : k < s.size) : (by_ s)[k]? = some s[k] := by
  rw [List.getElem?_eq_getElem (by rw [by_length]; exact h)]
  rfl
theorem by_cons (s : ByteArray) (h : 0 < s.size) : by_ s = s[0] :: (by_ s).drop 1 := by
  have h1 := by_at s 0 h
  cases e : by_ s with
  | nil => rw [e] at h1; cases h1
  | cons a l => rw [e] at h1; simp at h1; rw [h1]; rfl

def RetStr (l : List UInt8) (w : World) (e : Ending) (w' : World) : Prop := ∃ s, e = .returned (.string s) ∧ by_ s = l ∧ w = w'

set_option maxHeartbeats 400000 in
theorem trim_byte (s : ByteArray) (w : World) :
    Calls Tryz.prog 193 #[.string s, .int .u8 48] w (RetStr ((by_ s).dropWhile (· == 48)) w) := by
  obtain ⟨T, hT⟩ : ∃ T, (by_ s).dropWhile (· == 48) = T := ⟨_, rfl⟩
  rw [hT]
  have HT := Lib.hid hT
  clear hT
  go_enter Tryz.func193, Tryz.ntmps193
  go_wp2_with fail
  go_loopw [0] (fun sv wr => ∃ s, sv = .string s ∧ Hid ((by_ s).dropWhile (· == 48) = T) ∧ w = wr) (fun sv _ => match sv with | .string s => s.size | _ => 0)
  case atStart => exact ⟨s, rfl, HT, rfl⟩
  case round =>
    clear HT
    obtain ⟨s, rfl, HT, rfl⟩ := hrel
    by_cases h0 : 0 < s.size
    · have hc := by_cons s h0
      have HC := Lib.hid hc
      clear hc
      by_cases h1 : s[0] = 48
      · have e : ((s[0].toNat : Int) == 48) = true := by rw [h1]; rfl
        have hd : (by_ (s.extract 1 s.size)).dropWhile (· == 48) = T := by
          rw [by_drop, ← HT.out]
          conv => rhs; rw [HC.out, h1]
          rfl
        have hs : (s.extract 1 s.size).size < s.size := by rw [ByteArray.size_extract]; omega
        have HD := Lib.hid hd
        have HS := Lib.hid hs
        clear hd hs h1
        go_wp2_with fail
        go_roundw
        case rel => exact ⟨_, rfl, HD, trivial⟩
        case measure => exact HS.out
      · have e : ((s[0].toNat : Int) == 48) = false := by
          rw [beq_eq_false_iff_ne]
          intro e
          apply h1
          rw [← UInt8.ofNat_toNat (x := s[0]), show s[0].toNat = 48 by omega]
          rfl
        have hd : by_ s = T := by
          rw [← HT.out]
          conv => lhs; rw [HC.out]
          conv => rhs; rw [HC.out]
          rw [List.dropWhile_cons, if_neg (by simpa using h1)]
        have HD := Lib.hid hd
        clear hd h1
        go_wp2_with fail
        go_ret
        exact ⟨_, rfl, HD.out, rfl⟩
    · have hd : by_ s = T := by
        rw [← HT.out, List.eq_nil_of_length_eq_zero (show (by_ s).length = 0 by rw [by_length]; omega)]
        rfl
      have HD := Lib.hid hd
      clear hd
      go_wp2_with fail
      go_ret
      exact ⟨_, rfl, HD.out, rfl⟩

set_option maxRecDepth 100000 in
set_option maxHeartbeats 400000 in
theorem trim_left (s : ByteArray) (w : World) :
    Calls Tryz.prog 125 #[.string s, .string ⟨#[48]⟩] w (RetStr ((by_ s).dropWhile (· == 48)) w) := by
  by_cases h0 : s.size = 0
  · obtain rfl : s = ⟨#[]⟩ := by
      rw [← str_by s, List.eq_nil_of_length_eq_zero (show (by_ s).length = 0 by rw [by_length]; omega)]
      rfl
    clear h0
    go_enter Tryz.func125, Tryz.ntmps125
    go_wp2_with fail
    go_ret
    exact ⟨_, rfl, rfl, rfl⟩
  · have e : (s.toList == []) = false := by
      rw [beq_eq_false_iff_ne, toList_by]
      intro e
      apply h0
      rw [← by_length, e]; rfl
    have e2 : s.toList.isEmpty = false := by
      cases h : s.toList with
      | nil => rw [h] at e; cases e
      | cons => rfl
    have e3 : ¬ s.toList = [] := by simpa using e
    have HT := Lib.hid (trim_byte s w)
    clear h0 e
    go_enter Tryz.func125, Tryz.ntmps125
    go_wp2_with fail
    refine HT.out.mono ?_
    rintro e w' ⟨s1, rfl, hs, rfl⟩
    have HS := Lib.hid hs
    clear hs
    go_wp2_with fail
    go_ret
    exact ⟨_, rfl, HS.out, rfl⟩

end Go.Proofs.YtibgpeaplmcogaaGreatDoor

namespace Go.Proofs.YtibgpeaplmcogaaGreatDoor
set_option maxRecDepth 100000
open Go.RowKit
set_option linter.unusedVariables false
set_option linter.unusedSimpArgs false

theorem Own.below {t : TypeId} {base : Nat} {w w' : World} {v : Value} {zs : List Int} (h : Own t base w v zs) (hb : Below w.heap.size w w') : Own t base w' v zs := by
  obtain ⟨h1, h2⟩ := h
  refine ⟨h1, ?_⟩
  rcases h2 with h2 | ⟨g, cap, cur, hv, hg, hh, r⟩
  · exact .inl h2
  · have hlt : g < w.heap.size := by
      rcases Nat.lt_or_ge g w.heap.size with h9 | h9
      · exact h9
      · rw [Array.getElem?_eq_none h9] at hh; cases hh
    exact .inr ⟨g, cap, cur, hv, hg, (hb.block g hlt).trans hh, r⟩
theorem Own.lit {w w1 : World} {t : TypeId} (hs : w.heap.size ≤ w1.heap.size) (x : Int) : Own t w.heap.size (w1.alloc (.cells #[.int .u64 x] t)) (.slice (some ⟨w1.heap.size, 0, none⟩) 1 1) [x] :=
  ⟨rfl, .inr ⟨w1.heap.size, 1, _, rfl, hs, heap_alloc_new w1 _, Nat.le_refl _, by unfold maxLen; omega, rfl, rfl⟩⟩
/-- a slice apart from the row that grows -/
theorem Sl.grown {w w1 : World} {o : Obj} {r : Option Nat} {A : Option Addr} {n c : Nat} {xs : List Int} (s : Sl w A n c xs) (hg : (w.alloc o).grownBy w1 r) (hne : ∀ b off, A = some ⟨b, off, none⟩ → some b ≠ r) : Sl w1 A n c xs := by
  refine ⟨s.1, fun h0 => ?_⟩
  obtain ⟨b, off, e, hlt, hc⟩ := s.2 h0
  have hsz := hg.size
  refine ⟨b, off, e, by simp at hsz; omega, fun j hj => ?_⟩
  have hbl := hg.block b (by simp; omega) (hne b off e)
  have e1 : w1.cell? ⟨b, off + j, none⟩ = (w.alloc o).cell? ⟨b, off + j, none⟩ := World.cell?_of_block (a := ⟨b, off + j, none⟩) hbl
  rw [e1, World.cell?_alloc_past _ _ _ hlt]
  exact hc j hj

/-- a call that returns the groups of a number -/
def RetGrp (v N : Nat) (w : World) (e : Ending) (w' : World) : Prop := ∃ x gs, e = .returned x ∧ Own 76 w.heap.size w' x gs ∧ Dg B gs ∧ valB B gs = v ∧ 0 < gs.length ∧ gs.length ≤ 2 * N + 1 ∧ Below w.heap.size w w'

theorem words_nil_iff {R n : Nat} (h : n = (words R).length) : n = 0 ↔ R = 0 := by
  constructor
  · intro e
    rw [e] at h
    rw [← val_words R, List.eq_nil_of_length_eq_zero h.symm]
    rfl
  · rintro rfl; exact h

set_option maxHeartbeats 1000000 in
theorem digit_split {w : World} {A : Option Addr} {n c N : Nat} {xs : List Int} (h : Sl w A n c xs) (hn : n ≤ N) (hN : N ≤ 1000) :
    Calls Tryz.prog 124 #[.slice A n c] w (RetGrp (val xs) N w) := by
  have va : val xs < W ^ N := val_lt_pow h.us (by have := h.len; omega)
  have QW := quot_word_new h (by omega) 10000000000000000000 (by unfold U; omega) (by omega)
  rw [show (10000000000000000000 : Int).toNat = B from rfl] at QW
  have hi0 := spInv_0 (val xs)
  have hdl : val xs / B < W ^ N := Nat.lt_of_le_of_lt (Nat.div_le_self _ _) va
  obtain ⟨i0, hi, hz0, hz1, hz2⟩ := info_parts infoW
  generalize val xs / B = R0 at *
  generalize ((val xs % B : Nat) : Int) = g0 at *
  have HQ := Lib.hid QW
  have HI := Lib.hid hi0
  have HV := Lib.hid va
  have HD := Lib.hid hdl
  clear QW hi0 hdl va
  go_enter Tryz.func124, Tryz.ntmps124
  go_wp2_with fail
  refine HQ.out.mono ?_
  rintro e w1 ⟨A1, n1, c1, rfl, s1, b1, _⟩
  have hown := Own.lit (t := 76) b1.size g0
  have hb1 := b1.alloc b1.size (.cells #[.int .u64 g0] 76)
  have s1' := s1.below (below_alloc w1 (.cells #[.int .u64 g0] 76))
  have HO := Lib.hid hown
  clear hown s1 b1 HQ
  go_wp2_with fail
  go_loopw [3, 6] (fun rv gv wr => ∃ (R : Nat) (A : Option Addr) (n c : Nat) (gs : List Int), rv = .slice A n c ∧ Sl wr A n c (words R) ∧ Own 76 w.heap.size wr gv gs ∧ Hid (SpInv (val xs) R gs) ∧ Hid (R < W ^ N) ∧ 0 < gs.length ∧ gs.length ≤ 2 * N + 1 ∧ Below w.heap.size w wr) (fun rv _ wr => mesV rv wr)
  case atStart => exact ⟨R0, _, _, _, [g0], rfl, s1', HO.out, HI, HD, by simp, by simp, hb1⟩
  case round =>
    clear s1' HO HI HD hb1
    obtain ⟨R, A, n, c, gs, rfl, s, hown, HI, HR, hl0, hl1, hb⟩ := hrel
    have hnw := words_nil_iff s.len
    by_cases h0 : n = 0
    · subst h0
      obtain rfl : R = 0 := hnw.1 rfl
      have he := spInv_end HI.out
      have HE := Lib.hid he
      clear he hnw
      go_wp2_with fail
      go_ret
      exact ⟨_, gs, rfl, hown, HE.out.1, HE.out.2, hl0, hl1, hb⟩
    · have hnp : 0 < n := by omega
      have hRp : 0 < R := by
        rcases Nat.eq_zero_or_pos R with e | e
        · exact absurd (hnw.2 e) h0
        · exact e
      have hgl := spInv_small HI.out HV.out hRp
      have hst := spInv_step HI.out
      have hnN : n ≤ N := s.small HR.out
      have QW := quot_word_new s (by omega) 10000000000000000000 (by unfold U; omega) (by omega)
      rw [show (10000000000000000000 : Int).toNat = B from rfl, val_words] at QW
      have hm := mesV_val s
      rw [val_words] at hm
      have hlt : R / B < R := Nat.div_lt_self hRp (by unfold B; omega)
      generalize R / B = R' at *
      generalize ((R % B : Nat) : Int) = g at *
      have HQ := Lib.hid QW
      have HS := Lib.hid hst
      have HM := Lib.hid hm
      have HLT := Lib.hid hlt
      clear QW hst hm hlt hnw hRp s
      go_wp2_with fail
      refine HQ.out.mono ?_
      rintro e w2 ⟨A2, n2, c2, rfl, s2, b2, nw2⟩
      have hb2 := hb.trans (b2.mono hb.size)
      have hown2 := hown.below b2
      have hne : ∀ b off, A2 = some ⟨b, off, none⟩ → some b ≠ u6.ownBlock := fun b off e1 e2 => by
        have h1 := nw2 b off e1
        have h2 := (hown.out.lt b e2.symm).2
        omega
      clear hown b2 HQ nw2
      go_wp2_with (at_builtin; refine wpList_append_own _ rfl (.tmp 24) (.tmp 26) 23 rfl w.heap.size 76 i0 (.int .u64 0) 1 8 Tryz.underlying23 hi hz0 hz1 hz2 rfl (by decide) _ _ _ rfl (hown2.out.alloc _) ⟨w2.heap.size, 0, none⟩ 1 1 [.int .u64 g] rfl rfl ?c1 ?c2 ?c3 ?c4 ?c5 ?_)
      case c1 => exact cell_one_new _ _ _
      case c2 => intro u hu; simp at hu; subst hu; rfl
      case c3 => unfold maxLen; omega
      case c4 => omega
      case c5 => have := hb2.size; simp; omega
      intro v' w3 hown' hgrow _
      have hb3 := own_below hb2 hown2 hgrow
      have hown3 : Own 76 w.heap.size w3 v' (gs ++ [g]) := Own.snoc hown'
      have s3 := s2.grown hgrow hne
      have hm3 := mesV_val s3
      rw [val_words] at hm3
      have HM3 := Lib.hid hm3
      have HO := Lib.hid hown3
      have hgl1 : (gs ++ [g]).length ≤ 2 * N + 1 := by simp; omega
      have hgl0 : 0 < (gs ++ [g]).length := by simp
      have HL1 := Lib.hid hgl1
      have HL0 := Lib.hid hgl0
      clear hown' hgrow hm3 hown3 hgl1 hgl0 hne hown2 s2
      go_wp2_with fail
      go_roundw
      case rel => exact ⟨R', _, _, _, gs ++ [g], rfl, s3, HO.out, HS, Lib.hid (Nat.lt_trans HLT.out HR.out), HL0.out, HL1.out, hb3⟩
      case measure => rw [HM3.out, HM.out]; exact HLT.out

end Go.Proofs.YtibgpeaplmcogaaGreatDoor

namespace Go.Proofs.YtibgpeaplmcogaaGreatDoor
set_option maxRecDepth 100000
open Go.RowKit
set_option linter.unusedVariables false
set_option linter.unusedSimpArgs false

/-- block g begins with the integers zs, none frozen -/
def Cl (k : IntKind) (w : World) (g : Nat) (zs : List Int) : Prop := ∀ j, j < zs.length → w.cell? ⟨g, j, none⟩ = some (.int k (zs.getD j 0)) ∧ w.frozen? ⟨g, j, none⟩ = false
theorem Cl.set {k : IntKind} {w : World} {g : Nat} {zs : List Int} (h : Cl k w g zs) (i : Nat) (hi : i < zs.length) (u : Int) : Cl k (w.setCell ⟨g, i, none⟩ (.int k u)) g (zs.set i u) := by
  intro j hj
  rw [List.length_set] at hj
  refine ⟨?_, by rw [World.frozen?_setCell]; exact (h j hj).2⟩
  by_cases e : i = j
  · subst e
    rw [World.cell?_setCell_same _ _ _ (h i hi).1, getD_set_self _ hi]
  · rw [World.cell?_setCell_other _ _ _ _ (by intro e2; injection e2 with _ e3; exact e e3), getD_set_ne _ e]
    exact (h j hj).1
theorem Cl.other {k : IntKind} {w : World} {g : Nat} {zs : List Int} (h : Cl k w g zs) {g' : Nat} (hg : g' ≠ g) (i : Nat) (u : Value) : Cl k (w.setCell ⟨g', i, none⟩ u) g zs := by
  intro j hj
  refine ⟨?_, by rw [World.frozen?_setCell]; exact (h j hj).2⟩
  rw [World.cell?_setCell_other _ _ _ _ (by intro e2; injection e2 with e3; exact hg e3)]
  exact (h j hj).1
theorem Cl.below {k : IntKind} {w w' : World} {g : Nat} {zs : List Int} (h : Cl k w g zs) (hb : Below w.heap.size w w') (hg : g < w.heap.size) : Cl k w' g zs := by
  intro j hj
  exact ⟨(hb.cell (p := ⟨g, j, none⟩) hg).trans (h j hj).1, (hb.frozen (p := ⟨g, j, none⟩) hg).trans (h j hj).2⟩
theorem Own.cl {t : TypeId} {base : Nat} {w : World} {v : Value} {zs : List Int} (h : Own t base w v zs) (h0 : 0 < zs.length) : ∃ g cap, v = .slice (some ⟨g, 0, none⟩) zs.length cap ∧ base ≤ g ∧ g < w.heap.size ∧ Cl .u64 w g zs := by
  have ho := h.out
  obtain ⟨h1, h2⟩ := h
  rcases h2 with ⟨_, e⟩ | ⟨g, cap, cur, rfl, hg, hh, r⟩
  · omega
  · have hlt : g < w.heap.size := (ho.lt g rfl).2
    refine ⟨g, cap, rfl, hg, hlt, fun j hj => ⟨?_, ho.frozenAt j⟩⟩
    rw [ho.cellAt j (by omega)]
    simp [vs, List.getD_eq_getElem?_getD, List.getElem?_eq_getElem hj]
theorem infoB : (Tryz.prog.info? 5).map (fun i => (i.zero, i.size, i.bytes)) = some (some (.int .u8 0), 1, 1) := by kernel_rfl
theorem make_bytes (w : World) (n : Nat) (hn : n ≤ 1000000) : ∃ w1, (Instr.makeSlice 111 (.int .i64 (n : Int)) (.int .i64 (n : Int))).run Tryz.prog w = .ok (.slice (some ⟨w.heap.size, 0, none⟩) n n) w1 ∧ Cl .u8 w1 w.heap.size (List.replicate n 0) ∧ Below w.heap.size w w1 ∧ w1.heap.size = w.heap.size + 1 := by
  refine ⟨_, run_make_row' (P := Tryz.prog) 111 5 (.int .u8 0) 1 Tryz.underlying111 infoB rfl .i64 .i64 n (by omega) (by omega) w, ?_, (Below.refl _ _).alloc (Nat.le_refl _) _, by simp⟩
  intro j hj
  have hj' : j < n := by simpa using hj
  have e : madeCells #[.int .u8 0] n = ((List.replicate n (0 : Int)).map (Value.int .u8)).toArray := by
    apply Array.toList_inj.1
    rw [toList_madeCells_one]
    simp
  have hh := heap_alloc_new w (.cells (madeCells #[.int .u8 0] n) 5)
  rw [e] at hh ⊢
  refine ⟨?_, by unfold World.frozen?; simp only [hh]; simp⟩
  rw [cell_of_row _ w.heap.size j _ 5 (0, 0) hh]
  simp [List.getD_eq_getElem?_getD, hj']

/-- a call that returns a string -/
def RetS (l : List UInt8) (w : World) (e : Ending) (w' : World) : Prop := ∃ s, e = .returned (.string s) ∧ by_ s = l ∧ Below w.heap.size w w'

set_option maxHeartbeats 1000000 in
theorem digit_show {w : World} {A : Option Addr} {n c N : Nat} {xs : List Int} (h : Sl w A n c xs) (hn : n ≤ N) (hN : N ≤ 1000) :
    Calls Tryz.prog 71 #[.slice A n c] w (RetS (txt (val xs)) w) := by
  have SP := digit_split h hn hN
  have HSP := Lib.hid SP
  clear SP h
  generalize val xs = v at *
  go_enter Tryz.func71, Tryz.ntmps71
  go_wp2_with fail
  refine HSP.out.mono ?_
  rintro e w1 ⟨x, gs, rfl, ho, hd, hv, hl0, hl1, b1⟩
  obtain ⟨g1, cap, rfl, hg1, hg1', hcl⟩ := ho.cl hl0
  obtain ⟨m, em⟩ : ∃ m, gs.length = m := ⟨_, rfl⟩
  rw [em] at hl0 hl1
  rw [em]
  obtain ⟨L, eL⟩ : ∃ L, m * 19 = L := ⟨_, rfl⟩
  have hL1 : L ≤ 50000 := by omega
  have hL2 : 19 ≤ L := by omega
  have hL3 : L ≤ 19 * gs.length := by omega
  have hL4 : ∀ k, k < L → k / 19 < m := fun k hk => by omega
  obtain ⟨w2, hmk, hcz, hb2, hs2⟩ := make_bytes w1 L (by omega)
  rw [show (L : Int) = (m : Int) * 19 by omega] at hmk
  have hcl2 := hcl.below hb2 hg1'
  have hbw2 := b1.trans (hb2.mono b1.size)
  have hsi := shInv_0 hd L
  have hne : w1.heap.size ≠ g1 := by omega
  have hbw1 := b1.size
  have HEL := Lib.hid eL
  have HEM := Lib.hid em
  have HD := Lib.hid hd
  have HV := Lib.hid hv
  have HL3 := Lib.hid hL3
  have HL4 := Lib.hid hL4
  have HCL := Lib.hid hcl2
  have HCZ := Lib.hid hcz
  have HSI := Lib.hid hsi
  clear ho hd hv hcl hcl2 hcz hsi hL3 hL4 em eL hs2 b1 hb2 HSP
  go_wp2_with fail
  go_loopw [16] (fun iv wr => ∃ (k : Nat) (hs zs : List Int), k ≤ L ∧ iv = .int .i64 k ∧ Hid (ShInv gs L k hs zs) ∧ Hid (Cl .u64 wr g1 hs) ∧ Hid (Cl .u8 wr w1.heap.size zs) ∧ Below w.heap.size w wr) (fun iv _ => L - (intOf iv).toNat)
  case atStart => exact ⟨0, _, _, by omega, rfl, HSI, HCL, HCZ, hbw2⟩
  case round =>
    clear HSI HCL HCZ hbw2 hmk
    obtain ⟨k, hs, zs, hk, rfl, HSI, HCL, HCZ, hb⟩ := hrel
    by_cases hk2 : k < L
    · obtain ⟨q, eq⟩ : ∃ q, k / 19 = q := ⟨_, rfl⟩
      have hqm : q < m := by rw [← eq]; exact HL4.out k hk2
      obtain ⟨p, ep⟩ : ∃ p, L - 1 - k = p := ⟨_, rfl⟩
      have hp : p < L := by omega
      have hlz : zs.length = L := HSI.out.2.1
      have hlh : hs.length = m := by rw [HSI.out.1.1]; exact HEM.out
      obtain ⟨z, ez⟩ : ∃ z, zs.getD p 0 = z := ⟨_, rfl⟩
      obtain ⟨x, ex⟩ : ∃ x, hs.getD q 0 = x := ⟨_, rfl⟩
      have hc1 := (HCL.out q (by omega)).1
      have hf1 := (HCL.out q (by omega)).2
      have hc2 := (HCZ.out p (by omega)).1
      have hf2 := (HCZ.out p (by omega)).2
      rw [ex] at hc1
      rw [ez] at hc2
      have hxb := HSI.out.1.2.1.at_ B_pos q
      rw [ex] at hxb
      have hxu : 0 ≤ x ∧ x < 18446744073709551616 := by have h9 := B_le_W; have h8 : (W : Int) = 18446744073709551616 := rfl; omega
      obtain ⟨d, ed⟩ : ∃ d : Int, x % 10 = d := ⟨_, rfl⟩
      obtain ⟨t, et⟩ : ∃ t : Int, x / 10 = t := ⟨_, rfl⟩
      have hd0 : 0 ≤ d ∧ d < 10 := by omega
      have hdig := shInv_digit HD.out HSI.out
      have hst := fun v d => shInv_step (v := v) (d := d) HD.out HSI.out hk2 HL3.out
      rw [eq, ex] at hdig
      simp only [eq, ex, ep] at hst
      have hst2 := hst t (48 + d) (by rw [← et]; exact (Int.tdiv_eq_ediv_of_nonneg hxu.1).symm) (by rw [Int.tmod_eq_emod_of_nonneg hxu.1, ed] at hdig; rw [hdig]; omega)
      have hcl2 := (HCZ.out.set p (by omega) (48 + d)).other (g' := g1) hne.symm q (.int .u64 t)
      have hcl1 := (HCL.out.other hne p (.int .u8 (48 + d))).set q (by omega) t
      have hcx := (HCL.out.other hne p (.int .u8 (48 + d)) q (by omega)).1
      rw [ex] at hcx
      have eqi : (k : Int) / 19 = (q : Int) := by omega
      have epi : (L : Int) - 1 - (k : Int) = (p : Int) := by omega
      have HST := Lib.hid hst2
      have HC1 := Lib.hid hcl1
      have HC2 := Lib.hid hcl2
      clear hst hst2 hcl1 hcl2 hdig ez ex eq ep hlz hlh hxb HCL HCZ HSI
      go_wp2_with fail
      go_roundw
      case rel => exact ⟨k + 1, _, _, by omega, by go_num, HST, HC1, HC2, (hb.setCell hbw1 _).setCell hg1 _⟩
      case measure => simp [intOf]; omega
    · obtain rfl : k = L := by omega
      have hlz : zs.length = k := HSI.out.2.1
      have hen := shInv_end HSI.out
      have hlt := valB_lt HD.out
      rw [HEM.out, B_eq, ← Nat.pow_mul] at hlt
      have htr := digs_trim k (valB B gs) (by rw [← HEL.out, Nat.mul_comm]; exact hlt)
      rw [HV.out] at hen htr
      have hcv := run_convert_bytes_arg (P := Tryz.prog) wr 111 5 Tryz.underlying111 Tryz.underlying5 w1.heap.size 0 k k zs hlz (fun i hi => by rw [Nat.zero_add]; exact (HCZ.out i (by omega)).1) 9 Tryz.underlying9
      have hby : by_ (strOfNums zs) = digs k v := by unfold by_; rw [strOfNums_data]; exact hen
      have TL := trim_left (strOfNums zs) wr
      rw [hby, htr] at TL
      generalize strOfNums zs = s0 at *
      have HTL := Lib.hid TL
      clear TL hby hen htr hlt hlz HCZ HCL HSI
      go_wp2_with fail
      refine HTL.out.mono ?_
      rintro e w' ⟨s1, rfl, hs1, rfl⟩
      have htx := txt_of hs1
      by_cases hv0 : by_ s1 = []
      · rw [if_pos hv0] at htx
        obtain rfl : s1 = ⟨#[]⟩ := by rw [← str_by s1, hv0]; rfl
        have HX := Lib.hid htx
        clear htx hv0 hs1 HTL hcv
        go_wp2_with fail
        go_ret
        exact ⟨_, rfl, HX.out, hb⟩
      · rw [if_neg hv0] at htx
        have e3 : ¬ s1.toList = [] := by rw [toList_by]; exact hv0
        have e2 : s1.toList.isEmpty = false := by
          cases h : s1.toList with
          | nil => exact absurd h e3
          | cons => rfl
        have HX := Lib.hid htx
        clear htx hv0 hs1 HTL hcv
        go_wp2_with fail
        go_ret
        exact ⟨_, rfl, HX.out, hb⟩

end Go.Proofs.YtibgpeaplmcogaaGreatDoor

namespace Go.Proofs.YtibgpeaplmcogaaGreatDoor
set_option maxRecDepth 100000
open Go.RowKit
set_option linter.unusedVariables false
set_option linter.unusedSimpArgs false

/-- the digits so far -/
def DigTo (s : ByteArray) (k : Nat) : Prop := ∀ j (hj : j < s.size), j < k → 48 ≤ s[j].toNat ∧ s[j].toNat ≤ 57
theorem DigTo.step {s : ByteArray} {k : Nat} (h : DigTo s k) (hk : k < s.size) (h1 : ¬ s[k].toNat < 48) (h2 : ¬ 57 < s[k].toNat) : DigTo s (k + 1) := fun j hj hjk => by
  by_cases e : j = k
  · subst e; omega
  · exact h j hj (by omega)


end Go.Proofs.YtibgpeaplmcogaaGreatDoor

namespace Go.Proofs.YtibgpeaplmcogaaGreatDoor
set_option maxRecDepth 100000
open Go.RowKit
set_option linter.unusedVariables false
set_option linter.unusedSimpArgs false

/-- whether a text is a number's -/
def numB (l : List UInt8) : Bool := !l.isEmpty && (!(l.head? == some 48) || l == [48]) && l.all fun c => decide (48 ≤ c.toNat ∧ c.toNat ≤ 57)
/-- the number that is read, and the error's number -/
def rdv (l : List UInt8) : Nat := if decide (l.length ≤ 400) && numB l then rd l else 0
def rde (l : List UInt8) : Int := if 400 < l.length then 3 else if numB l then 0 else 2
/-- a call that returns the number of a text, or why it is none -/
def RetRd (l : List UInt8) (w : World) (e : Ending) (w' : World) : Prop := ∃ A n c, e = .returned (.tuple #[.slice A n c, .int .i64 (rde l)]) ∧ Sl w' A n c (words (rdv l)) ∧ Below w.heap.size w w'
theorem RetRd.of {l : List UInt8} {w w' : World} {A : Option Addr} {n c v : Nat} {x : Int} (h : rdv l = v ∧ rde l = x) (s : Sl w' A n c (words v)) (b : Below w.heap.size w w') : RetRd l w (.returned (.tuple #[.slice A n c, .int .i64 x])) w' := by
  obtain ⟨rfl, rfl⟩ := h
  exact ⟨A, n, c, rfl, s, b⟩
end Go.Proofs.YtibgpeaplmcogaaGreatDoor

namespace Go.Proofs.YtibgpeaplmcogaaGreatDoor
set_option maxRecDepth 100000
set_option linter.unusedVariables false
set_option linter.unusedSimpArgs false

/-- the text of a number -/
def txtQ (X : Rat) : List UInt8 := (if neg_ X then [45] else []) ++ txt X.num.natAbs ++ (if X.den = 1 then [] else 47 :: txt X.den)
/-- what precedes the first / and what follows it -/
def above (l : List UInt8) : List UInt8 := l.takeWhile (· != 47)
def behind (l : List UInt8) : List UInt8 := if l.contains 47 then (l.dropWhile (· != 47)).drop 1 else [49]
end Go.Proofs.YtibgpeaplmcogaaGreatDoor

namespace Go.Proofs.YtibgpeaplmcogaaGreatDoor
set_option maxRecDepth 100000
open Go.RowKit
set_option linter.unusedVariables false
set_option linter.unusedSimpArgs false

end Go.Proofs.YtibgpeaplmcogaaGreatDoor

namespace Go.Proofs.YtibgpeaplmcogaaGreatDoor
set_option maxRecDepth 100000
open Go.RowKit
set_option linter.unusedVariables false
set_option linter.unusedSimpArgs false

end Go.Proofs.YtibgpeaplmcogaaGreatDoor

namespace Go.Proofs.YtibgpeaplmcogaaGreatDoor
set_option maxRecDepth 100000
open Go.RowKit
set_option linter.unusedVariables false
set_option linter.unusedSimpArgs false

theorem news_new (w : World) (cs : Array Value) (t : TypeId) : ∀ (j : Nat) (u : Value), cs.toList[j]? = some u → (w.alloc (.cells cs t)).cell? ((⟨w.heap.size, 0, none⟩ : Addr).add j) = some u := by
  intro j u hj
  have e1 : (⟨w.heap.size, 0, none⟩ : Addr).add j = ⟨w.heap.size, j, none⟩ := by
    unfold Addr.add; split
    · rename_i h9; rw [h9]
    · rw [Nat.zero_add]
  rw [e1, cell_of_row _ w.heap.size j cs t (0, 0) (heap_alloc_new w _)]
  simpa using hj
theorem OwnC.base {k : Nat} {V : Type} {cells : V → List Value} {t : TypeId} {B : Nat} {w : World} {v : Value} {xs : List V} (h : OwnC k cells t B w v xs) : ∀ g, v.ownBlock = some g → B ≤ g := by
  intro g hg
  rcases h.2 with ⟨rfl, rfl⟩ | ⟨g', cap, cur, rfl, h1, _⟩
  · cases hg
  · have e : g' = g := by simpa [Value.ownBlock] using hg
    rw [← e]; exact h1
theorem SlQ.tail {w : World} {b off l f : Nat} {Xs : List Rat} (h : SlQ w (some ⟨b, off, none⟩) l f Xs) (h0 : 0 < l) : SlQ w (some ⟨b, off + 3, none⟩) (l - 1) (f - 1) (Xs.drop 1) := by
  obtain ⟨xs, h1, h2, h3⟩ := h
  have hl := h1.1.1
  obtain ⟨b', off', e, hlt, hc⟩ := h1.2 h0
  injection e with e
  injection e with e1 e2
  subst e1 e2
  refine ⟨xs.drop 1, ⟨⟨by rw [List.length_drop, hl], by have := h1.1.2.1; omega, by have := h1.1.2.2.1; omega, fun x hx => h1.1.2.2.2 x (List.mem_of_mem_drop hx)⟩, fun h9 => ⟨b, off + 3, rfl, hlt, fun j hj i hi => ?_⟩⟩, by rw [List.length_drop, List.length_drop, h2], fun j x hx => ?_⟩
  · have := hc (j + 1) (by omega) i hi
    rw [List.getElem?_drop, Nat.add_comm 1 j, ← this]
    congr 2
    omega
  · rw [List.getElem?_drop] at hx
    have := h3 _ x hx
    rw [List.getD_eq_getElem?_getD, List.getElem?_drop, ← List.getD_eq_getElem?_getD]
    exact this

end Go.Proofs.YtibgpeaplmcogaaGreatDoor
