/-
  What line.renumbered returns: an instruction with new numbers, in new memory. Conditions: the instruction fits; the map holds the new numbers of its operands.
-/
import Derived.Test.YtibgpeaplmcogaaGreatDoorLnMemAllS
import Derived.Test.YtibgpeaplmcogaaGreatDoorLnCAllS
import Derived.Test.YtibgpeaplmcogaaGreatDoorGcdLawsAllS
import Derived.Maps.OwnSet
namespace Go.Proofs.YtibgpeaplmcogaaGreatDoor
set_option maxRecDepth 100000
open Go.RowKit Go.Shelf
set_option linter.unusedVariables false
set_option linter.unusedSimpArgs false
attribute [local go_sem] Oper.semAt_some

def usesB (x : PI) (k : Nat) : Bool := decide ((0 < arity x.op ∧ x.a = (k : Int)) ∨ (1 < arity x.op ∧ x.b = (k : Int)))
theorem usesB_iff (x : PI) (k : Nat) : usesB x k = true ↔ Uses x k := by unfold usesB Uses; rw [decide_eq_true_eq]
def mark (l : List PI) (m : Nat → Bool) (i : Nat) : Nat → Bool := fun k => m k || (m i && usesB (l.getD i PI.nil) k)
def markAll (l : List PI) (m0 : Nat → Bool) (is : List Nat) : Nat → Bool := is.foldl (mark l) m0
theorem markAll_snoc (l : List PI) (m0 : Nat → Bool) (is : List Nat) (i : Nat) : markAll l m0 (is ++ [i]) = mark l (markAll l m0 is) i := by unfold markAll; rw [List.foldl_append]; rfl
theorem mark_end {l : List PI} {outs : List Int} {m0 : Nat → Bool} (hA : Ahead l) (h0 : ∀ i, i < l.length → (m0 i = true ↔ (i : Int) ∈ outs)) : IsNeed l outs (markAll l m0 (List.range l.length).reverse) := by
  have key : ∀ k, k ≤ l.length → IsNeedTo l outs (l.length - k) (markAll l m0 ((List.range l.length).reverse.take k)) := by
    intro k
    induction k with
    | zero => intro _; exact needTo_start h0
    | succ k ih =>
      intro hk
      rw [rev_take (by omega), markAll_snoc]
      have e : l.length - (k + 1) + 1 = l.length - k := by omega
      have e2 : l.length - 1 - k = l.length - (k + 1) := by omega
      have h1 := ih (by omega)
      rw [← e] at h1
      rw [e2]
      refine needTo_step hA (by omega) h1 (fun i hi => ?_)
      unfold mark
      rw [Bool.or_eq_true, Bool.and_eq_true, usesB_iff]
  have := key l.length (Nat.le_refl _)
  rw [Nat.sub_self, List.take_of_length_le (by simp)] at this
  exact needTo_end this
theorem need_congr {l : List PI} {outs : List Int} {m m' : Nat → Bool} (h : IsNeed l outs m) (e : ∀ i, i < l.length → m' i = m i) : IsNeed l outs m' := by
  intro i hi
  rw [e i hi, h i hi]
  constructor
  · rintro (g | ⟨k, k1, k2, k3, k4⟩)
    · exact .inl g
    · exact .inr ⟨k, k1, k2, by rw [e k k2]; exact k3, k4⟩
  · rintro (g | ⟨k, k1, k2, k3, k4⟩)
    · exact .inl g
    · exact .inr ⟨k, k1, k2, by rw [← e k k2]; exact k3, k4⟩
theorem ops_uses {op a b : Int} {q : Bool × List Int × List Int} (k : Nat) : (k : Int) ∈ opsI op a b ↔ Uses ⟨op, a, b, q⟩ k := by
  unfold opsI Uses
  simp only
  rcases ar_cases op with ⟨c, d⟩ | ⟨c, d1, d2⟩ | ⟨c, d1, d2⟩ | ⟨c, d1, d2⟩ <;> rw [c] <;> simp [eq_comm]
theorem ops_len (op a b : Int) : (opsI op a b).length ≤ 2 := by
  unfold opsI
  split
  · simp
  · split <;> simp
/-- a row of truths -/
def BRow (w : World) (g : Nat) (bs : List Bool) : Prop := Box 4 w g (bs.map Value.bool).toArray
theorem BRow.cell {w : World} {g : Nat} {bs : List Bool} (h : BRow w g bs) {i : Nat} (hi : i < bs.length) : w.cell? ⟨g, i, none⟩ = some (.bool (bs.getD i false)) := by
  rw [Box.cell h]
  simp [List.getD, hi]
theorem BRow.free {w : World} {g : Nat} {bs : List Bool} (h : BRow w g bs) (i : Nat) : w.frozen? ⟨g, i, none⟩ = false := Box.free h i
theorem BRow.set {w : World} {g : Nat} {bs : List Bool} (h : BRow w g bs) (i : Nat) (b : Bool) : BRow (w.setCell ⟨g, i, none⟩ (.bool b)) g (bs.set i b) := by
  unfold BRow Box at *
  unfold World.setCell
  simp [Array.getElem?_modify, h, List.map_set]
theorem BRow.lt {w : World} {g : Nat} {bs : List Bool} (h : BRow w g bs) : g < w.heap.size := Box.lt h
theorem set_at {bs : List Bool} {i : Nat} (hi : i < bs.length) (b : Bool) (k : Nat) : (bs.set i b).getD k false = if k = i then b else bs.getD k false := by
  rw [List.getD_eq_getElem?_getD, List.getElem?_set, List.getD_eq_getElem?_getD]
  by_cases h : i = k
  · subst h; simp [hi]
  · rw [if_neg h, if_neg (fun e => h e.symm)]
theorem make_bools (w : World) (n : Nat) (hn : n ≤ 1000000) : ∃ w1, (Instr.makeSlice 39 (.int .i64 (n : Int)) (.int .i64 (n : Int))).run Tryz.prog w = .ok (.slice (some ⟨w.heap.size, 0, none⟩) n n) w1 ∧ BRow w1 w.heap.size (List.replicate n false) ∧ Below w.heap.size w w1 ∧ w1.heap.size = w.heap.size + 1 := by
  refine ⟨_, run_make_row' (P := Tryz.prog) 39 4 (.bool false) 1 Tryz.underlying39 (by kernel_rfl) rfl .i64 .i64 n (by omega) (by omega) w, ?_, below_alloc _ _, by simp⟩
  have e : madeCells #[.bool false] n = ((List.replicate n false).map Value.bool).toArray := by
    apply Array.toList_inj.1
    rw [toList_madeCells_one]
    simp
  unfold BRow
  rw [e]
  exact Box.new w _ _
theorem KX.of_below {g : Nat} {W W' : World} (h : Below W.heap.size W W') : KX W.heap.size g W W' := ⟨h.size, fun b hb _ => h.block b hb⟩
theorem KX.mono {B B' g : Nat} {W W' : World} (h : KX B g W W') (hB : B' ≤ B) : KX B' g W W' := ⟨h.1, fun b h1 h2 => h.2 b (by omega) h2⟩
theorem KX.keepsFrom {t : TypeId} {B g : Nat} {W W' : World} {vs : Array Value} (hb : Box t W g vs) (h : KX W.heap.size g W W') : KeepsFrom B W W' :=
  ⟨h.1, fun k o hk h1 h2 => by
    by_cases e : k = g
    · subst e
      unfold Box at hb
      rw [hb] at h1
      cases h1
      cases h2
    · exact (h.2 k (Array.getElem?_eq_some_iff.1 h1).1 e).trans h1⟩
theorem KX.setCell {B g i : Nat} {W W' : World} (h : KX B g W W') (v : Value) : KX B g W (W'.setCell ⟨g, i, none⟩ v) := by
  have hk := (Keep.refl g W').setCell i v
  refine ⟨Nat.le_trans h.1 hk.size, fun b h1 h2 => ?_⟩
  by_cases hlt : b < W'.heap.size
  · exact (hk.block b hlt h2).trans (h.2 b h1 h2)
  · have e1 : W.heap[b]? = none := Array.getElem?_eq_none (by have := h.1; omega)
    rw [e1, Array.getElem?_eq_none]
    have : (W'.setCell ⟨g, i, none⟩ v).heap.size = W'.heap.size := by unfold World.setCell; simp
    omega
/-- between two rounds: the row's truths after the instructions of pre have been gone through -/
def NdI (w W : World) (n sz : Nat) (l : List PI) (bs : List Bool) (pre : List { i : Nat // i < n }) : Prop :=
  ∃ bs' : List Bool, bs'.length = n ∧ BRow W w.heap.size bs' ∧ Box 39 W (w.heap.size + 1) #[.slice (some ⟨w.heap.size, 0, none⟩) n n] ∧ (∀ k, k < n → bs'.getD k false = markAll l (fun i => bs.getD i false) (pre.map Subtype.val) k) ∧ Below w.heap.size w W ∧ sz ≤ W.heap.size
theorem wp_named {c : Code} {F : Fence} {n : Nat} {P : Program} {Q : Exit → Act → World → Prop} {a : Act} {w : World} (h : ∀ a0 : Act, a0 = a → c.wpIn F n P Q a0 w) : c.wpIn F n P Q a w := h a rfl

set_option maxRecDepth 100000 in
set_option maxHeartbeats 4000000 in
theorem line_needs {w : World} {A B : Option Addr} {n c m d : Nat} {xs : List RI} {outs : List Int} (h : SlP w A n c xs) (ho : SlZ w B m d outs) (hA : Ahead (xs.map RI.pi)) (hn : n ≤ 65536) (hm : m ≤ 65536) :
    Calls Tryz.prog 52 #[.slice A n c, .slice B m d] w fun e w' => ∃ g bs, e = .returned (.slice (some ⟨g, 0, none⟩) n n) ∧ w.heap.size ≤ g ∧ bs.length = n ∧ BRow w' g bs ∧ IsNeed (xs.map RI.pi) outs (fun i => bs.getD i false) ∧ Below w.heap.size w w' := by
  have hlen : (xs.map RI.pi).length = n := by rw [List.length_map]; exact h.1.1
  have hol : outs.length = m := ho.1.1
  obtain ⟨w1, hmk, hr1, b1, s1⟩ := make_bools w n (by omega)
  obtain ⟨V, hV, Bn, b2⟩ := box0 39 w1 #[.slice (some ⟨w.heap.size, 0, none⟩) n n]
  have hrV := Box.below' hr1 b2
  have hsV : V.heap.size = w.heap.size + 1 + 1 := by rw [← hV]; simp [s1]
  rw [s1] at Bn
  have yV : Below w.heap.size w V := bb b1 b2
  have HMK := Lib.hid hmk
  have HV := Lib.hid hV
  have HR0 := Lib.hid (show BRow V w.heap.size (List.replicate n false) from hrV)
  have HB0 := Lib.hid Bn
  have HL := Lib.hid hlen
  have HOL := Lib.hid hol
  clear hmk hV hr1 hrV Bn hlen hol b1 b2
  refine (callsIn_wide (n := 3)).1 ?_
  refine callsIn_of_wp_marks Tryz.func52 rfl trivial ?_ rfl
  simp only [Tryz.ntmps52, List.size_toArray, List.length_cons, List.length_nil, Nat.reduceAdd, Nat.reduceSub, Array.replicate_succ, Array.replicate_zero, List.push_toArray, List.append_toArray, List.nil_append, List.cons_append]
  have hmk2 := HMK.out
  gi_wp2_with fail
  rw [HV.out]
  clear hmk2 HMK HV
  gi_loopw [17] (fun iv wr => ∃ (k : Nat) (bs : List Bool), k ≤ m ∧ iv = .int .i64 k ∧ Hid (bs.length = n) ∧ Hid (BRow wr w.heap.size bs) ∧ Hid (Box 39 wr (w.heap.size + 1) #[.slice (some ⟨w.heap.size, 0, none⟩) n n]) ∧ Hid (∀ i, i < n → (bs.getD i false = true ↔ (i : Int) ∈ outs.take k)) ∧ Below w.heap.size w wr) (fun iv _ => m - mes iv)
  case atStart => exact ⟨0, _, by omega, rfl, Lib.hid (by simp), HR0, HB0, Lib.hid (fun i hi => by
    have e9 : (List.replicate n false).getD i false = false := by rw [List.getD_eq_getElem?_getD, List.getElem?_replicate]; split <;> rfl
    rw [e9]; simp), yV⟩
  case round =>
    clear HR0 HB0 yV hsV
    obtain ⟨k, bs, hk, rfl, HBL, HBR, HBN, HT, hb⟩ := hrel
    by_cases hk2 : k < m
    · obtain ⟨b0, off, o, rfl, hlt, hok, hoi, c0⟩ := (ho.below hb).at_ hk2
      have hn1 := HBN.out.cell 0
      have hn2 : wr.cell? ⟨w.heap.size + 1, 0, none⟩ = some (.slice (some ⟨w.heap.size, 0, none⟩) n n) := hn1
      have htk : ∀ x : Int, x ∈ outs.take (k + 1) ↔ (x ∈ outs.take k ∨ x = o) := fun x => by
        rw [take_in (by have := HOL.out; omega) x, List.getD_eq_getElem?_getD, hok]; rfl
      have HTK := Lib.hid htk
      have BL := fun (w1 : World) => Lib.hid (line_below o n w1)
      clear hn1 htk hok hoi
      by_cases hin : 0 ≤ o ∧ o < (n : Int)
      · simp only [decide_eq_true hin] at BL
        obtain ⟨h3, h4⟩ := hin
        obtain ⟨t, rfl⟩ : ∃ t : Nat, o = (t : Int) := ⟨o.toNat, by omega⟩
        have htn : t < n := by omega
        have c1 := HBR.out.cell (i := t) (by have := HBL.out; omega)
        have c2 := HBR.out.free t
        gi_wp2_with (refine ⟨trivial, ?_⟩; gi_at_call 46; refine (callsIn_wide.2 (BL _).out).mono ?_; rintro _ _ ⟨rfl, rfl⟩)
        go_roundw
        case rel =>
          refine ⟨k + 1, bs.set t true, by omega, by go_num, Lib.hid (by rw [List.length_set]; exact HBL.out), Lib.hid (HBR.out.set t true), Lib.hid ?_, Lib.hid (fun i hi => ?_), ?_⟩
          · have hk9 := (Keep.refl w.heap.size wr).setCell t (.bool true)
            exact (hk9.block _ HBN.out.lt (by omega)).trans HBN.out
          · rw [set_at (by have := HBL.out; omega), HTK.out]
            by_cases e : i = t
            · subst e; simp
            · rw [if_neg e, HT.out i hi]
              constructor
              · exact .inl
              · rintro (h9 | h9)
                · exact h9
                · exact absurd (by omega) e
          · exact hb.setCell (p := ⟨w.heap.size, t, none⟩) (Nat.le_refl _) _
        case measure => simp [mes, intOf]; omega
      · simp only [decide_eq_false hin] at BL
        gi_wp2_with (refine ⟨trivial, ?_⟩; gi_at_call 46; refine (callsIn_wide.2 (BL _).out).mono ?_; rintro _ _ ⟨rfl, rfl⟩)
        go_roundw
        case rel =>
          refine ⟨k + 1, bs, by omega, by go_num, HBL, HBR, HBN, Lib.hid (fun i hi => ?_), hb⟩
          rw [HTK.out, HT.out i hi]
          constructor
          · exact .inl
          · rintro (h9 | h9)
            · exact h9
            · exact absurd (by omega) hin
        case measure => simp [mes, intOf]; omega
    · obtain rfl : k = m := by omega
      have hT := HT.out
      rw [List.take_of_length_le (by have := HOL.out; omega)] at hT
      have HT2 := Lib.hid hT
      clear hT HT
      gi_wp2_with (refine ⟨trivial, ?_⟩; gi_at_call 77; refine (bk0 _ _ _ _ _).mono ?_; rintro _ _ ⟨rfl, rfl⟩)
      obtain ⟨W0, hW0, Bl, bl⟩ := box0 22 wr #[.slice A n c]
      have hs0 : W0.heap.size = wr.heap.size + 1 := by rw [← hW0]; simp
      have y0 : Below w.heap.size w W0 := bb hb bl
      have hwr := hb.size
      have hwn : w.heap.size + 1 < wr.heap.size := HBN.out.lt
      have BR0 : BRow W0 w.heap.size bs := Box.below' HBR.out bl
      have BN0 := HBN.out.below' bl
      have hm0 := HT2.out
      have hbl := HBL.out
      rw [hW0]
      clear hW0 HBN HBR HT2 ho
      have HS0 := Lib.hid hs0
      refine wp_named ?_
      intro a0 ha0
      have seq : SeqStopsK Fence.wide 2 Tryz.prog 133 #[.pointer (some ⟨wr.heap.size, 0, none⟩)] (fun x : { i : Nat // i < n } => #[.int .i64 (x.1 : Int), (xs.getD x.1 default).agg]) (KX W0.heap.size w.heap.size) (fun ys => ys.map Subtype.val = (List.range n).reverse) (fun _ => True) n W0 := by
        intro l J Jx W hW _ _ hY h0
        refine bk1 2 (by omega) l wr.heap.size W0.heap.size w.heap.size A n c xs (by omega) (by omega) (by omega) J Jx hY W ((Box.below' Bl hW).cell 0) (fun j hj => ?_) h0
        obtain ⟨b9, o9, x9, e9, hlt9, hx9, hok9, g0, g1, g2, g3, g4, g5⟩ := (h.below (bb y0 hW)).at_ hj
        have hb9 : b9 < w.heap.size := by
          obtain ⟨b8, o8, e8, hlt8, _⟩ := h.2 (by omega)
          rw [e8] at e9
          injection e9 with e9
          injection e9 with e9
          omega
        have ex : xs.getD j default = x9 := by rw [List.getD_eq_getElem?_getD, hx9]; rfl
        rw [ex]
        exact ⟨b9, o9, e9, by omega, by omega, g0, g1, g2, g3, g4, g5⟩
      refine wpIn_rangeFunc_ownH rfl (by omega) (gf := 133) (lb := #[.pointer (some ⟨wr.heap.size, 0, none⟩)]) (by rw [ha0]; rfl) trivial (enters_of Tryz.func133 (by kernel_rfl) rfl) seq
        (fun h1 h2 => KX.trans h1 h2) (fun W l o o' h1 h2 h3 h4 => ⟨by simp [World.putObj], fun b5 h5 h6 => World.putObj_heap_other (by omega)⟩) (Below.refl _ _) (fun _ => rfl)
        (fun pre W => NdI w W n W0.heap.size (xs.map RI.pi) bs pre)
        (fun _ _ _ => False)
        (fun s X Y row hs hg hr => by
          obtain ⟨bs', h1, h2, h3, h4, h5, h6⟩ := hs
          refine ⟨bs', h1, (hg.block _ h2.lt (fun e => by have := (hr _ e.symm).1; omega)).trans h2, (hg.block _ h3.lt (fun e => by have := (hr _ e.symm).1; omega)).trans h3, h4, h5.grown hg h5.size (fun k e => by have := (hr _ e).1; omega), Nat.le_trans h6 hg.size⟩)
        (fun _ _ _ _ _ hs _ _ => hs)
        ⟨bs, hbl, BR0, BN0, fun k _ => rfl, y0, Nat.le_refl _⟩
        (fun x a' W => ∃ Bx, W0.heap.size ≤ Bx ∧ Box 27 W Bx #[.int .i64 (xs.getD x.1 default).op, .int .i64 (xs.getD x.1 default).a, .int .i64 (xs.getD x.1 default).b, .bool (xs.getD x.1 default).q.s, .slice (xs.getD x.1 default).q.A (xs.getD x.1 default).q.n (xs.getD x.1 default).q.c, .slice (xs.getD x.1 default).q.A' (xs.getD x.1 default).q.n' (xs.getD x.1 default).q.c'] ∧ a' = { tmps := (((a0.tmps.setIfInBounds 31 (.int .i64 (x.1 : Int))).setIfInBounds 32 (xs.getD x.1 default).agg).setIfInBounds 8 (.int .i64 (x.1 : Int))).setIfInBounds 9 (.pointer (some ⟨Bx, 0, none⟩)), defers := [] })
        (fun x a' s X Y row hs hg hr => by
          obtain ⟨Bx, h1, h2, h3⟩ := hs
          refine ⟨Bx, h1, (hg.block _ h2.lt (fun e => ?_)).trans h2, h3⟩
          obtain ⟨_, o9, h8, h9⟩ := hr _ e.symm
          unfold Box at h2
          rw [h2] at h8
          cases h8
          cases h9) ?assign ?body ?done ?stop
      case assign =>
        intro l pre x W K hi hK
        subst ha0
        unfold RI.agg at *
        generalize xs.getD x.1 default = y at *
        gi_wp2
        obtain ⟨bs', h1, h2, h3, h4, h5, h6⟩ := hi
        have ba := below_alloc W (.cells #[.int .i64 y.op, .int .i64 y.a, .int .i64 y.b, .bool y.q.s, .slice y.q.A y.q.n y.q.c, .slice y.q.A' y.q.n' y.q.c'] 27)
        exact hK _ _ ((KeepsOthers.alloc _ _).from _) ((KX.of_below ba).mono h6) ⟨bs', h1, Box.below' h2 ba, h3.below' ba, h4, bb h5 ba, Nat.le_trans h6 ba.size⟩ ⟨W.heap.size, h6, Box.new W _ _, rfl⟩
      case body =>
        rintro l pre x a' W hl ⟨r, hr⟩ ⟨bs', h1, h2, h3, h4, h5, h6⟩ ⟨Bx, hBx, bX, rfl⟩ hlt
        subst ha0
        obtain ⟨i, hi⟩ := x
        simp only at bX ⊢
        have hy : xs[i]? = some (xs.getD i default) := by
          have hl9 : i < xs.length := by have := HL.out; rw [List.length_map] at this; omega
          rw [List.getD_eq_getElem?_getD, List.getElem?_eq_getElem hl9]; rfl
        have hp := pi_at hy
        obtain ⟨⟨i1, i2, i3, _⟩, _⟩ := h.1.2.2.2 _ (mem_at hy)
        have hu : ∀ o, Uses (RI.pi (xs.getD i default)) o → 0 ≤ o ∧ o < (i : Int) := fun o ho9 => by
          rw [← hp] at ho9
          exact hA i (by rw [HL.out]; exact hi) o ho9
        have hmk : ∀ k, markAll (xs.map RI.pi) (fun i => bs.getD i false) ((pre ++ [(⟨i, hi⟩ : { i : Nat // i < n })]).map Subtype.val) k = (markAll (xs.map RI.pi) (fun i => bs.getD i false) (pre.map Subtype.val) k || (bs'.getD i false && usesB (RI.pi (xs.getD i default)) k)) := fun k => by
          rw [List.map_append, List.map_cons, List.map_nil, markAll_snoc]
          unfold mark
          rw [hp, h4 i hi]
        unfold RI.agg
        generalize xs.getD i default = y at *
        obtain ⟨op, a, b, q⟩ := y
        simp only at bX i1 i2 i3 ⊢
        have k0 : W.cell? ⟨w.heap.size + 1, 0, none⟩ = some (.slice (some ⟨w.heap.size, 0, none⟩) n n) := h3.cell 0
        have kb := h2.cell (i := i) (by omega)
        obtain ⟨x0, x1, x2, x3, x4, x5⟩ := bX.six.1
        have HMK := Lib.hid hmk
        have HU := Lib.hid hu
        have H1 := Lib.hid h1
        have H2 := Lib.hid h2
        have H3 := Lib.hid h3
        have H4 := Lib.hid h4
        clear hmk hu h1 h2 h3 h4 bX hp hy seq hm0 hbl BR0 BN0 hs0
        cases hbi : bs'.getD i false
        case false =>
          rw [hbi] at kb
          have HB := Lib.hid hbi
          clear hbi
          gi_wp2
          exact ⟨KeepsFrom.refl _ _, KX.refl _ _ _, bs', H1.out, H2.out, H3.out, fun k hk => by rw [HMK.out, HB.out, Bool.false_and, Bool.or_false]; exact H4.out k hk, h5, h6⟩
        case true =>
          rw [hbi] at kb
          have HB := Lib.hid hbi
          have HOP := Lib.hid (fun (w1 : World) => line_operands (op := op) (q := q) i2 i3 w1)
          clear hbi
          gi_wp2_with (refine ⟨trivial, ?_⟩; gi_at_call 49; refine (CallsIn.inRound l (callsIn_wide.2 (HOP.out _))).mono ?_; rintro _ W2 ⟨A2, n2, c2, rfl, z2, b2⟩)
          have hol2 : (opsI op a b).length = n2 := z2.1.1
          have hn2 : n2 ≤ 2 := by rw [← hol2]; exact ops_len op a b
          have hops : ∀ x ∈ opsI op a b, 0 ≤ x ∧ x < (n : Int) := fun x hx => by
            rcases Int.lt_or_le x 0 with h9 | h9
            · exfalso
              unfold opsI at hx
              split at hx
              · rename_i h8
                obtain rfl : x = a := by simpa using hx
                have := HU.out x (.inl ⟨by show 0 < arity op; omega, rfl⟩)
                omega
              · split at hx
                · rename_i h8
                  have hx' : x = a ∨ x = b := by simpa using hx
                  rcases hx' with rfl | rfl
                  · have := HU.out x (.inl ⟨by show 0 < arity op; omega, rfl⟩)
                    omega
                  · have := HU.out x (.inr ⟨by show 1 < arity op; omega, rfl⟩)
                    omega
                · simp at hx
            · obtain ⟨t, rfl⟩ : ∃ t : Nat, x = (t : Int) := ⟨x.toNat, by omega⟩
              have := HU.out t ((ops_uses (q := (q.s, q.z, q.z')) t).1 hx)
              omega
          have r2 : BRow W2 w.heap.size bs' := Box.below' H2.out b2
          have n3 := H3.out.below' b2
          have hne2 : ∀ b9 o9, A2 = some ⟨b9, o9, none⟩ → 0 < n2 → b9 ≠ w.heap.size := fun b9 o9 e9 h9 e8 => by
            obtain ⟨b7, o7, x7, e7, _, _, _, c7⟩ := z2.at_ (j := 0) h9
            rw [e9] at e7
            injection e7 with e7
            injection e7 with e5 e6
            subst e5 e6 e8
            have c8 := c7
            rw [Box.cell r2] at c8
            simp at c8
          have HZ2 := Lib.hid z2
          have HOL2 := Lib.hid hol2
          have HOPS := Lib.hid hops
          have HNE := Lib.hid hne2
          have hW2 := b2.size
          have hwW : w.heap.size + 1 < W2.heap.size := n3.lt
          have R2 := Lib.hid r2
          have N3 := Lib.hid n3
          have y2 := bb h5 b2
          clear z2 hol2 hops hne2 r2 n3 x0 x1 x2 x3 x4 x5 k0 kb HOP
          gi_loopw [40] (fun iv wr2 => ∃ (k : Nat) (bs2 : List Bool), k ≤ n2 ∧ iv = .int .i64 k ∧ Hid (bs2.length = n) ∧ Hid (BRow wr2 w.heap.size bs2) ∧ Hid (Box 39 wr2 (w.heap.size + 1) #[.slice (some ⟨w.heap.size, 0, none⟩) n n]) ∧ Hid (∀ j, j < n → bs2.getD j false = (bs'.getD j false || decide ((j : Int) ∈ (opsI op a b).take k))) ∧ Below w.heap.size w wr2 ∧ Hid (KX W2.heap.size w.heap.size W2 wr2)) (fun iv _ => n2 - mes iv)
          case atStart => exact ⟨0, bs', by omega, rfl, H1, R2, N3, Lib.hid (fun j hj => by simp), y2, Lib.hid (KX.refl _ _ _)⟩
          case round =>
            clear R2 N3 y2
            obtain ⟨k, bs2, hk, rfl, L2, M2, P2, T2, hb2, X2⟩ := hrel
            have p0 : wr.cell? ⟨w.heap.size + 1, 0, none⟩ = some (.slice (some ⟨w.heap.size, 0, none⟩) n n) := P2.out.cell 0
            by_cases hk2 : k < n2
            · obtain ⟨b9, o9, o, e9, hlt9, hok9, hoi9, c9⟩ := HZ2.out.at_ hk2
              have c9' := (X2.out.cell (i := o9 + k) hlt9 (HNE.out b9 o9 e9 (by omega))).trans c9
              obtain ⟨g1, g2⟩ := HOPS.out o (mem_at hok9)
              obtain ⟨t, rfl⟩ : ∃ t : Nat, o = (t : Int) := ⟨o.toNat, by omega⟩
              have htn : t < n := by omega
              have c1 := M2.out.cell (i := t) (by have := L2.out; omega)
              have c2' := M2.out.free t
              have htk : ∀ x : Int, x ∈ (opsI op a b).take (k + 1) ↔ (x ∈ (opsI op a b).take k ∨ x = (t : Int)) := fun x => by
                rw [take_in (by have := HOL2.out; omega) x, List.getD_eq_getElem?_getD, hok9]; rfl
              have HTK := Lib.hid htk
              subst e9
              clear c9 htk hok9 hoi9 hlt9
              gi_wp2
              go_roundw
              case rel =>
                refine ⟨k + 1, bs2.set t true, by omega, by go_num, Lib.hid (by rw [List.length_set]; exact L2.out), Lib.hid (M2.out.set t true), Lib.hid ?_, Lib.hid (fun j hj => ?_), hb2.setCell (p := ⟨w.heap.size, t, none⟩) (Nat.le_refl _) _, Lib.hid (X2.out.setCell _)⟩
                · have hk9 := (Keep.refl w.heap.size wr).setCell t (.bool true)
                  exact (hk9.block _ P2.out.lt (by omega)).trans P2.out
                · rw [set_at (by have := L2.out; omega)]
                  by_cases e : j = t
                  · subst e
                    rw [if_pos rfl, decide_eq_true ((HTK.out _).2 (.inr rfl)), Bool.or_true]
                  · rw [if_neg e, T2.out j hj]
                    congr 1
                    rw [decide_eq_decide, HTK.out]
                    constructor
                    · exact .inl
                    · rintro (h9 | h9)
                      · exact h9
                      · exact absurd (by omega) e
              case measure => simp [mes, intOf]; omega
            · obtain rfl : k = n2 := by omega
              gi_wp2
              have hkx : KX W.heap.size w.heap.size W wr := (KX.of_below b2).trans (X2.out.mono b2.size)
              refine ⟨hkx.keepsFrom H2.out, hkx.mono h6, bs2, L2.out, M2.out, P2.out, fun j hj => ?_, hb2, Nat.le_trans h6 hkx.1⟩
              rw [HMK.out, HB.out, Bool.true_and, T2.out j hj, List.take_of_length_le (by have := HOL2.out; omega), H4.out j hj]
              congr 1
              rw [Bool.eq_iff_iff, decide_eq_true_eq, usesB_iff]
              exact ops_uses (q := (q.s, q.z, q.z')) j
      case done =>
        rintro D ys W hD hS ⟨bs', h1, h2, h3, h4, h5, h6⟩ hK
        subst ha0
        have hc : W.cell? ⟨w.heap.size + 1, 0, none⟩ = some (.slice (some ⟨w.heap.size, 0, none⟩) n n) := h3.cell 0
        gi_wp2
        refine ⟨by simp, .inl ⟨_, _, rfl, run_takeDeferred hK, ?_⟩⟩
        refine ⟨_, results_tmp rfl _ _ _, w.heap.size, bs', rfl, Nat.le_refl _, h1, (World.putObj_heap_other (by omega)).trans h2, ?_, h5.trans (belowK_b (w := w) (Nat.le_refl _) W D _ _ (by omega) hK rfl rfl)⟩
        rw [hS] at h4
        have hN := mark_end (l := xs.map RI.pi) (outs := outs) (m0 := fun i => bs.getD i false) hA (fun i hi => hm0 i (by rw [HL.out] at hi; exact hi))
        rw [HL.out] at hN
        exact need_congr hN (fun i hi => h4 i (by rw [HL.out] at hi; exact hi))
      case stop =>
        rintro D c9 pre W _ _ h9 _
        exact h9.elim

end Go.Proofs.YtibgpeaplmcogaaGreatDoor

namespace Go.Proofs.YtibgpeaplmcogaaGreatDoor
set_option maxRecDepth 100000
open Go.RowKit
set_option linter.unusedVariables false
set_option linter.unusedSimpArgs false

section
variable {ins fs v : List Rat} {a b : Int} {q : Bool × List Int × List Int}
end
/-- all of these numbers are below W^N -/
def AllSz (N : Nat) (v : List Rat) : Prop := ∀ X ∈ v, Sz X N
theorem AllSz.at_ {N : Nat} {v : List Rat} (h : AllSz N v) {i : Nat} (hi : i < v.length) : Sz (v.getD i 0) N := by
  rw [List.getD_eq_getElem?_getD, List.getElem?_eq_getElem hi]; exact h _ (List.getElem_mem hi)
theorem AllSz.snoc {N : Nat} {v : List Rat} {X : Rat} (h : AllSz N v) (hX : Sz X N) : AllSz N (v ++ [X]) := by
  intro Y hY
  rcases List.mem_append.1 hY with hY | hY
  · exact h Y hY
  · rw [List.mem_singleton.1 hY]; exact hX
end Go.Proofs.YtibgpeaplmcogaaGreatDoor

namespace Go.Proofs.YtibgpeaplmcogaaGreatDoor
set_option maxRecDepth 100000
open Go.RowKit
set_option linter.unusedVariables false
set_option linter.unusedSimpArgs false

/-- an exact number as it lies reads as X -/
def RQ.is (w : World) (x : RQ) (X : Rat) : Prop := Q w x.s x.A x.n x.c x.A' x.n' x.c' X
/-- a slice of exact numbers that read as Xs -/
def SlQ (w : World) (A : Option Addr) (n c : Nat) (Xs : List Rat) : Prop := ∃ xs : List RQ, SlR w A n c xs ∧ xs.length = Xs.length ∧ ∀ (j : Nat) (x : RQ), xs[j]? = some x → x.is w (Xs.getD j 0)
theorem SlQ.below {w w' : World} {A : Option Addr} {n c : Nat} {Xs : List Rat} (h : SlQ w A n c Xs) (hb : Below w.heap.size w w') : SlQ w' A n c Xs := by
  obtain ⟨xs, h1, h2, h3⟩ := h
  exact ⟨xs, h1.below hb, h2, fun j x hx => (h3 j x hx).below hb⟩
theorem SlQ.len {w : World} {A : Option Addr} {n c : Nat} {Xs : List Rat} (h : SlQ w A n c Xs) : n = Xs.length := by
  obtain ⟨xs, h1, h2, _⟩ := h
  rw [← h2]; exact h1.1.1.symm
theorem SlQ.at_ {w : World} {A : Option Addr} {n c : Nat} {Xs : List Rat} (h : SlQ w A n c Xs) {j : Nat} (hj : j < n) : ∃ b off s A1 n1 c1 A2 n2 c2, A = some ⟨b, off, none⟩ ∧ b < w.heap.size ∧
    w.cell? ⟨b, off + j * 3, none⟩ = some (.bool s) ∧ w.cell? ⟨b, off + j * 3 + 1, none⟩ = some (.slice A1 n1 c1) ∧ w.cell? ⟨b, off + j * 3 + 2, none⟩ = some (.slice A2 n2 c2) ∧ Q w s A1 n1 c1 A2 n2 c2 (Xs.getD j 0) := by
  obtain ⟨xs, h1, h2, h3⟩ := h
  obtain ⟨b, off, x, e, hlt, hx, hok, c0, c1, c2⟩ := h1.at_ hj
  exact ⟨b, off, x.s, x.A, x.n, x.c, x.A', x.n', x.c', e, hlt, c0, c1, c2, h3 j x hx⟩
theorem SlQ.nil (w : World) : SlQ w none 0 0 [] := ⟨[], ⟨⟨rfl, Nat.le_refl _, by unfold maxLen; omega, by simp⟩, fun h0 => absurd h0 (by omega)⟩, rfl, fun j x hx => by simp at hx⟩
/-- a row of exact numbers that the call made -/
def OwnQ (B : Nat) (w : World) (v : Value) (Xs : List Rat) : Prop := ∃ xs : List RQ, OwnC 3 RQ.cells 25 B w v xs ∧ xs.length = Xs.length ∧ ∀ (j : Nat) (x : RQ), xs[j]? = some x → x.ok w ∧ x.is w (Xs.getD j 0)
theorem OwnQ.form {B : Nat} {w : World} {v : Value} {Xs : List Rat} (h : OwnQ B w v Xs) : ∃ A c, v = .slice A Xs.length c := by
  obtain ⟨xs, h1, h2, _⟩ := h
  obtain ⟨A, c, e, _⟩ := h1.form
  exact ⟨A, c, by rw [e, h2]⟩
theorem OwnQ.below {B : Nat} {w w' : World} {v : Value} {Xs : List Rat} (h : OwnQ B w v Xs) (hb : Below w.heap.size w w') : OwnQ B w' v Xs := by
  obtain ⟨xs, h1, h2, h3⟩ := h
  exact ⟨xs, h1.below hb, h2, fun j x hx => ⟨RQ.below (h3 j x hx).1 hb, (h3 j x hx).2.below hb⟩⟩
theorem Q.grownC {w w1 : World} {r : Option Nat} {s : Bool} {A A' : Option Addr} {n c n' c' : Nat} {X : Rat} (h : Q w s A n c A' n' c' X) (hg : w.grownBy w1 r) (hr : ∀ g, r = some g → NoWAt w g) : Q w1 s A n c A' n' c' X := ⟨h.1, h.2.1.grownC hg hr, h.2.2.grownC hg hr⟩
theorem NoW_bool (b : Bool) : NoW (.bool b) := fun x h => by cases h
theorem NoW_slice (A : Option Addr) (n c : Nat) : NoW (.slice A n c) := fun x h => by cases h
theorem NoW_i64 (z : Int) : NoW (.int .i64 z) := fun x h => by injection h with h; cases h
theorem ri_noW (x : RI) : ∀ u ∈ x.cells, NoW u := by
  intro u hu
  unfold RI.cells at hu
  simp only [List.mem_cons, List.not_mem_nil, or_false] at hu
  rcases hu with rfl | rfl | rfl | rfl | rfl | rfl
  · exact NoW_i64 _
  · exact NoW_i64 _
  · exact NoW_i64 _
  · exact NoW_bool _
  · exact NoW_slice _ _ _
  · exact NoW_slice _ _ _
theorem ri_one (x : RI) : ∀ u ∈ x.cells, u.oneCell' = true := by
  intro u hu
  unfold RI.cells at hu
  simp only [List.mem_cons, List.not_mem_nil, or_false] at hu
  rcases hu with rfl | rfl | rfl | rfl | rfl | rfl <;> rfl
/-- append of an exact number -/
theorem OwnQ.append {B : Nat} {w w' : World} {v v' : Value} {Xs : List Rat} {xs : List RQ} {x : RQ} {X : Rat} {o : Obj} (h1 : OwnC 3 RQ.cells 25 B w v xs) (h2 : xs.length = Xs.length) (h3 : ∀ (j : Nat) (x : RQ), xs[j]? = some x → x.ok w ∧ x.is w (Xs.getD j 0))
    (hx : x.ok w) (hX : x.is w X) (ho : OwnC 3 RQ.cells 25 B w' v' (xs ++ [x])) (hg : (w.alloc o).grownBy w' v.ownBlock) : OwnQ B w' v' (Xs ++ [X]) := by
  have ba := below_alloc w o
  have hn := (h1.below ba).noW
  refine ⟨xs ++ [x], ho, by simp [h2], fun j y hy => ?_⟩
  rcases Nat.lt_or_ge j xs.length with hj | hj
  · rw [List.getElem?_append_left hj] at hy
    obtain ⟨g1, g2⟩ := h3 j y hy
    rw [getD_app_left Xs [X] (by omega)]
    exact ⟨RQ.grownC (RQ.below g1 ba) hg hn, Q.grownC (g2.below ba) hg hn⟩
  · have hj2 : j = xs.length := by
      rw [List.getElem?_append_right hj] at hy
      rcases Nat.eq_zero_or_pos (j - xs.length) with h0 | h0
      · omega
      · rw [List.getElem?_eq_none (by simp; omega)] at hy; cases hy
    subst hj2
    rw [List.getElem?_append_right (Nat.le_refl _), Nat.sub_self] at hy
    have e : x = y := by simpa using hy
    subst e
    rw [getD_app_end Xs X h2.symm]
    exact ⟨RQ.grownC (RQ.below hx ba) hg hn, Q.grownC (hX.below ba) hg hn⟩
/-- append of nothing onto nothing -/
theorem run_append_zero (w : World) (t ty e : TypeId) (i : TypeInfo) (ht : Tryz.prog.underlying t = some (.slice e)) (hi : Tryz.prog.info? e = some i) (A : Option Addr) (c : Nat) :
    (Builtin.append_ #[t, t] ty #[.slice none 0 0, .slice A 0 c]).run Tryz.prog w = .ok (.slice none 0 0) w := by
  cases A <;> simp [Builtin.append_, run_underlying ht, sizeOf, typeInfo, hi, Builtin.lenOf, Builtin.firstCells, loadCells, loadCellsFrom]
theorem wpList_append_zero (w : World) {ops : Array Oper} {rest : List Oper} {o : Oper} {a : Act} {Q : Exit → Act → World → Prop} (hgd : o.guard = none) (s x : Operand) (t : TypeId)
    (ho : o.op = .call { callee := .builtin .append, args := #[s, x], argTypes := #[t, t] }) (e : TypeId) (i : TypeInfo) (ht : Tryz.prog.underlying t = some (.slice e)) (hi : Tryz.prog.info? e = some i)
    (A : Option Addr) (c : Nat) (hs : a.eval s = .slice none 0 0) (hx : a.eval x = .slice A 0 c)
    (h : wpList Tryz.prog ops Q rest (a.put o.dst (.slice none 0 0)) w) : wpList Tryz.prog ops Q (o :: rest) a w := by
  refine wpList_plain hgd fun K hK => ?_
  unfold Oper.wp execOp
  simp only [ho, resolve, invoke, builtin, Sem.run_bind, Sem.run_pure, Result.andThen_ok, List.map_toArray, List.map_cons, List.map_nil, hs, hx, run_append_zero w t o.type e i ht hi A c]
  exact hK _ _ h

theorem line_copied {w : World} {A : Option Addr} {n c : Nat} {xs : List Int} (h : Sl w A n c xs) (hn : n ≤ 1000000) :
    Calls Tryz.prog 78 #[.slice A n c] w (RetSl xs w) := by
  obtain ⟨i0, hi, hz0, hz1, hz2⟩ := info_parts infoW
  have hlen := h.len
  by_cases h0 : n = 0
  · subst h0
    obtain rfl : xs = [] := List.eq_nil_of_length_eq_zero hlen.symm
    clear hlen h hn
    go_enter Tryz.func78, Tryz.ntmps78
    go_wp2_with (at_builtin; refine wpList_append_zero _ rfl _ _ 23 rfl 76 i0 Tryz.underlying23 hi A c rfl rfl ?_)
    go_ret
    exact ⟨none, 0, 0, rfl, Sl.nil _ _ _, Below.refl _ _⟩
  · obtain ⟨b, off, rfl, hlt, hc⟩ := h.2 (by omega)
    have hu := h.us
    have hnews : ∀ (j : Nat) (u : Value), (vs xs)[j]? = some u → w.cell? ((⟨b, off, none⟩ : Addr).add j) = some u := by
      intro j u hj
      have hjl : j < xs.length := by
        rcases Nat.lt_or_ge j xs.length with h9 | h9
        · exact h9
        · rw [List.getElem?_eq_none (by rw [vs_length]; omega)] at hj; cases hj
      have e1 : (⟨b, off, none⟩ : Addr).add j = ⟨b, off + j, none⟩ := by
        unfold Addr.add; split
        · rename_i h9; rw [h9, Nat.add_zero]
        · rfl
      rw [e1, hc j (by omega)]
      unfold vs at hj
      rw [List.getElem?_map, List.getElem?_eq_getElem hjl] at hj
      rw [List.getD_eq_getElem?_getD, List.getElem?_eq_getElem hjl]
      exact hj
    have HN := Lib.hid hnews
    clear hnews hc
    go_enter Tryz.func78, Tryz.ntmps78
    go_wp2_with (at_builtin; refine wpList_append_own _ rfl _ _ 23 rfl w.heap.size 76 i0 (.int .u64 0) 1 8 Tryz.underlying23 hi hz0 hz1 hz2 rfl (by decide) _ _ _ rfl (World.ownsRow_nil _ _ _ _) ⟨b, off, none⟩ n c (vs xs) rfl ?c0 ?c1 ?c2 ?c3 ?c4 ?c5 ?_)
    case c0 => rw [vs_length]; omega
    case c1 => exact HN.out
    case c2 => intro u hu; unfold vs at hu; obtain ⟨z, _, rfl⟩ := List.mem_map.1 hu; rfl
    case c3 => unfold maxLen; omega
    case c4 => omega
    case c5 => exact Nat.le_refl _
    intro v' w1 hown hgrow _
    have hown2 : Own 76 w.heap.size w1 v' xs := hown
    have hb1 : Below w.heap.size w w1 := (Below.refl _ w).grown hgrow (Nat.le_refl _) (fun k e => by cases e)
    have HO := Lib.hid hown2
    clear hown hown2 hgrow
    go_wp2_with fail
    go_ret
    exact retSl_own HO.out hu hb1

end Go.Proofs.YtibgpeaplmcogaaGreatDoor

namespace Go.Proofs.YtibgpeaplmcogaaGreatDoor
set_option maxRecDepth 100000
open Go.RowKit Go.Maps
set_option linter.unusedVariables false
set_option linter.unusedSimpArgs false

theorem lawI : Keyed Tryz.prog 3 := int_keyed Tryz.underlying3
theorem zeroI (w : World) : (zeroValue 3).run Tryz.prog w = .ok (.int .i64 0) w := by kernel_rfl
theorem wfI {z : Int} (h : I64 z) : (Lit.int .i64 z).wf = true := by
  unfold I64 at h
  simp [Lit.wf, IntKind.min, IntKind.max, IntKind.signed, IntKind.bits]
  omega
/-- block b is a map that holds, for each z, just v z where there z stands -/
def MapIs (w : World) (b n : Nat) (th : Int → Bool) (v : Int → Int) : Prop := ∃ D : DataW Unit, w.ownsMap Tryz.prog 3 (plainElem Tryz.prog 3) b n D ∧ IsMap D ∧
  ∀ z, I64 z → Maps.has D (.int .i64 z) = th z ∧ D.atKey (.int .i64 z) (.lit (.int .i64 0)) = .lit (.int .i64 (if th z = true then v z else 0))
theorem MapIs.made (w : World) : MapIs (w.alloc (.map #[] 0)) w.heap.size 0 (fun _ => false) (fun _ => 0) := by
  refine ⟨.map [], World.ownsMap_made _ _ _ _, isMap_empty, fun z hz => ⟨rfl, ?_⟩⟩
  rw [atKey_of_not_has rfl]; rfl
theorem MapIs.congr {w : World} {b n : Nat} {th th' : Int → Bool} {v v' : Int → Int} (h : MapIs w b n th v) (e1 : ∀ z, th z = th' z) (e2 : ∀ z, th z = true → v z = v' z) : MapIs w b n th' v' := by
  obtain ⟨D, h1, h2, h3⟩ := h
  refine ⟨D, h1, h2, fun z hz => ?_⟩
  obtain ⟨a, c⟩ := h3 z hz
  rw [← e1 z]
  refine ⟨a, c.trans ?_⟩
  by_cases ht : th z = true
  · rw [if_pos ht, if_pos ht, e2 z ht]
  · rw [if_neg ht, if_neg ht]
theorem MapIs.kept {w w' : World} {b n : Nat} {th : Int → Bool} {v : Int → Int} {row : Option Nat} (h : MapIs w b n th v) (hg : w.grownBy w' row) (hne : some b ≠ row) : MapIs w' b n th v := by
  obtain ⟨D, h1, h2, h3⟩ := h
  exact ⟨D, h1.kept hg hne, h2, h3⟩
theorem MapIs.mono1 {w : World} {b n : Nat} {th : Int → Bool} {v : Int → Int} (h : MapIs w b n th v) : MapIs w b (n + 1) th v := by
  obtain ⟨D, h1, h2, h3⟩ := h
  exact ⟨D, h1.mono (Nat.le_succ n), h2, h3⟩
theorem MapIs.lt {w : World} {b n : Nat} {th : Int → Bool} {v : Int → Int} (h : MapIs w b n th v) : b < w.heap.size := by
  obtain ⟨D, h1, _⟩ := h
  exact h1.lt
theorem MapIs.below {w w' : World} {b n : Nat} {th : Int → Bool} {v : Int → Int} (h : MapIs w b n th v) (hb : Below w.heap.size w w') : MapIs w' b n th v := by
  have hlt := h.lt
  obtain ⟨D, ⟨es, clock, h1, r⟩, h2⟩ := h
  exact ⟨D, ⟨es, clock, (hb.block b hlt).trans h1, r⟩, h2⟩
theorem MapIs.noW {w : World} {b n : Nat} {th : Int → Bool} {v : Int → Int} (h : MapIs w b n th v) : NoWAt w b := by
  obtain ⟨D, h1, _⟩ := h
  obtain ⟨es, clock, hb, _⟩ := h1
  intro i x hx
  unfold World.cell? at hx
  simp [hb] at hx
/-- a store -/
theorem MapIs.put {w : World} {b n : Nat} {th : Int → Bool} {v : Int → Int} {D : DataW Unit} (h2 : IsMap D) (h3 : ∀ z, I64 z → Maps.has D (.int .i64 z) = th z ∧ D.atKey (.int .i64 z) (.lit (.int .i64 0)) = .lit (.int .i64 (if th z = true then v z else 0)))
    {k x : Int} (hk : I64 k) (h1 : w.ownsMap Tryz.prog 3 (plainElem Tryz.prog 3) b n (D.put (.int .i64 k) (.lit (.int .i64 x)))) : MapIs w b n (fun z => th z || decide (z = k)) (fun z => if z = k then x else v z) := by
  have hkl : WideAt.IsKeyLit (.int .i64 k) := trivial
  refine ⟨_, h1, h2.put _ _, fun z hz => ?_⟩
  by_cases e : z = k
  · subst e
    rw [has_put_same h2 hkl, atKey_put_same h2 hkl]
    simp
  · have hne : (Lit.int .i64 z) ≠ (Lit.int .i64 k) := fun h9 => e (by injection h9)
    obtain ⟨a, c⟩ := h3 z hz
    rw [has_put_other hne, atKey_put_other hne, a, c]
    simp [e]

/-- an instruction is stored into block g -/
def put6 (w : World) (g : Nat) (x0 x1 x2 x3 x4 x5 : Value) : World := (((((w.setCell ⟨g, 0, none⟩ x0).setCell ⟨g, 1, none⟩ x1).setCell ⟨g, 2, none⟩ x2).setCell ⟨g, 3, none⟩ x3).setCell ⟨g, 4, none⟩ x4).setCell ⟨g, 5, none⟩ x5
theorem keep_put6 (w : World) (g : Nat) (x0 x1 x2 x3 x4 x5 : Value) : Keep g w (put6 w g x0 x1 x2 x3 x4 x5) := ((((((Keep.refl g w).setCell 0 x0).setCell 1 x1).setCell 2 x2).setCell 3 x3).setCell 4 x4).setCell 5 x5
theorem Sl.keepNoW {g : Nat} {w w' : World} {A : Option Addr} {n c : Nat} {xs : List Int} (h : Sl w A n c xs) (hg : NoWAt w g) (k : Keep g w w') : Sl w' A n c xs := by
  have hN : SlN g w A n c xs := ⟨h, fun h0 => by
    obtain ⟨b, off, e, hlt, hc⟩ := h.2 h0
    exact ⟨b, off, e, fun e2 => by subst e2; exact hg _ _ (hc 0 h0)⟩⟩
  exact (hN.keep k).sl
theorem box_noW {t : TypeId} {w : World} {g : Nat} {vs : Array Value} (h : Box t w g vs) (hv : ∀ u ∈ vs.toList, NoW u) : NoWAt w g := by
  intro i x hx
  rw [h.cell] at hx
  exact hv _ (by simpa using Array.mem_of_getElem? hx) x rfl

end Go.Proofs.YtibgpeaplmcogaaGreatDoor

namespace Go.Proofs.YtibgpeaplmcogaaGreatDoor
set_option maxRecDepth 100000
open Go.RowKit
set_option linter.unusedVariables false
set_option linter.unusedSimpArgs false

theorem boxes63 (t u : TypeId) (w : World) (vs us : Array Value) : ∃ W, (w.alloc (.cells vs t)).alloc (.cells us u) = W ∧ Box t W w.heap.size vs ∧ Box u W (w.heap.size + 1) us ∧ Below w.heap.size w W := by
  refine ⟨_, rfl, (Box.new w t vs).alloc _, ?_, (below_alloc _ _).alloc (by simp) _⟩
  have := Box.new (w.alloc (.cells vs t)) u us
  rw [show (w.alloc (.cells vs t)).heap.size = w.heap.size + 1 from by simp] at this
  exact this
end Go.Proofs.YtibgpeaplmcogaaGreatDoor

namespace Go.Proofs.YtibgpeaplmcogaaGreatDoor
set_option maxRecDepth 100000
open Go.RowKit
set_option linter.unusedVariables false
set_option linter.unusedSimpArgs false

theorem fit_const {a b : Int} {q : Bool × List Int × List Int} {n : Nat} (h : fits vq nq ⟨2, a, b, q⟩ n) : vq q = true := by
  unfold fits at h
  simp at h
  exact h.2.2
theorem fit_one {op a b : Int} {q : Bool × List Int × List Int} {n : Nat} (h2 : ¬ op = 2) (h1 : ¬ op = 1) (ha : arity op = 1) (h : fits vq nq ⟨op, a, b, q⟩ n) : 0 ≤ a ∧ a < n := by
  unfold fits at h
  simp only at h
  rw [if_neg h2, if_neg h1, if_pos ha] at h
  exact ⟨h.2.1, h.2.2.1⟩
theorem fit_two {op a b : Int} {q : Bool × List Int × List Int} {n : Nat} (h2 : ¬ op = 2) (h1 : ¬ op = 1) (ha : arity op = 2) (h : fits vq nq ⟨op, a, b, q⟩ n) : 0 ≤ a ∧ a < n ∧ 0 ≤ b ∧ b < n := by
  unfold fits at h
  simp only at h
  rw [if_neg h2, if_neg h1, if_neg (by omega)] at h
  exact ⟨h.2.2.1, h.2.2.2.1, h.2.2.2.2.1, h.2.2.2.2.2⟩
theorem fit_no {op a b : Int} {q : Bool × List Int × List Int} {n : Nat} (h2 : ¬ op = 2) (h1 : ¬ op = 1) (ha : arity op = -1) (h : fits vq nq ⟨op, a, b, q⟩ n) : False := by
  unfold fits at h
  simp only at h
  rw [if_neg h2, if_neg h1, if_neg (by omega)] at h
  omega
end Go.Proofs.YtibgpeaplmcogaaGreatDoor

namespace Go.Proofs.YtibgpeaplmcogaaGreatDoor
set_option maxRecDepth 100000
open Go.RowKit Go.Maps
set_option linter.unusedVariables false
set_option linter.unusedSimpArgs false

theorem boxes66 (t : TypeId) (w : World) (vs us : Array Value) : ∃ W, (w.alloc (.cells vs t)).alloc (.cells us t) = W ∧ Box t W w.heap.size vs ∧ Box t W (w.heap.size + 1) us ∧ Below w.heap.size w W := boxes63 t t w vs us

set_option maxRecDepth 100000 in
set_option maxHeartbeats 4000000 in
theorem rn_copy {w : World} {op a b : Int} {s : Bool} {A A' : Option Addr} {n c n' c' mb : Nat} {z z' : List Int} (h1 : Sl w A n c z) (h2 : Sl w A' n' c' z') (hn : n ≤ 1000) (hn' : n' ≤ 1000) (har : ¬ arity op = 1 ∧ ¬ arity op = 2) :
    Calls Tryz.prog 53 #[.agg #[.int .i64 op, .int .i64 a, .int .i64 b, .bool s, .slice A n c, .slice A' n' c'], .map (some mb)] w fun e w' => ∃ A1 n1 c1 A2 n2 c2, e = .returned (.agg #[.int .i64 op, .int .i64 a, .int .i64 0, .bool s, .slice A1 n1 c1, .slice A2 n2 c2]) ∧ Sl w' A1 n1 c1 z ∧ Sl w' A2 n2 c2 z' ∧ Below w.heap.size w w' := by
  obtain ⟨V, hW, Bx, Br, hb0⟩ := boxes66 27 w #[.int .i64 op, .int .i64 a, .int .i64 b, .bool s, .slice A n c, .slice A' n' c'] #[.int .i64 0, .int .i64 0, .int .i64 0, .bool false, .slice none 0 0, .slice none 0 0]
  have C1 := fun w1 (hb9 : Below V.heap.size V w1) => line_copied (h1.below (bb hb0 hb9)) (by omega)
  have C2 := fun w1 (hb9 : Below V.heap.size V w1) => line_copied (h2.below (bb hb0 hb9)) (by omega)
  have AR := fun (w1 : World) => line_arity op w1
  have hS : ∀ w', Below V.heap.size V w' → w'.cell? ⟨w.heap.size, 0, none⟩ = some (.int .i64 op) ∧ w'.cell? ⟨w.heap.size, 1, none⟩ = some (.int .i64 a) ∧ w'.cell? ⟨w.heap.size, 3, none⟩ = some (.bool s) ∧ w'.cell? ⟨w.heap.size, 4, none⟩ = some (.slice A n c) ∧ w'.cell? ⟨w.heap.size, 5, none⟩ = some (.slice A' n' c') := fun w' hb9 => ⟨(Bx.below' hb9).six.1.1, (Bx.below' hb9).six.1.2.1, (Bx.below' hb9).six.1.2.2.2.1, (Bx.below' hb9).six.1.2.2.2.2.1, (Bx.below' hb9).six.1.2.2.2.2.2⟩
  have hP : ∀ (w' : World) (x0 x1 x2 x3 x4 x5 : Value), Below V.heap.size V w' → (fun w' : World => w'.cell? ⟨w.heap.size, 0, none⟩ = some (.int .i64 op) ∧ w'.cell? ⟨w.heap.size, 1, none⟩ = some (.int .i64 a) ∧ w'.cell? ⟨w.heap.size, 3, none⟩ = some (.bool s) ∧ w'.cell? ⟨w.heap.size, 4, none⟩ = some (.slice A n c) ∧ w'.cell? ⟨w.heap.size, 5, none⟩ = some (.slice A' n' c')) (put6 w' (w.heap.size + 1) x0 x1 x2 x3 x4 x5) := fun w' x0 x1 x2 x3 x4 x5 hb9 => by
    obtain ⟨p0, p1, p3, p4, p5⟩ := hS w' hb9
    have hlt3 : w.heap.size < w'.heap.size := (Bx.below' hb9).lt
    have hk := fun i => World.cell?_of_block (a := ⟨w.heap.size, i, none⟩) ((keep_put6 w' (w.heap.size + 1) x0 x1 x2 x3 x4 x5).block w.heap.size hlt3 (by omega))
    exact ⟨(hk 0).trans p0, (hk 1).trans p1, (hk 3).trans p3, (hk 4).trans p4, (hk 5).trans p5⟩
  simp only [put6] at hP
  generalize arity op = r at *
  have e1 : (r == 1) = false := by simpa using har.1
  have e2 : (r == 2) = false := by simpa using har.2
  have HAR := Lib.hid AR
  have HC1 := Lib.hid C1
  have HC2 := Lib.hid C2
  have HS := Lib.hid hS
  have HP := Lib.hid hP
  have HBr := Lib.hid Br
  have HW := Lib.hid hW
  obtain ⟨hr1, hr2⟩ := har
  clear AR C1 C2 hS hP Bx Br hW h1 h2
  go_enter Tryz.func53, Tryz.ntmps53
  go_wp2_with fail
  with_reducible refine (HAR.out _).mono ?_
  rintro _ _ ⟨rfl, rfl⟩
  go_wp2_with fail
  rw [HW.out]
  obtain ⟨k0, k1, k3, k4, k5⟩ := HS.out _ (Below.refl _ V)
  go_region_held3 (fun w' => w'.cell? ⟨w.heap.size, 0, none⟩ = some (.int .i64 op) ∧ w'.cell? ⟨w.heap.size, 1, none⟩ = some (.int .i64 a) ∧ w'.cell? ⟨w.heap.size, 3, none⟩ = some (.bool s) ∧ w'.cell? ⟨w.heap.size, 4, none⟩ = some (.slice A n c) ∧ w'.cell? ⟨w.heap.size, 5, none⟩ = some (.slice A' n' c')) (first | with_reducible exact HS4.out | with_reducible exact HS.out _ (Below.refl _ V).drew | with_reducible exact HS.out _ x2 | with_reducible exact HS.out _ x1 | fail)
    (first
      | (go_at_call 78; (with_reducible refine (HC1.out _ ?hb1).mono ?_); (case hb1 => exact (Below.refl _ V).drew); rintro _ w1 ⟨A1, n1, c1, rfl, t1, b1⟩; have x1 : Below V.heap.size V w1 := Below.undrew b1)
      | (go_at_call 78; (with_reducible refine (HC2.out _ x1).mono ?_); rintro _ w2 ⟨A2, n2, c2, rfl, t2, b2⟩; have x2 : Below V.heap.size V w2 := bb x1 b2; have HS4 := Lib.hid (HP.out w2 (.int .i64 op) (.int .i64 a) (.int .i64 0) (.bool s) (.slice A1 n1 c1) (.slice A2 n2 c2) x2); have B9 := HBr.out.below' x2; obtain ⟨⟨r0, r1, r2, r3, r4, r5⟩, f0, f1, f2, f3, f4, f5⟩ := B9.six))
  all_goals
    go_wp2_with fail
    refine bodyPost_ret (v := .agg #[.int .i64 op, .int .i64 a, .int .i64 0, .bool s, .slice A1 n1 c1, .slice A2 n2 c2]) (by simp [results, Tryz.results53, go_sem, r0, r1, r2, r3, r4, r5]) rfl ?_
    have hnw : NoWAt w2 (w.heap.size + 1) := box_noW B9 (by
      intro u hu
      simp only [List.mem_cons, List.not_mem_nil, or_false] at hu
      rcases hu with rfl | rfl | rfl | rfl | rfl | rfl
      · exact NoW_i64 _
      · exact NoW_i64 _
      · exact NoW_i64 _
      · exact NoW_bool _
      · exact NoW_slice _ _ _
      · exact NoW_slice _ _ _)
    have hkp := keep_put6 w2 (w.heap.size + 1) (.int .i64 op) (.int .i64 a) (.int .i64 0) (.bool s) (.slice A1 n1 c1) (.slice A2 n2 c2)
    exact ⟨_, _, _, _, _, _, rfl, (t1.below b2).keepNoW hnw hkp, t2.keepNoW hnw hkp, Below.keep (bb hb0 x2) hkp (by omega) (Nat.le_refl _)⟩

end Go.Proofs.YtibgpeaplmcogaaGreatDoor

namespace Go.Proofs.YtibgpeaplmcogaaGreatDoor
set_option maxRecDepth 100000
open Go.RowKit Go.Maps
set_option linter.unusedVariables false
set_option linter.unusedSimpArgs false

/-- an instruction, and nothing that was there has turned -/
def RetRI (p : PI) (w : World) (e : Ending) (w' : World) : Prop := ∃ y : RI, e = .returned (.agg #[.int .i64 y.op, .int .i64 y.a, .int .i64 y.b, .bool y.q.s, .slice y.q.A y.q.n y.q.c, .slice y.q.A' y.q.n' y.q.c']) ∧ y.ok w' ∧ y.pi = p ∧ Below w.heap.size w w'
def mkRI (op a b : Int) : RI := ⟨op, a, b, ⟨false, none, 0, 0, [], none, 0, 0, []⟩⟩
theorem mkRI_ok (w : World) {op a b : Int} (h1 : I64 op) (h2 : I64 a) (h3 : I64 b) : (mkRI op a b).ok w := ⟨h1, h2, h3, Sl.nil _ _ _, Sl.nil _ _ _, by unfold maxLen; simp [mkRI], by unfold maxLen; simp [mkRI]⟩
theorem nq_of {s : Bool} {z z' : List Int} (h : nq (s, z, z') = true) : s = false ∧ z = [] ∧ z' = [] := by
  unfold nq at h
  rw [decide_eq_true_eq] at h
  exact h
theorem wf_I64 {z : Int} (h : (Lit.int .i64 z).wf = true) : I64 z := I64_of_wf h

set_option maxRecDepth 100000 in
set_option maxHeartbeats 4000000 in
theorem rn_one {w : World} {op a b : Int} {q : RQ} {mb N : Nat} {D : DataW Unit} (hD : w.ownsMap Tryz.prog 3 (plainElem Tryz.prog 3) mb N D) (har : arity op = 1) (ha : I64 a) {va : Int} (e1 : D.atKey (.int .i64 a) (.lit (.int .i64 0)) = .lit (.int .i64 va)) :
    Calls Tryz.prog 53 #[.agg #[.int .i64 op, .int .i64 a, .int .i64 b, .bool q.s, .slice q.A q.n q.c, .slice q.A' q.n' q.c'], .map (some mb)] w fun e w' => e = .returned (.agg #[.int .i64 op, .int .i64 va, .int .i64 0, .bool false, .slice none 0 0, .slice none 0 0]) ∧ I64 va ∧ Below w.heap.size w w' := by
  have AR := fun (w1 : World) => line_arity op w1
  rw [har] at AR
  have HAR := Lib.hid AR
  clear AR har
  go_enter Tryz.func53, Tryz.ntmps53
  go_wp2_with fail
  with_reducible refine (HAR.out _).mono ?_
  rintro _ _ ⟨rfl, rfl⟩
  go_wp2_with (at_lookup; refine wpList_lookup_own_int _ rfl _ _ 71 rfl 3 3 .i64 lawI Tryz.underlying71 Tryz.underlying3 (zeroI _) mb N D rfl ((hD.alloc _).alloc _) (.int .i64 a) _ rfl (keyOf_int_mk Tryz.underlying3 (wfI ha)) ?_; intro ca hata hwca)
  rw [e1] at hata
  injection hata with hata
  injection hata with _ hata
  subst hata
  go_wp2_with fail
  refine bodyPost_ret (v := .agg #[.int .i64 op, .int .i64 va, .int .i64 0, .bool false, .slice none 0 0, .slice none 0 0]) (by simp [results, Tryz.results53, go_sem]) rfl ?_
  exact ⟨rfl, wf_I64 hwca, (below_alloc _ _).alloc (by simp) _⟩

set_option maxRecDepth 100000 in
set_option maxHeartbeats 4000000 in
theorem rn_two {w : World} {op a b : Int} {q : RQ} {mb N : Nat} {D : DataW Unit} (hD : w.ownsMap Tryz.prog 3 (plainElem Tryz.prog 3) mb N D) (har : arity op = 2) (ha : I64 a) (hb : I64 b) {va vb : Int} (e1 : D.atKey (.int .i64 a) (.lit (.int .i64 0)) = .lit (.int .i64 va)) (e2 : D.atKey (.int .i64 b) (.lit (.int .i64 0)) = .lit (.int .i64 vb)) :
    Calls Tryz.prog 53 #[.agg #[.int .i64 op, .int .i64 a, .int .i64 b, .bool q.s, .slice q.A q.n q.c, .slice q.A' q.n' q.c'], .map (some mb)] w fun e w' => e = .returned (.agg #[.int .i64 op, .int .i64 va, .int .i64 vb, .bool false, .slice none 0 0, .slice none 0 0]) ∧ I64 va ∧ I64 vb ∧ Below w.heap.size w w' := by
  have AR := fun (w1 : World) => line_arity op w1
  rw [har] at AR
  have HAR := Lib.hid AR
  clear AR har
  go_enter Tryz.func53, Tryz.ntmps53
  go_wp2_with fail
  with_reducible refine (HAR.out _).mono ?_
  rintro _ _ ⟨rfl, rfl⟩
  go_wp2_with (first | (at_lookup; refine wpList_lookup_own_int _ rfl _ _ 71 rfl 3 3 .i64 lawI Tryz.underlying71 Tryz.underlying3 (zeroI _) mb N D rfl ((hD.alloc _).alloc _) (.int .i64 a) _ rfl (keyOf_int_mk Tryz.underlying3 (wfI ha)) ?_; intro ca hata hwca) | (at_lookup; refine wpList_lookup_own_int _ rfl _ _ 71 rfl 3 3 .i64 lawI Tryz.underlying71 Tryz.underlying3 (zeroI _) mb N D rfl ((hD.alloc _).alloc _) (.int .i64 b) _ rfl (keyOf_int_mk Tryz.underlying3 (wfI hb)) ?_; intro cb hatb hwcb))
  rw [e1] at hata
  injection hata with hata
  injection hata with _ hata
  subst hata
  rw [e2] at hatb
  injection hatb with hatb
  injection hatb with _ hatb
  subst hatb
  go_wp2_with fail
  refine bodyPost_ret (v := .agg #[.int .i64 op, .int .i64 va, .int .i64 vb, .bool false, .slice none 0 0, .slice none 0 0]) (by simp [results, Tryz.results53, go_sem]) rfl ?_
  exact ⟨rfl, wf_I64 hwca, wf_I64 hwcb, (below_alloc _ _).alloc (by simp) _⟩

theorem line_renum {w : World} {x : RI} (hx : x.ok w) {mb N : Nat} {th : Int → Bool} {v : Int → Int} (M : MapIs w mb N th v) {i : Nat} (hfit : fits vq nq x.pi i) (hi : i ≤ 65536) (hn : x.q.n ≤ 1000) (hn' : x.q.n' ≤ 1000) {mk : Nat → Bool} (hv : ∀ j : Nat, Uses x.pi j → th j = true ∧ v j = (cnt mk j : Int)) :
    Calls Tryz.prog 53 #[.agg #[.int .i64 x.op, .int .i64 x.a, .int .i64 x.b, .bool x.q.s, .slice x.q.A x.q.n x.q.c, .slice x.q.A' x.q.n' x.q.c'], .map (some mb)] w (RetRI (ren mk x.pi) w) := by
  obtain ⟨op, a, b, q⟩ := x
  obtain ⟨i1, i2, i3, hq⟩ := hx
  obtain ⟨D, hD, _, hM⟩ := M
  simp only at hn hn' i1 i2 i3 hq ⊢
  have hfit : fits vq nq ⟨op, a, b, (q.s, q.z, q.z')⟩ i := hfit
  have hv : ∀ j : Nat, Uses ⟨op, a, b, (q.s, q.z, q.z')⟩ j → th j = true ∧ v j = (cnt mk j : Int) := hv
  show Calls _ _ _ w (RetRI (ren mk ⟨op, a, b, (q.s, q.z, q.z')⟩) w)
  rcases ar_cases op with ⟨c, d⟩ | ⟨c, d1, d2⟩ | ⟨c, d1, d2⟩ | ⟨c, d1, d2⟩
  · have hb0 : b = 0 := by
      unfold fits at hfit
      simp only at hfit
      rcases d with d | d
      · rw [if_neg (by omega), if_pos d] at hfit; exact hfit.2.2.2
      · rw [if_pos d] at hfit; exact hfit.2.1
    refine (rn_copy (mb := mb) (s := q.s) hq.1 hq.2.1 hn hn' ⟨by omega, by omega⟩).mono ?_
    rintro _ w1 ⟨A1, n1, c1, A2, n2, c2, rfl, t1, t2, b1⟩
    refine ⟨⟨op, a, 0, ⟨q.s, A1, n1, c1, q.z, A2, n2, c2, q.z'⟩⟩, rfl, ⟨i1, i2, by unfold I64; simp, t1, t2, ?_, ?_⟩, ?_, b1⟩
    · have h9 : n1 = q.n := by rw [t1.len, ← hq.1.len]
      show n1 ≤ maxLen
      rw [h9]; exact hq.2.2.1
    · have h9 : n2 = q.n' := by rw [t2.len, ← hq.2.1.len]
      show n2 ≤ maxLen
      rw [h9]; exact hq.2.2.2
    · unfold ren RI.pi
      simp only
      rw [if_neg (by omega), if_neg (by omega), hb0]
  · obtain ⟨g1, g2⟩ := fit_one d2 d1 c hfit
    obtain ⟨t, rfl⟩ : ∃ t : Nat, a = (t : Int) := ⟨a.toNat, by omega⟩
    have hbq : b = 0 ∧ nq (q.s, q.z, q.z') = true := by
      unfold fits at hfit
      simp only at hfit
      rw [if_neg d2, if_neg d1, if_pos c] at hfit
      exact ⟨hfit.2.2.2, hfit.1⟩
    obtain ⟨hb0, hnq⟩ := hbq
    obtain ⟨s0, z0, z0'⟩ := nq_of hnq
    obtain ⟨h1, h2⟩ := hv t (.inl ⟨by show 0 < arity op; omega, rfl⟩)
    obtain ⟨_, h4⟩ := hM (t : Int) i2
    rw [h1, if_pos rfl, h2] at h4
    refine (rn_one (b := b) (q := q) hD c i2 h4).mono ?_
    rintro _ w1 ⟨rfl, v1, b1⟩
    refine ⟨mkRI op (cnt mk t) 0, rfl, mkRI_ok _ i1 v1 (by unfold I64; simp), ?_, b1⟩
    unfold ren RI.pi mkRI
    simp only
    rw [if_pos (by omega), if_neg (by omega), hb0, s0, z0, z0', show ((t : Int)).toNat = t by omega]
  · obtain ⟨g1, g2, g3, g4⟩ := fit_two d2 d1 c hfit
    obtain ⟨t, rfl⟩ : ∃ t : Nat, a = (t : Int) := ⟨a.toNat, by omega⟩
    obtain ⟨u, rfl⟩ : ∃ u : Nat, b = (u : Int) := ⟨b.toNat, by omega⟩
    have hnq : nq (q.s, q.z, q.z') = true := by
      unfold fits at hfit
      simp only at hfit
      rw [if_neg d2] at hfit
      exact hfit.1
    obtain ⟨s0, z0, z0'⟩ := nq_of hnq
    obtain ⟨h1, h2⟩ := hv t (.inl ⟨by show 0 < arity op; omega, rfl⟩)
    obtain ⟨h5, h6⟩ := hv u (.inr ⟨by show 1 < arity op; omega, rfl⟩)
    obtain ⟨_, h4⟩ := hM (t : Int) i2
    obtain ⟨_, h7⟩ := hM (u : Int) i3
    rw [h1, if_pos rfl, h2] at h4
    rw [h5, if_pos rfl, h6] at h7
    refine (rn_two (q := q) hD c i2 i3 h4 h7).mono ?_
    rintro _ w1 ⟨rfl, v1, v2, b1⟩
    refine ⟨mkRI op (cnt mk t) (cnt mk u), rfl, mkRI_ok _ i1 v1 v2, ?_, b1⟩
    unfold ren RI.pi mkRI
    simp only
    rw [if_pos (by omega), if_pos (by omega), s0, z0, z0', show ((t : Int)).toNat = t by omega, show ((u : Int)).toNat = u by omega]
  · exact (fit_no d2 d1 c hfit).elim

end Go.Proofs.YtibgpeaplmcogaaGreatDoor
