/-
  Slices of exact numbers that read as numbers; what evals.copied, clone, element, allRight and line.copied, and the document's Rats, return. Conditions: as each lemma says.
-/
import Derived.Test.YtibgpeaplmcogaaGreatDoorLnAAllT
import Derived.Test.YtibgpeaplmcogaaGreatDoorLnCAllT
import Derived.Test.YtibgpeaplmcogaaGreatDoorRatAddAllT
import Derived.Test.YtibgpeaplmcogaaGreatDoorRefGcdAllT
namespace Go.Proofs.YtibgpeaplmcogaaGreatDoor
set_option maxRecDepth 100000
open Go.RowKit Go.Shelf
set_option linter.unusedVariables false
set_option linter.unusedSimpArgs false
attribute [local go_sem] Oper.semAt_some

def usesB (x : PI) (k : Nat) : Bool := decide ((0 < arity x.op ∧ x.a = (k : Int)) ∨ (1 < arity x.op ∧ x.b = (k : Int)))
theorem usesB_iff (x : PI) (k : Nat) : usesB x k = true ↔ Uses x k := by unfold usesB Uses; rw [decide_eq_true_eq]
def mark (l : List PI) (m : Nat → Bool) (i : Nat) : Nat → Bool := fun k => m k || (m i && usesB (l.getD i PI.nil) k)
def markAll (l : List PI) (m0 : Nat → Bool) (is : List Nat) : Nat → Bool := is.foldl (mark l) m0
theorem markAll_snoc (l : List PI) (m0 : Nat → Bool) (is : List Nat) (i : Nat) : markAll l m0 (is ++ [i]) = mark l (markAll l m0 is) i := by unfold markAll; rw [List.foldl_append]; rfl
theorem mark_end {l : List PI} {outs : List Int} {m0 : Nat → Bool} (hA : Ahead l) (h0 : ∀ i, i < l.length → (m0 i = true ↔ (i : Int) ∈ outs)) : IsNeed l outs (markAll l m0 (List.range l.length).reverse) := by
  have key : ∀ k, k ≤ l.length → IsNeedTo l outs (l.length - k) (markAll l m0 ((List.range l.length).reverse.take k)) := by
    intro k
    induction k with
    | zero => intro _; exact needTo_start h0
    | succ k ih =>
      intro hk
      rw [rev_take (by omega), markAll_snoc]
      have e : l.length - (k + 1) + 1 = l.length - k := by omega
      have e2 : l.length - 1 - k = l.length - (k + 1) := by omega
      have h1 := ih (by omega)
      rw [← e] at h1
      rw [e2]
      refine needTo_step hA (by omega) h1 (fun i hi => ?_)
      unfold mark
      rw [Bool.or_eq_true, Bool.and_eq_true, usesB_iff]
  have := key l.length (Nat.le_refl _)
  rw [Nat.sub_self, List.take_of_length_le (by simp)] at this
  exact needTo_end this
theorem need_congr {l : List PI} {outs : List Int} {m m' : Nat → Bool} (h : IsNeed l outs m) (e : ∀ i, i < l.length → m' i = m i) : IsNeed l outs m' := by
  intro i hi
  rw [e i hi, h i hi]
  constructor
  · rintro (g | ⟨k, k1, k2, k3, k4⟩)
    · exact .inl g
    · exact .inr ⟨k, k1, k2, by rw [e k k2]; exact k3, k4⟩
  · rintro (g | ⟨k, k1, k2, k3, k4⟩)
    · exact .inl g
    · exact .inr ⟨k, k1, k2, by rw [← e k k2]; exact k3, k4⟩
theorem ops_uses {op a b : Int} {q : Bool × List Int × List Int} (k : Nat) : (k : Int) ∈ opsI op a b ↔ Uses ⟨op, a, b, q⟩ k := by
  unfold opsI Uses
  simp only
  rcases ar_cases op with ⟨c, d⟩ | ⟨c, d1, d2⟩ | ⟨c, d1, d2⟩ | ⟨c, d1, d2⟩ <;> rw [c] <;> simp [eq_comm]
theorem ops_len (op a b : Int) : (opsI op a b).length ≤ 2 := by
  unfold opsI
  split
  · simp
  · split <;> simp
/-- a row of truths -/
def BRow (w : World) (g : Nat) (bs : List Bool) : Prop := Box 4 w g (bs.map Value.bool).toArray
theorem BRow.cell {w : World} {g : Nat} {bs : List Bool} (h : BRow w g bs) {i : Nat} (hi : i < bs.length) : w.cell? ⟨g, i, none⟩ = some (.bool (bs.getD i false)) := by
  rw [Box.cell h]
  simp [List.getD, hi]
theorem BRow.free {w : World} {g : Nat} {bs : List Bool} (h : BRow w g bs) (i : Nat) : w.frozen? ⟨g, i, none⟩ = false := Box.free h i
theorem BRow.set {w : World} {g : Nat} {bs : List Bool} (h : BRow w g bs) (i : Nat) (b : Bool) : BRow (w.setCell ⟨g, i, none⟩ (.bool b)) g (bs.set i b) := by
  unfold BRow Box at *
  unfold World.setCell
  simp [Array.getElem?_modify, h, List.map_set]
theorem BRow.lt {w : World} {g : Nat} {bs : List Bool} (h : BRow w g bs) : g < w.heap.size := Box.lt h
theorem BRow.kx {B g' : Nat} {w w' : World} {g : Nat} {bs : List Bool} (h : BRow w g bs) (hb : Below w.heap.size w w') : BRow w' g bs := Box.below' h hb
theorem set_at {bs : List Bool} {i : Nat} (hi : i < bs.length) (b : Bool) (k : Nat) : (bs.set i b).getD k false = if k = i then b else bs.getD k false := by
  rw [List.getD_eq_getElem?_getD, List.getElem?_set, List.getD_eq_getElem?_getD]
  by_cases h : i = k
  · subst h; simp [hi]
  · rw [if_neg h, if_neg (fun e => h e.symm)]
theorem make_bools (w : World) (n : Nat) (hn : n ≤ 1000000) : ∃ w1, (Instr.makeSlice 39 (.int .i64 (n : Int)) (.int .i64 (n : Int))).run Tryz.prog w = .ok (.slice (some ⟨w.heap.size, 0, none⟩) n n) w1 ∧ BRow w1 w.heap.size (List.replicate n false) ∧ Below w.heap.size w w1 ∧ w1.heap.size = w.heap.size + 1 := by
  refine ⟨_, run_make_row' (P := Tryz.prog) 39 4 (.bool false) 1 Tryz.underlying39 (by kernel_rfl) rfl .i64 .i64 n (by omega) (by omega) w, ?_, below_alloc _ _, by simp⟩
  have e : madeCells #[.bool false] n = ((List.replicate n false).map Value.bool).toArray := by
    apply Array.toList_inj.1
    rw [toList_madeCells_one]
    simp
  unfold BRow
  rw [e]
  exact Box.new w _ _
theorem KX.of_below {g : Nat} {W W' : World} (h : Below W.heap.size W W') : KX W.heap.size g W W' := ⟨h.size, fun b hb _ => h.block b hb⟩
theorem KX.mono {B B' g : Nat} {W W' : World} (h : KX B g W W') (hB : B' ≤ B) : KX B' g W W' := ⟨h.1, fun b h1 h2 => h.2 b (by omega) h2⟩
theorem KX.keepsFrom {t : TypeId} {B g : Nat} {W W' : World} {vs : Array Value} (hb : Box t W g vs) (h : KX W.heap.size g W W') : KeepsFrom B W W' :=
  ⟨h.1, fun k o hk h1 h2 => by
    by_cases e : k = g
    · subst e
      unfold Box at hb
      rw [hb] at h1
      cases h1
      cases h2
    · exact (h.2 k (Array.getElem?_eq_some_iff.1 h1).1 e).trans h1⟩
theorem KX.setCell {B g i : Nat} {W W' : World} (h : KX B g W W') (v : Value) : KX B g W (W'.setCell ⟨g, i, none⟩ v) := by
  have hk := (Keep.refl g W').setCell i v
  refine ⟨Nat.le_trans h.1 hk.size, fun b h1 h2 => ?_⟩
  by_cases hlt : b < W'.heap.size
  · exact (hk.block b hlt h2).trans (h.2 b h1 h2)
  · have e1 : W.heap[b]? = none := Array.getElem?_eq_none (by have := h.1; omega)
    rw [e1, Array.getElem?_eq_none]
    have : (W'.setCell ⟨g, i, none⟩ v).heap.size = W'.heap.size := by unfold World.setCell; simp
    omega
/-- between two rounds: the row's truths after the instructions of pre have been gone through -/
def NdI (w W : World) (n sz : Nat) (l : List PI) (bs : List Bool) (pre : List { i : Nat // i < n }) : Prop :=
  ∃ bs' : List Bool, bs'.length = n ∧ BRow W w.heap.size bs' ∧ Box 39 W (w.heap.size + 1) #[.slice (some ⟨w.heap.size, 0, none⟩) n n] ∧ (∀ k, k < n → bs'.getD k false = markAll l (fun i => bs.getD i false) (pre.map Subtype.val) k) ∧ Below w.heap.size w W ∧ sz ≤ W.heap.size
theorem wp_named {c : Code} {F : Fence} {n : Nat} {P : Program} {Q : Exit → Act → World → Prop} {a : Act} {w : World} (h : ∀ a0 : Act, a0 = a → c.wpIn F n P Q a0 w) : c.wpIn F n P Q a w := h a rfl

set_option maxRecDepth 100000 in
set_option maxHeartbeats 4000000 in
theorem line_needs {w : World} {A B : Option Addr} {n c m d : Nat} {xs : List RI} {outs : List Int} (h : SlP w A n c xs) (ho : SlZ w B m d outs) (hA : Ahead (xs.map RI.pi)) (hn : n ≤ 65536) (hm : m ≤ 65536) :
    Calls Tryz.prog 52 #[.slice A n c, .slice B m d] w fun e w' => ∃ g bs, e = .returned (.slice (some ⟨g, 0, none⟩) n n) ∧ w.heap.size ≤ g ∧ bs.length = n ∧ BRow w' g bs ∧ IsNeed (xs.map RI.pi) outs (fun i => bs.getD i false) ∧ Below w.heap.size w w' := by
  have hlen : (xs.map RI.pi).length = n := by rw [List.length_map]; exact h.1.1
  have hol : outs.length = m := ho.1.1
  obtain ⟨w1, hmk, hr1, b1, s1⟩ := make_bools w n (by omega)
  obtain ⟨V, hV, Bn, b2⟩ := box0 39 w1 #[.slice (some ⟨w.heap.size, 0, none⟩) n n]
  have hrV := Box.below' hr1 b2
  have hsV : V.heap.size = w.heap.size + 1 + 1 := by rw [← hV]; simp [s1]
  rw [s1] at Bn
  have yV : Below w.heap.size w V := bb b1 b2
  have HMK := Lib.hid hmk
  have HV := Lib.hid hV
  have HR0 := Lib.hid (show BRow V w.heap.size (List.replicate n false) from hrV)
  have HB0 := Lib.hid Bn
  have HL := Lib.hid hlen
  have HOL := Lib.hid hol
  clear hmk hV hr1 hrV Bn hlen hol b1 b2
  refine (callsIn_wide (n := 3)).1 ?_
  refine callsIn_of_wp_marks Tryz.func52 rfl trivial ?_ rfl
  simp only [Tryz.ntmps52, List.size_toArray, List.length_cons, List.length_nil, Nat.reduceAdd, Nat.reduceSub, Array.replicate_succ, Array.replicate_zero, List.push_toArray, List.append_toArray, List.nil_append, List.cons_append]
  have hmk2 := HMK.out
  gi_wp2_with fail
  rw [HV.out]
  clear hmk2 HMK HV
  gi_loopw [17] (fun iv wr => ∃ (k : Nat) (bs : List Bool), k ≤ m ∧ iv = .int .i64 k ∧ Hid (bs.length = n) ∧ Hid (BRow wr w.heap.size bs) ∧ Hid (Box 39 wr (w.heap.size + 1) #[.slice (some ⟨w.heap.size, 0, none⟩) n n]) ∧ Hid (∀ i, i < n → (bs.getD i false = true ↔ (i : Int) ∈ outs.take k)) ∧ Below w.heap.size w wr) (fun iv _ => m - mes iv)
  case atStart => exact ⟨0, _, by omega, rfl, Lib.hid (by simp), HR0, HB0, Lib.hid (fun i hi => by
    have e9 : (List.replicate n false).getD i false = false := by rw [List.getD_eq_getElem?_getD, List.getElem?_replicate]; split <;> rfl
    rw [e9]; simp), yV⟩
  case round =>
    clear HR0 HB0 yV hsV
    obtain ⟨k, bs, hk, rfl, HBL, HBR, HBN, HT, hb⟩ := hrel
    by_cases hk2 : k < m
    · obtain ⟨b0, off, o, rfl, hlt, hok, hoi, c0⟩ := (ho.below hb).at_ hk2
      have hn1 := HBN.out.cell 0
      have hn2 : wr.cell? ⟨w.heap.size + 1, 0, none⟩ = some (.slice (some ⟨w.heap.size, 0, none⟩) n n) := hn1
      have htk : ∀ x : Int, x ∈ outs.take (k + 1) ↔ (x ∈ outs.take k ∨ x = o) := fun x => by
        rw [take_in (by have := HOL.out; omega) x, List.getD_eq_getElem?_getD, hok]; rfl
      have HTK := Lib.hid htk
      have BL := fun (w1 : World) => Lib.hid (line_below o n w1)
      clear hn1 htk hok hoi
      by_cases hin : 0 ≤ o ∧ o < (n : Int)
      · simp only [decide_eq_true hin] at BL
        obtain ⟨h3, h4⟩ := hin
        obtain ⟨t, rfl⟩ : ∃ t : Nat, o = (t : Int) := ⟨o.toNat, by omega⟩
        have htn : t < n := by omega
        have c1 := HBR.out.cell (i := t) (by have := HBL.out; omega)
        have c2 := HBR.out.free t
        gi_wp2_with (refine ⟨trivial, ?_⟩; gi_at_call 46; refine (callsIn_wide.2 (BL _).out).mono ?_; rintro _ _ ⟨rfl, rfl⟩)
        go_roundw
        case rel =>
          refine ⟨k + 1, bs.set t true, by omega, by go_num, Lib.hid (by rw [List.length_set]; exact HBL.out), Lib.hid (HBR.out.set t true), Lib.hid ?_, Lib.hid (fun i hi => ?_), ?_⟩
          · have hk9 := (Keep.refl w.heap.size wr).setCell t (.bool true)
            exact (hk9.block _ HBN.out.lt (by omega)).trans HBN.out
          · rw [set_at (by have := HBL.out; omega), HTK.out]
            by_cases e : i = t
            · subst e; simp
            · rw [if_neg e, HT.out i hi]
              constructor
              · exact .inl
              · rintro (h9 | h9)
                · exact h9
                · exact absurd (by omega) e
          · exact hb.setCell (p := ⟨w.heap.size, t, none⟩) (Nat.le_refl _) _
        case measure => simp [mes, intOf]; omega
      · simp only [decide_eq_false hin] at BL
        gi_wp2_with (refine ⟨trivial, ?_⟩; gi_at_call 46; refine (callsIn_wide.2 (BL _).out).mono ?_; rintro _ _ ⟨rfl, rfl⟩)
        go_roundw
        case rel =>
          refine ⟨k + 1, bs, by omega, by go_num, HBL, HBR, HBN, Lib.hid (fun i hi => ?_), hb⟩
          rw [HTK.out, HT.out i hi]
          constructor
          · exact .inl
          · rintro (h9 | h9)
            · exact h9
            · exact absurd (by omega) hin
        case measure => simp [mes, intOf]; omega
    · obtain rfl : k = m := by omega
      have hT := HT.out
      rw [List.take_of_length_le (by have := HOL.out; omega)] at hT
      have HT2 := Lib.hid hT
      clear hT HT
      gi_wp2_with (refine ⟨trivial, ?_⟩; gi_at_call 77; refine (bk0 _ _ _ _ _).mono ?_; rintro _ _ ⟨rfl, rfl⟩)
      obtain ⟨W0, hW0, Bl, bl⟩ := box0 22 wr #[.slice A n c]
      have hs0 : W0.heap.size = wr.heap.size + 1 := by rw [← hW0]; simp
      have y0 : Below w.heap.size w W0 := bb hb bl
      have hwr := hb.size
      have hwn : w.heap.size + 1 < wr.heap.size := HBN.out.lt
      have BR0 : BRow W0 w.heap.size bs := Box.below' HBR.out bl
      have BN0 := HBN.out.below' bl
      have hm0 := HT2.out
      have hbl := HBL.out
      rw [hW0]
      clear hW0 HBN HBR HT2 ho
      have HS0 := Lib.hid hs0
      refine wp_named ?_
      intro a0 ha0
      have seq : SeqStopsK Fence.wide 2 Tryz.prog 133 #[.pointer (some ⟨wr.heap.size, 0, none⟩)] (fun x : { i : Nat // i < n } => #[.int .i64 (x.1 : Int), (xs.getD x.1 default).agg]) (KX W0.heap.size w.heap.size) (fun ys => ys.map Subtype.val = (List.range n).reverse) (fun _ => True) n W0 := by
        intro l J Jx W hW _ _ hY h0
        refine bk1 2 (by omega) l wr.heap.size W0.heap.size w.heap.size A n c xs (by omega) (by omega) (by omega) J Jx hY W ((Box.below' Bl hW).cell 0) (fun j hj => ?_) h0
        obtain ⟨b9, o9, x9, e9, hlt9, hx9, hok9, g0, g1, g2, g3, g4, g5⟩ := (h.below (bb y0 hW)).at_ hj
        have hb9 : b9 < w.heap.size := by
          obtain ⟨b8, o8, e8, hlt8, _⟩ := h.2 (by omega)
          rw [e8] at e9
          injection e9 with e9
          injection e9 with e9
          omega
        have ex : xs.getD j default = x9 := by rw [List.getD_eq_getElem?_getD, hx9]; rfl
        rw [ex]
        exact ⟨b9, o9, e9, by omega, by omega, g0, g1, g2, g3, g4, g5⟩
      refine wpIn_rangeFunc_ownH rfl (by omega) (gf := 133) (lb := #[.pointer (some ⟨wr.heap.size, 0, none⟩)]) (by rw [ha0]; rfl) trivial (enters_of Tryz.func133 (by kernel_rfl) rfl) seq
        (fun h1 h2 => KX.trans h1 h2) (fun W l o o' h1 h2 h3 h4 => ⟨by simp [World.putObj], fun b5 h5 h6 => World.putObj_heap_other (by omega)⟩) (Below.refl _ _) (fun _ => rfl)
        (fun pre W => NdI w W n W0.heap.size (xs.map RI.pi) bs pre)
        (fun _ _ _ => False)
        (fun s X Y row hs hg hr => by
          obtain ⟨bs', h1, h2, h3, h4, h5, h6⟩ := hs
          refine ⟨bs', h1, (hg.block _ h2.lt (fun e => by have := (hr _ e.symm).1; omega)).trans h2, (hg.block _ h3.lt (fun e => by have := (hr _ e.symm).1; omega)).trans h3, h4, h5.grown hg h5.size (fun k e => by have := (hr _ e).1; omega), Nat.le_trans h6 hg.size⟩)
        (fun _ _ _ _ _ hs _ _ => hs)
        ⟨bs, hbl, BR0, BN0, fun k _ => rfl, y0, Nat.le_refl _⟩
        (fun x a' W => ∃ Bx, W0.heap.size ≤ Bx ∧ Box 27 W Bx #[.int .i64 (xs.getD x.1 default).op, .int .i64 (xs.getD x.1 default).a, .int .i64 (xs.getD x.1 default).b, .bool (xs.getD x.1 default).q.s, .slice (xs.getD x.1 default).q.A (xs.getD x.1 default).q.n (xs.getD x.1 default).q.c, .slice (xs.getD x.1 default).q.A' (xs.getD x.1 default).q.n' (xs.getD x.1 default).q.c'] ∧ a' = { tmps := (((a0.tmps.setIfInBounds 31 (.int .i64 (x.1 : Int))).setIfInBounds 32 (xs.getD x.1 default).agg).setIfInBounds 8 (.int .i64 (x.1 : Int))).setIfInBounds 9 (.pointer (some ⟨Bx, 0, none⟩)), defers := [] })
        (fun x a' s X Y row hs hg hr => by
          obtain ⟨Bx, h1, h2, h3⟩ := hs
          refine ⟨Bx, h1, (hg.block _ h2.lt (fun e => ?_)).trans h2, h3⟩
          obtain ⟨_, o9, h8, h9⟩ := hr _ e.symm
          unfold Box at h2
          rw [h2] at h8
          cases h8
          cases h9) ?assign ?body ?done ?stop
      case assign =>
        intro l pre x W K hi hK
        subst ha0
        unfold RI.agg at *
        generalize xs.getD x.1 default = y at *
        gi_wp2
        obtain ⟨bs', h1, h2, h3, h4, h5, h6⟩ := hi
        have ba := below_alloc W (.cells #[.int .i64 y.op, .int .i64 y.a, .int .i64 y.b, .bool y.q.s, .slice y.q.A y.q.n y.q.c, .slice y.q.A' y.q.n' y.q.c'] 27)
        exact hK _ _ ((KeepsOthers.alloc _ _).from _) ((KX.of_below ba).mono h6) ⟨bs', h1, Box.below' h2 ba, h3.below' ba, h4, bb h5 ba, Nat.le_trans h6 ba.size⟩ ⟨W.heap.size, h6, Box.new W _ _, rfl⟩
      case body =>
        rintro l pre x a' W hl ⟨r, hr⟩ ⟨bs', h1, h2, h3, h4, h5, h6⟩ ⟨Bx, hBx, bX, rfl⟩ hlt
        subst ha0
        obtain ⟨i, hi⟩ := x
        simp only at bX ⊢
        have hy : xs[i]? = some (xs.getD i default) := by
          have hl9 : i < xs.length := by have := HL.out; rw [List.length_map] at this; omega
          rw [List.getD_eq_getElem?_getD, List.getElem?_eq_getElem hl9]; rfl
        have hp := pi_at hy
        obtain ⟨⟨i1, i2, i3, _⟩, _⟩ := h.1.2.2.2 _ (mem_at hy)
        have hu : ∀ o, Uses (RI.pi (xs.getD i default)) o → 0 ≤ o ∧ o < (i : Int) := fun o ho9 => by
          rw [← hp] at ho9
          exact hA i (by rw [HL.out]; exact hi) o ho9
        have hmk : ∀ k, markAll (xs.map RI.pi) (fun i => bs.getD i false) ((pre ++ [(⟨i, hi⟩ : { i : Nat // i < n })]).map Subtype.val) k = (markAll (xs.map RI.pi) (fun i => bs.getD i false) (pre.map Subtype.val) k || (bs'.getD i false && usesB (RI.pi (xs.getD i default)) k)) := fun k => by
          rw [List.map_append, List.map_cons, List.map_nil, markAll_snoc]
          unfold mark
          rw [hp, h4 i hi]
        unfold RI.agg
        generalize xs.getD i default = y at *
        obtain ⟨op, a, b, q⟩ := y
        simp only at bX i1 i2 i3 ⊢
        have k0 : W.cell? ⟨w.heap.size + 1, 0, none⟩ = some (.slice (some ⟨w.heap.size, 0, none⟩) n n) := h3.cell 0
        have kb := h2.cell (i := i) (by omega)
        obtain ⟨x0, x1, x2, x3, x4, x5⟩ := bX.six.1
        have HMK := Lib.hid hmk
        have HU := Lib.hid hu
        have H1 := Lib.hid h1
        have H2 := Lib.hid h2
        have H3 := Lib.hid h3
        have H4 := Lib.hid h4
        clear hmk hu h1 h2 h3 h4 bX hp hy seq hm0 hbl BR0 BN0 hs0
        cases hbi : bs'.getD i false
        case false =>
          rw [hbi] at kb
          have HB := Lib.hid hbi
          clear hbi
          gi_wp2
          exact ⟨KeepsFrom.refl _ _, KX.refl _ _ _, bs', H1.out, H2.out, H3.out, fun k hk => by rw [HMK.out, HB.out, Bool.false_and, Bool.or_false]; exact H4.out k hk, h5, h6⟩
        case true =>
          rw [hbi] at kb
          have HB := Lib.hid hbi
          have HOP := Lib.hid (fun (w1 : World) => line_operands (op := op) (q := q) i2 i3 w1)
          clear hbi
          gi_wp2_with (refine ⟨trivial, ?_⟩; gi_at_call 49; refine (CallsIn.inRound l (callsIn_wide.2 (HOP.out _))).mono ?_; rintro _ W2 ⟨A2, n2, c2, rfl, z2, b2⟩)
          have hol2 : (opsI op a b).length = n2 := z2.1.1
          have hn2 : n2 ≤ 2 := by rw [← hol2]; exact ops_len op a b
          have hops : ∀ x ∈ opsI op a b, 0 ≤ x ∧ x < (n : Int) := fun x hx => by
            rcases Int.lt_or_le x 0 with h9 | h9
            · exfalso
              unfold opsI at hx
              split at hx
              · rename_i h8
                obtain rfl : x = a := by simpa using hx
                have := HU.out x (.inl ⟨by show 0 < arity op; omega, rfl⟩)
                omega
              · split at hx
                · rename_i h8
                  have hx' : x = a ∨ x = b := by simpa using hx
                  rcases hx' with rfl | rfl
                  · have := HU.out x (.inl ⟨by show 0 < arity op; omega, rfl⟩)
                    omega
                  · have := HU.out x (.inr ⟨by show 1 < arity op; omega, rfl⟩)
                    omega
                · simp at hx
            · obtain ⟨t, rfl⟩ : ∃ t : Nat, x = (t : Int) := ⟨x.toNat, by omega⟩
              have := HU.out t ((ops_uses (q := (q.s, q.z, q.z')) t).1 hx)
              omega
          have r2 : BRow W2 w.heap.size bs' := Box.below' H2.out b2
          have n3 := H3.out.below' b2
          have hne2 : ∀ b9 o9, A2 = some ⟨b9, o9, none⟩ → 0 < n2 → b9 ≠ w.heap.size := fun b9 o9 e9 h9 e8 => by
            obtain ⟨b7, o7, x7, e7, _, _, _, c7⟩ := z2.at_ (j := 0) h9
            rw [e9] at e7
            injection e7 with e7
            injection e7 with e5 e6
            subst e5 e6 e8
            have c8 := c7
            rw [Box.cell r2] at c8
            simp at c8
          have HZ2 := Lib.hid z2
          have HOL2 := Lib.hid hol2
          have HOPS := Lib.hid hops
          have HNE := Lib.hid hne2
          have hW2 := b2.size
          have hwW : w.heap.size + 1 < W2.heap.size := n3.lt
          have R2 := Lib.hid r2
          have N3 := Lib.hid n3
          have y2 := bb h5 b2
          clear z2 hol2 hops hne2 r2 n3 x0 x1 x2 x3 x4 x5 k0 kb HOP
          gi_loopw [40] (fun iv wr2 => ∃ (k : Nat) (bs2 : List Bool), k ≤ n2 ∧ iv = .int .i64 k ∧ Hid (bs2.length = n) ∧ Hid (BRow wr2 w.heap.size bs2) ∧ Hid (Box 39 wr2 (w.heap.size + 1) #[.slice (some ⟨w.heap.size, 0, none⟩) n n]) ∧ Hid (∀ j, j < n → bs2.getD j false = (bs'.getD j false || decide ((j : Int) ∈ (opsI op a b).take k))) ∧ Below w.heap.size w wr2 ∧ Hid (KX W2.heap.size w.heap.size W2 wr2)) (fun iv _ => n2 - mes iv)
          case atStart => exact ⟨0, bs', by omega, rfl, H1, R2, N3, Lib.hid (fun j hj => by simp), y2, Lib.hid (KX.refl _ _ _)⟩
          case round =>
            clear R2 N3 y2
            obtain ⟨k, bs2, hk, rfl, L2, M2, P2, T2, hb2, X2⟩ := hrel
            have p0 : wr.cell? ⟨w.heap.size + 1, 0, none⟩ = some (.slice (some ⟨w.heap.size, 0, none⟩) n n) := P2.out.cell 0
            by_cases hk2 : k < n2
            · obtain ⟨b9, o9, o, e9, hlt9, hok9, hoi9, c9⟩ := HZ2.out.at_ hk2
              have c9' := (X2.out.cell (i := o9 + k) hlt9 (HNE.out b9 o9 e9 (by omega))).trans c9
              obtain ⟨g1, g2⟩ := HOPS.out o (mem_at hok9)
              obtain ⟨t, rfl⟩ : ∃ t : Nat, o = (t : Int) := ⟨o.toNat, by omega⟩
              have htn : t < n := by omega
              have c1 := M2.out.cell (i := t) (by have := L2.out; omega)
              have c2' := M2.out.free t
              have htk : ∀ x : Int, x ∈ (opsI op a b).take (k + 1) ↔ (x ∈ (opsI op a b).take k ∨ x = (t : Int)) := fun x => by
                rw [take_in (by have := HOL2.out; omega) x, List.getD_eq_getElem?_getD, hok9]; rfl
              have HTK := Lib.hid htk
              subst e9
              clear c9 htk hok9 hoi9 hlt9
              gi_wp2
              go_roundw
              case rel =>
                refine ⟨k + 1, bs2.set t true, by omega, by go_num, Lib.hid (by rw [List.length_set]; exact L2.out), Lib.hid (M2.out.set t true), Lib.hid ?_, Lib.hid (fun j hj => ?_), hb2.setCell (p := ⟨w.heap.size, t, none⟩) (Nat.le_refl _) _, Lib.hid (X2.out.setCell _)⟩
                · have hk9 := (Keep.refl w.heap.size wr).setCell t (.bool true)
                  exact (hk9.block _ P2.out.lt (by omega)).trans P2.out
                · rw [set_at (by have := L2.out; omega)]
                  by_cases e : j = t
                  · subst e
                    rw [if_pos rfl, decide_eq_true ((HTK.out _).2 (.inr rfl)), Bool.or_true]
                  · rw [if_neg e, T2.out j hj]
                    congr 1
                    rw [decide_eq_decide, HTK.out]
                    constructor
                    · exact .inl
                    · rintro (h9 | h9)
                      · exact h9
                      · exact absurd (by omega) e
              case measure => simp [mes, intOf]; omega
            · obtain rfl : k = n2 := by omega
              gi_wp2
              have hkx : KX W.heap.size w.heap.size W wr := (KX.of_below b2).trans (X2.out.mono b2.size)
              refine ⟨hkx.keepsFrom H2.out, hkx.mono h6, bs2, L2.out, M2.out, P2.out, fun j hj => ?_, hb2, Nat.le_trans h6 hkx.1⟩
              rw [HMK.out, HB.out, Bool.true_and, T2.out j hj, List.take_of_length_le (by have := HOL2.out; omega), H4.out j hj]
              congr 1
              rw [Bool.eq_iff_iff, decide_eq_true_eq, usesB_iff]
              exact ops_uses (q := (q.s, q.z, q.z')) j
      case done =>
        rintro D ys W hD hS ⟨bs', h1, h2, h3, h4, h5, h6⟩ hK
        subst ha0
        have hc : W.cell? ⟨w.heap.size + 1, 0, none⟩ = some (.slice (some ⟨w.heap.size, 0, none⟩) n n) := h3.cell 0
        gi_wp2
        refine ⟨by simp, .inl ⟨_, _, rfl, run_takeDeferred hK, ?_⟩⟩
        refine ⟨_, results_tmp rfl _ _ _, w.heap.size, bs', rfl, Nat.le_refl _, h1, (World.putObj_heap_other (by omega)).trans h2, ?_, h5.trans (belowK_b (w := w) (Nat.le_refl _) W D _ _ (by omega) hK rfl rfl)⟩
        rw [hS] at h4
        have hN := mark_end (l := xs.map RI.pi) (outs := outs) (m0 := fun i => bs.getD i false) hA (fun i hi => hm0 i (by rw [HL.out] at hi; exact hi))
        rw [HL.out] at hN
        exact need_congr hN (fun i hi => h4 i (by rw [HL.out] at hi; exact hi))
      case stop =>
        rintro D c9 pre W _ _ h9 _
        exact h9.elim

end Go.Proofs.YtibgpeaplmcogaaGreatDoor

namespace Go.Proofs.YtibgpeaplmcogaaGreatDoor
set_option maxRecDepth 100000
open Go.RowKit
set_option linter.unusedVariables false
set_option linter.unusedSimpArgs false

def bitsQ (X : Rat) : Int := max (blen X.num.natAbs : Int) (blen X.den)
/-- a value that is not too great -/
def big (r : Except Int Rat) : Except Int Rat := match r with
  | .error e => .error e
  | .ok X => if 4096 < bitsQ X then .error 5 else .ok X
theorem big_no {X : Rat} (h : 4096 < bitsQ X) : big (.ok X) = .error 5 := by show (if _ then _ else _) = _; rw [if_pos h]
theorem big_yes {X : Rat} (h : ¬ 4096 < bitsQ X) : big (.ok X) = .ok X := by show (if _ then _ else _) = _; rw [if_neg h]
theorem lt_W {n N : Nat} (h : blen n ≤ 64 * N) : n < W ^ N := by
  have e : W ^ N = 2 ^ (64 * N) := by rw [show W = 2 ^ 64 from rfl, ← Nat.pow_mul]
  rw [e]
  exact Nat.lt_of_lt_of_le (blen_lt _) (Nat.pow_le_pow_right (by omega) h)
theorem sz_of_bits {X : Rat} (h : ¬ 4096 < bitsQ X) : Sz X 64 := by
  unfold bitsQ at h
  exact ⟨lt_W (by omega), lt_W (by omega)⟩
/-- the number that a sign and two lists of words say -/
def qval (q : Bool × List Int × List Int) : Rat := rq q.1 (val q.2.1) (val q.2.2)
/-- what an instruction comes to, by the values of those ahead; fs: the forms that are left -/
def raw (ins fs : List Rat) (x : PI) (v : List Rat) : Except Int Rat :=
  if x.op = 1 then (if x.a.toNat < ins.length then .ok (ins.getD x.a.toNat 0) else .error 11)
  else if x.op = 2 then .ok (qval x.q)
  else if x.op = 3 then .ok (-(v.getD x.a.toNat 0))
  else if x.op = 4 then .ok (v.getD x.a.toNat 0 + v.getD x.b.toNat 0)
  else if x.op = 5 then .ok (v.getD x.a.toNat 0 - v.getD x.b.toNat 0)
  else if x.op = 6 then .ok (v.getD x.a.toNat 0 * v.getD x.b.toNat 0)
  else if x.op = 7 then (if v.getD x.b.toNat 0 = 0 then .error 4 else .ok (v.getD x.a.toNat 0 / v.getD x.b.toNat 0))
  else if 0 < fs.length then .ok (fs.getD 0 0) else .error 6
/-- one step of the whole -/
def exSt (ins forms : List Rat) (l : List PI) (i : Nat) (x : PI) (v : List Rat) : Except Int Rat := big (raw ins (forms.drop (countTo isF l i)) x v)
section
variable {ins fs v : List Rat} {a b : Int} {q : Bool × List Int × List Int}
theorem raw_in (h : a.toNat < ins.length) : raw ins fs ⟨1, a, b, q⟩ v = .ok (ins.getD a.toNat 0) := by unfold raw; rw [if_pos rfl, if_pos h]
theorem raw_in_no (h : ¬ a.toNat < ins.length) : raw ins fs ⟨1, a, b, q⟩ v = .error 11 := by unfold raw; rw [if_pos rfl, if_neg h]
theorem raw_const : raw ins fs ⟨2, a, b, q⟩ v = .ok (qval q) := rfl
theorem raw_neg : raw ins fs ⟨3, a, b, q⟩ v = .ok (-(v.getD a.toNat 0)) := rfl
theorem raw_add : raw ins fs ⟨4, a, b, q⟩ v = .ok (v.getD a.toNat 0 + v.getD b.toNat 0) := rfl
theorem raw_sub : raw ins fs ⟨5, a, b, q⟩ v = .ok (v.getD a.toNat 0 - v.getD b.toNat 0) := rfl
theorem raw_mul : raw ins fs ⟨6, a, b, q⟩ v = .ok (v.getD a.toNat 0 * v.getD b.toNat 0) := rfl
theorem raw_div (h : ¬ v.getD b.toNat 0 = 0) : raw ins fs ⟨7, a, b, q⟩ v = .ok (v.getD a.toNat 0 / v.getD b.toNat 0) := by
  show (if v.getD b.toNat 0 = 0 then _ else _) = _; rw [if_neg h]
theorem raw_div_no (h : v.getD b.toNat 0 = 0) : raw ins fs ⟨7, a, b, q⟩ v = .error 4 := by
  show (if v.getD b.toNat 0 = 0 then _ else _) = _; rw [if_pos h]
theorem raw_form {op : Int} (hf : isForm op = true) (h : 0 < fs.length) : raw ins fs ⟨op, a, b, q⟩ v = .ok (fs.getD 0 0) := by
  unfold isForm at hf
  simp at hf
  unfold raw
  simp only
  rw [if_neg (by omega), if_neg (by omega), if_neg (by omega), if_neg (by omega), if_neg (by omega), if_neg (by omega), if_neg (by omega), if_pos h]
theorem raw_form_no {op : Int} (hf : isForm op = true) (h : ¬ 0 < fs.length) : raw ins fs ⟨op, a, b, q⟩ v = .error 6 := by
  unfold isForm at hf
  simp at hf
  unfold raw
  simp only
  rw [if_neg (by omega), if_neg (by omega), if_neg (by omega), if_neg (by omega), if_neg (by omega), if_neg (by omega), if_neg (by omega), if_neg h]
end
/-- all of these numbers are below W^N -/
def AllSz (N : Nat) (v : List Rat) : Prop := ∀ X ∈ v, Sz X N
theorem AllSz.at_ {N : Nat} {v : List Rat} (h : AllSz N v) {i : Nat} (hi : i < v.length) : Sz (v.getD i 0) N := by
  rw [List.getD_eq_getElem?_getD, List.getElem?_eq_getElem hi]; exact h _ (List.getElem_mem hi)
theorem AllSz.snoc {N : Nat} {v : List Rat} {X : Rat} (h : AllSz N v) (hX : Sz X N) : AllSz N (v ++ [X]) := by
  intro Y hY
  rcases List.mem_append.1 hY with hY | hY
  · exact h Y hY
  · rw [List.mem_singleton.1 hY]; exact hX
/-- forms that are used up -/
theorem forms_next {l : List PI} {i : Nat} {forms : List Rat} (h : isF (l.getD i PI.nil) = true) : forms.drop (countTo isF l (i + 1)) = (forms.drop (countTo isF l i)).drop 1 := by
  rw [count_yes h, List.drop_drop]
theorem forms_same {l : List PI} {i : Nat} {forms : List Rat} (h : isF (l.getD i PI.nil) = false) : forms.drop (countTo isF l (i + 1)) = forms.drop (countTo isF l i) := by
  rw [count_no h]
/-- without forms a step looks at its operands alone -/
theorem exSt_local (ins : List Rat) (l l' : List PI) : ∀ i j x y v u, x.op = y.op → x.q = y.q → (arity x.op ≤ 0 → x.a = y.a) → (0 < arity x.op → v.getD x.a.toNat (0 : Rat) = u.getD y.a.toNat 0) → (1 < arity x.op → v.getD x.b.toNat (0 : Rat) = u.getD y.b.toNat 0) → exSt ins [] l i x v = exSt ins [] l' j y u := by
  intro i j x y v u h1 h2 h3 h4 h5
  unfold exSt
  rw [List.drop_nil, List.drop_nil]
  congr 1
  obtain ⟨op, a, b, q⟩ := x
  obtain ⟨op', a', b', q'⟩ := y
  simp only at h1 h2 h3 h4 h5
  subst h1 h2
  rcases Int.lt_or_le 0 (arity op) with hp | hp
  · have ha := h4 hp
    have hn1 : ¬ op = 1 := fun e => by rw [e] at hp; exact absurd hp (by decide)
    have hn2 : ¬ op = 2 := fun e => by rw [e] at hp; exact absurd hp (by decide)
    unfold raw
    simp only
    rw [if_neg hn1, if_neg hn1, if_neg hn2, if_neg hn2, ha]
    by_cases h6 : 1 < arity op
    · rw [h5 h6]
    · have e4 : ¬ op = 4 := fun e => h6 (by rw [e]; decide)
      have e5 : ¬ op = 5 := fun e => h6 (by rw [e]; decide)
      have e6 : ¬ op = 6 := fun e => h6 (by rw [e]; decide)
      have e7 : ¬ op = 7 := fun e => h6 (by rw [e]; decide)
      simp only [e4, e5, e6, e7, if_false]
  · have ha := h3 hp
    subst ha
    unfold raw
    simp only
    by_cases e1 : op = 1
    · rw [if_pos e1, if_pos e1]
    · by_cases e2 : op = 2
      · rw [if_neg e1, if_neg e1, if_pos e2, if_pos e2]
      · have : arity op = -1 := by
          rcases ar_op e2 e1 with h | h | h
          · omega
          · omega
          · exact h
        have hno : ¬ op = 3 ∧ ¬ op = 4 ∧ ¬ op = 5 ∧ ¬ op = 6 ∧ ¬ op = 7 := by
          refine ⟨?_, ?_, ?_, ?_, ?_⟩ <;> (intro e; rw [e] at this; revert this; decide)
        obtain ⟨n3, n4, n5, n6, n7⟩ := hno
        simp only [e1, e2, n3, n4, n5, n6, n7, if_false]

end Go.Proofs.YtibgpeaplmcogaaGreatDoor

namespace Go.Proofs.YtibgpeaplmcogaaGreatDoor
set_option maxRecDepth 100000
open Go.RowKit
set_option linter.unusedVariables false
set_option linter.unusedSimpArgs false

/-- an exact number as it lies reads as X -/
def RQ.is (w : World) (x : RQ) (X : Rat) : Prop := Q w x.s x.A x.n x.c x.A' x.n' x.c' X
def allR (xs : List RQ) : Bool := xs.all fun x => rightB x.s x.z x.z'
/-- a slice of exact numbers that read as Xs -/
def SlQ (w : World) (A : Option Addr) (n c : Nat) (Xs : List Rat) : Prop := ∃ xs : List RQ, SlR w A n c xs ∧ xs.length = Xs.length ∧ ∀ (j : Nat) (x : RQ), xs[j]? = some x → x.is w (Xs.getD j 0)
theorem SlQ.below {w w' : World} {A : Option Addr} {n c : Nat} {Xs : List Rat} (h : SlQ w A n c Xs) (hb : Below w.heap.size w w') : SlQ w' A n c Xs := by
  obtain ⟨xs, h1, h2, h3⟩ := h
  exact ⟨xs, h1.below hb, h2, fun j x hx => (h3 j x hx).below hb⟩
theorem SlQ.len {w : World} {A : Option Addr} {n c : Nat} {Xs : List Rat} (h : SlQ w A n c Xs) : n = Xs.length := by
  obtain ⟨xs, h1, h2, _⟩ := h
  rw [← h2]; exact h1.1.1.symm
theorem SlQ.at_ {w : World} {A : Option Addr} {n c : Nat} {Xs : List Rat} (h : SlQ w A n c Xs) {j : Nat} (hj : j < n) : ∃ b off s A1 n1 c1 A2 n2 c2, A = some ⟨b, off, none⟩ ∧ b < w.heap.size ∧
    w.cell? ⟨b, off + j * 3, none⟩ = some (.bool s) ∧ w.cell? ⟨b, off + j * 3 + 1, none⟩ = some (.slice A1 n1 c1) ∧ w.cell? ⟨b, off + j * 3 + 2, none⟩ = some (.slice A2 n2 c2) ∧ Q w s A1 n1 c1 A2 n2 c2 (Xs.getD j 0) := by
  obtain ⟨xs, h1, h2, h3⟩ := h
  obtain ⟨b, off, x, e, hlt, hx, hok, c0, c1, c2⟩ := h1.at_ hj
  exact ⟨b, off, x.s, x.A, x.n, x.c, x.A', x.n', x.c', e, hlt, c0, c1, c2, h3 j x hx⟩
theorem SlQ.nil (w : World) : SlQ w none 0 0 [] := ⟨[], ⟨⟨rfl, Nat.le_refl _, by unfold maxLen; omega, by simp⟩, fun h0 => absurd h0 (by omega)⟩, rfl, fun j x hx => by simp at hx⟩
/-- a row of exact numbers that the call made -/
def OwnQ (B : Nat) (w : World) (v : Value) (Xs : List Rat) : Prop := ∃ xs : List RQ, OwnC 3 RQ.cells 25 B w v xs ∧ xs.length = Xs.length ∧ ∀ (j : Nat) (x : RQ), xs[j]? = some x → x.ok w ∧ x.is w (Xs.getD j 0)
theorem OwnQ.slq {B : Nat} {w : World} {A : Option Addr} {n c : Nat} {Xs : List Rat} (h : OwnQ B w (.slice A n c) Xs) : SlQ w A n c Xs := by
  obtain ⟨xs, h1, h2, h3⟩ := h
  refine ⟨xs, h1.slc (fun x hx => ?_), h2, fun j x hx => (h3 j x hx).2⟩
  obtain ⟨j, hj⟩ := List.mem_iff_getElem?.1 hx
  exact (h3 j x hj).1
theorem OwnQ.form {B : Nat} {w : World} {v : Value} {Xs : List Rat} (h : OwnQ B w v Xs) : ∃ A c, v = .slice A Xs.length c := by
  obtain ⟨xs, h1, h2, _⟩ := h
  obtain ⟨A, c, e, _⟩ := h1.form
  exact ⟨A, c, by rw [e, h2]⟩
theorem OwnQ.below {B : Nat} {w w' : World} {v : Value} {Xs : List Rat} (h : OwnQ B w v Xs) (hb : Below w.heap.size w w') : OwnQ B w' v Xs := by
  obtain ⟨xs, h1, h2, h3⟩ := h
  exact ⟨xs, h1.below hb, h2, fun j x hx => ⟨RQ.below (h3 j x hx).1 hb, (h3 j x hx).2.below hb⟩⟩
theorem Q.grownC {w w1 : World} {r : Option Nat} {s : Bool} {A A' : Option Addr} {n c n' c' : Nat} {X : Rat} (h : Q w s A n c A' n' c' X) (hg : w.grownBy w1 r) (hr : ∀ g, r = some g → NoWAt w g) : Q w1 s A n c A' n' c' X := ⟨h.1, h.2.1.grownC hg hr, h.2.2.grownC hg hr⟩
theorem NoW_bool (b : Bool) : NoW (.bool b) := fun x h => by cases h
theorem NoW_slice (A : Option Addr) (n c : Nat) : NoW (.slice A n c) := fun x h => by cases h
theorem NoW_i64 (z : Int) : NoW (.int .i64 z) := fun x h => by injection h with h; cases h
theorem rq_noW (x : RQ) : ∀ u ∈ x.cells, NoW u := by
  intro u hu
  unfold RQ.cells at hu
  simp only [List.mem_cons, List.not_mem_nil, or_false] at hu
  rcases hu with rfl | rfl | rfl
  · exact NoW_bool _
  · exact NoW_slice _ _ _
  · exact NoW_slice _ _ _
theorem ri_noW (x : RI) : ∀ u ∈ x.cells, NoW u := by
  intro u hu
  unfold RI.cells at hu
  simp only [List.mem_cons, List.not_mem_nil, or_false] at hu
  rcases hu with rfl | rfl | rfl | rfl | rfl | rfl
  · exact NoW_i64 _
  · exact NoW_i64 _
  · exact NoW_i64 _
  · exact NoW_bool _
  · exact NoW_slice _ _ _
  · exact NoW_slice _ _ _
theorem rq_one (x : RQ) : ∀ u ∈ x.cells, u.oneCell' = true := by
  intro u hu
  unfold RQ.cells at hu
  simp only [List.mem_cons, List.not_mem_nil, or_false] at hu
  rcases hu with rfl | rfl | rfl <;> rfl
theorem ri_one (x : RI) : ∀ u ∈ x.cells, u.oneCell' = true := by
  intro u hu
  unfold RI.cells at hu
  simp only [List.mem_cons, List.not_mem_nil, or_false] at hu
  rcases hu with rfl | rfl | rfl | rfl | rfl | rfl <;> rfl
theorem infoQ : (Tryz.prog.info? 25).map (fun i => (i.zero, i.size, i.bytes)) = some (some (.agg #[.bool false, .slice none 0 0, .slice none 0 0]), 3, 56) := by kernel_rfl
theorem zeroQ : ∀ u ∈ (Value.agg #[.bool false, .slice none 0 0, .slice none 0 0]).cells.toList, NoW u := by
  intro u hu
  have e : (Value.agg #[.bool false, .slice none 0 0, .slice none 0 0]).cells.toList = [.bool false, .slice none 0 0, .slice none 0 0] := rfl
  rw [e] at hu
  simp only [List.mem_cons, List.not_mem_nil, or_false] at hu
  rcases hu with rfl | rfl | rfl
  · exact NoW_bool _
  · exact NoW_slice _ _ _
  · exact NoW_slice _ _ _
/-- append of an exact number -/
theorem OwnQ.append {B : Nat} {w w' : World} {v v' : Value} {Xs : List Rat} {xs : List RQ} {x : RQ} {X : Rat} {o : Obj} (h1 : OwnC 3 RQ.cells 25 B w v xs) (h2 : xs.length = Xs.length) (h3 : ∀ (j : Nat) (x : RQ), xs[j]? = some x → x.ok w ∧ x.is w (Xs.getD j 0))
    (hx : x.ok w) (hX : x.is w X) (ho : OwnC 3 RQ.cells 25 B w' v' (xs ++ [x])) (hg : (w.alloc o).grownBy w' v.ownBlock) : OwnQ B w' v' (Xs ++ [X]) := by
  have ba := below_alloc w o
  have hn := (h1.below ba).noW
  refine ⟨xs ++ [x], ho, by simp [h2], fun j y hy => ?_⟩
  rcases Nat.lt_or_ge j xs.length with hj | hj
  · rw [List.getElem?_append_left hj] at hy
    obtain ⟨g1, g2⟩ := h3 j y hy
    rw [getD_app_left Xs [X] (by omega)]
    exact ⟨RQ.grownC (RQ.below g1 ba) hg hn, Q.grownC (g2.below ba) hg hn⟩
  · have hj2 : j = xs.length := by
      rw [List.getElem?_append_right hj] at hy
      rcases Nat.eq_zero_or_pos (j - xs.length) with h0 | h0
      · omega
      · rw [List.getElem?_eq_none (by simp; omega)] at hy; cases hy
    subst hj2
    rw [List.getElem?_append_right (Nat.le_refl _), Nat.sub_self] at hy
    have e : x = y := by simpa using hy
    subst e
    rw [getD_app_end Xs X h2.symm]
    exact ⟨RQ.grownC (RQ.below hx ba) hg hn, Q.grownC (hX.below ba) hg hn⟩
/-- make([]T, 0, n) -/
theorem make_C {V : Type} {k : Nat} {cells : V → List Value} (t e : TypeId) (z : Value) (bytes : Nat) (ht : Tryz.prog.underlying t = some (.slice e)) (hi : (Tryz.prog.info? e).map (fun i => (i.zero, i.size, i.bytes)) = some (some z, k, bytes)) (hzw : ∀ u ∈ z.cells.toList, NoW u) (hzs : z.cells.size = k) (hk : 0 < k)
    (w : World) (n : Nat) (hn : n ≤ 1000000) (hby : bytes ≤ 1000) : ∃ w1, (Instr.makeSlice t (.int .i64 0) (.int .i64 (n : Int))).run Tryz.prog w = .ok (.slice (some ⟨w.heap.size, 0, none⟩) 0 n) w1 ∧ OwnC k cells e w.heap.size w1 (.slice (some ⟨w.heap.size, 0, none⟩) 0 n) [] ∧ Below w.heap.size w w1 := by
  obtain ⟨i, h1, h2, h3, h4⟩ := info_parts hi
  have hb : (i.bytes : Int) * (n : Int) ≤ 281474976710656 := by
    have : bytes * n ≤ 1000 * 1000000 := Nat.mul_le_mul hby hn
    rw [h4]
    have e2 : ((bytes * n : Nat) : Int) ≤ 1000 * 1000000 := by omega
    rw [Int.natCast_mul] at e2
    omega
  have hr := run_make (P := Tryz.prog) w t e i z ht h1 h2 .i64 .i64 0 n (by omega) (by omega) hb (by omega)
  simp only [Int.toNat_natCast, Int.toNat_zero, h3] at hr
  refine ⟨_, hr, ⟨by simp, .inr ⟨w.heap.size, n, _, rfl, Nat.le_refl _, heap_alloc_new w _, Nat.zero_le _, by unfold maxLen; omega, size_madeCells _ _, by simp, ?_⟩⟩, below_alloc _ _⟩
  intro u hu
  unfold madeCells at hu
  simp only [Array.toList_map, List.mem_map] at hu
  obtain ⟨i, _, rfl⟩ := hu
  have hlt := Nat.mod_lt i (show 0 < z.cells.size by omega)
  rw [getElem!_pos z.cells (i % z.cells.size) hlt]
  exact hzw _ (by simp)
/-- append of nothing onto nothing -/
theorem run_append_zero (w : World) (t ty e : TypeId) (i : TypeInfo) (ht : Tryz.prog.underlying t = some (.slice e)) (hi : Tryz.prog.info? e = some i) (A : Option Addr) (c : Nat) :
    (Builtin.append_ #[t, t] ty #[.slice none 0 0, .slice A 0 c]).run Tryz.prog w = .ok (.slice none 0 0) w := by
  cases A <;> simp [Builtin.append_, run_underlying ht, sizeOf, typeInfo, hi, Builtin.lenOf, Builtin.firstCells, loadCells, loadCellsFrom]
theorem wpList_append_zero (w : World) {ops : Array Oper} {rest : List Oper} {o : Oper} {a : Act} {Q : Exit → Act → World → Prop} (hgd : o.guard = none) (s x : Operand) (t : TypeId)
    (ho : o.op = .call { callee := .builtin .append, args := #[s, x], argTypes := #[t, t] }) (e : TypeId) (i : TypeInfo) (ht : Tryz.prog.underlying t = some (.slice e)) (hi : Tryz.prog.info? e = some i)
    (A : Option Addr) (c : Nat) (hs : a.eval s = .slice none 0 0) (hx : a.eval x = .slice A 0 c)
    (h : wpList Tryz.prog ops Q rest (a.put o.dst (.slice none 0 0)) w) : wpList Tryz.prog ops Q (o :: rest) a w := by
  refine wpList_plain hgd fun K hK => ?_
  unfold Oper.wp execOp
  simp only [ho, resolve, invoke, builtin, Sem.run_bind, Sem.run_pure, Result.andThen_ok, List.map_toArray, List.map_cons, List.map_nil, hs, hx, run_append_zero w t o.type e i ht hi A c]
  exact hK _ _ h

theorem ev_copied {w : World} {A : Option Addr} {n c : Nat} {xs : List Int} (h : Sl w A n c xs) (hn : n ≤ 1000000) :
    Calls Tryz.prog 134 #[.slice A n c] w (RetSl xs w) := by
  obtain ⟨i0, hi, hz0, hz1, hz2⟩ := info_parts infoW
  have hlen := h.len
  by_cases h0 : n = 0
  · subst h0
    obtain rfl : xs = [] := List.eq_nil_of_length_eq_zero hlen.symm
    clear hlen h hn
    go_enter Tryz.func134, Tryz.ntmps134
    go_wp2_with (at_builtin; refine wpList_append_zero _ rfl _ _ 23 rfl 76 i0 Tryz.underlying23 hi A c rfl rfl ?_)
    go_ret
    exact ⟨none, 0, 0, rfl, Sl.nil _ _ _, Below.refl _ _⟩
  · obtain ⟨b, off, rfl, hlt, hc⟩ := h.2 (by omega)
    have hu := h.us
    have hnews : ∀ (j : Nat) (u : Value), (vs xs)[j]? = some u → w.cell? ((⟨b, off, none⟩ : Addr).add j) = some u := by
      intro j u hj
      have hjl : j < xs.length := by
        rcases Nat.lt_or_ge j xs.length with h9 | h9
        · exact h9
        · rw [List.getElem?_eq_none (by rw [vs_length]; omega)] at hj; cases hj
      have e1 : (⟨b, off, none⟩ : Addr).add j = ⟨b, off + j, none⟩ := by
        unfold Addr.add; split
        · rename_i h9; rw [h9, Nat.add_zero]
        · rfl
      rw [e1, hc j (by omega)]
      unfold vs at hj
      rw [List.getElem?_map, List.getElem?_eq_getElem hjl] at hj
      rw [List.getD_eq_getElem?_getD, List.getElem?_eq_getElem hjl]
      exact hj
    have HN := Lib.hid hnews
    clear hnews hc
    go_enter Tryz.func134, Tryz.ntmps134
    go_wp2_with (at_builtin; refine wpList_append_own _ rfl _ _ 23 rfl w.heap.size 76 i0 (.int .u64 0) 1 8 Tryz.underlying23 hi hz0 hz1 hz2 rfl (by decide) _ _ _ rfl (World.ownsRow_nil _ _ _ _) ⟨b, off, none⟩ n c (vs xs) rfl ?c0 ?c1 ?c2 ?c3 ?c4 ?c5 ?_)
    case c0 => rw [vs_length]; omega
    case c1 => exact HN.out
    case c2 => intro u hu; unfold vs at hu; obtain ⟨z, _, rfl⟩ := List.mem_map.1 hu; rfl
    case c3 => unfold maxLen; omega
    case c4 => omega
    case c5 => exact Nat.le_refl _
    intro v' w1 hown hgrow _
    have hown2 : Own 76 w.heap.size w1 v' xs := hown
    have hb1 : Below w.heap.size w w1 := (Below.refl _ w).grown hgrow (Nat.le_refl _) (fun k e => by cases e)
    have HO := Lib.hid hown2
    clear hown hown2 hgrow
    go_wp2_with fail
    go_ret
    exact retSl_own HO.out hu hb1

theorem line_copied {w : World} {A : Option Addr} {n c : Nat} {xs : List Int} (h : Sl w A n c xs) (hn : n ≤ 1000000) :
    Calls Tryz.prog 78 #[.slice A n c] w (RetSl xs w) := by
  obtain ⟨i0, hi, hz0, hz1, hz2⟩ := info_parts infoW
  have hlen := h.len
  by_cases h0 : n = 0
  · subst h0
    obtain rfl : xs = [] := List.eq_nil_of_length_eq_zero hlen.symm
    clear hlen h hn
    go_enter Tryz.func78, Tryz.ntmps78
    go_wp2_with (at_builtin; refine wpList_append_zero _ rfl _ _ 23 rfl 76 i0 Tryz.underlying23 hi A c rfl rfl ?_)
    go_ret
    exact ⟨none, 0, 0, rfl, Sl.nil _ _ _, Below.refl _ _⟩
  · obtain ⟨b, off, rfl, hlt, hc⟩ := h.2 (by omega)
    have hu := h.us
    have hnews : ∀ (j : Nat) (u : Value), (vs xs)[j]? = some u → w.cell? ((⟨b, off, none⟩ : Addr).add j) = some u := by
      intro j u hj
      have hjl : j < xs.length := by
        rcases Nat.lt_or_ge j xs.length with h9 | h9
        · exact h9
        · rw [List.getElem?_eq_none (by rw [vs_length]; omega)] at hj; cases hj
      have e1 : (⟨b, off, none⟩ : Addr).add j = ⟨b, off + j, none⟩ := by
        unfold Addr.add; split
        · rename_i h9; rw [h9, Nat.add_zero]
        · rfl
      rw [e1, hc j (by omega)]
      unfold vs at hj
      rw [List.getElem?_map, List.getElem?_eq_getElem hjl] at hj
      rw [List.getD_eq_getElem?_getD, List.getElem?_eq_getElem hjl]
      exact hj
    have HN := Lib.hid hnews
    clear hnews hc
    go_enter Tryz.func78, Tryz.ntmps78
    go_wp2_with (at_builtin; refine wpList_append_own _ rfl _ _ 23 rfl w.heap.size 76 i0 (.int .u64 0) 1 8 Tryz.underlying23 hi hz0 hz1 hz2 rfl (by decide) _ _ _ rfl (World.ownsRow_nil _ _ _ _) ⟨b, off, none⟩ n c (vs xs) rfl ?c0 ?c1 ?c2 ?c3 ?c4 ?c5 ?_)
    case c0 => rw [vs_length]; omega
    case c1 => exact HN.out
    case c2 => intro u hu; unfold vs at hu; obtain ⟨z, _, rfl⟩ := List.mem_map.1 hu; rfl
    case c3 => unfold maxLen; omega
    case c4 => omega
    case c5 => exact Nat.le_refl _
    intro v' w1 hown hgrow _
    have hown2 : Own 76 w.heap.size w1 v' xs := hown
    have hb1 : Below w.heap.size w w1 := (Below.refl _ w).grown hgrow (Nat.le_refl _) (fun k e => by cases e)
    have HO := Lib.hid hown2
    clear hown hown2 hgrow
    go_wp2_with fail
    go_ret
    exact retSl_own HO.out hu hb1

set_option maxRecDepth 100000 in
set_option maxHeartbeats 4000000 in
theorem ev_clone {w : World} {s : Bool} {A A' : Option Addr} {n n' c c' N : Nat} {X : Rat} (h : Q w s A n c A' n' c' X) (hX : Sz X N) (hN : N ≤ 1000) :
    Calls Tryz.prog 80 #[.agg #[.bool s, .slice A n c, .slice A' n' c']] w (RetQ X w) := by
  obtain ⟨V, hW, Ba, Br, hb0⟩ := boxes1 25 w #[.bool s, .slice A n c, .slice A' n' c'] #[.bool false, .slice none 0 0, .slice none 0 0]
  have l1 : n ≤ N := h.2.1.small hX.1
  have l2 : n' ≤ N := h.2.2.small hX.2
  have C1 := fun w1 (hb : Below V.heap.size V w1) => ev_copied (h.2.1.below (bb hb0 hb)) (by omega)
  have C2 := fun w1 (hb : Below V.heap.size V w1) => ev_copied (h.2.2.below (bb hb0 hb)) (by omega)
  have hs := h.1
  have hS : ∀ w', Below V.heap.size V w' → w'.cell? ⟨w.heap.size, 0, none⟩ = some (.bool s) ∧ w'.cell? ⟨w.heap.size, 1, none⟩ = some (.slice A n c) ∧ w'.cell? ⟨w.heap.size, 2, none⟩ = some (.slice A' n' c') := fun w' hb => (Ba.below' hb).three.1
  have HC1 := Lib.hid C1
  have HC2 := Lib.hid C2
  have HS := Lib.hid hS
  have HBa := Lib.hid Ba
  have HBr := Lib.hid Br
  have HW := Lib.hid hW
  have HQ := Lib.hid hs
  clear C1 C2 hS Ba Br hW h hX hs
  go_enter Tryz.func80, Tryz.ntmps80
  go_wp2_with fail
  rw [HW.out]
  obtain ⟨k0, k1, k2⟩ := HS.out _ (Below.refl _ V)
  go_region_held3 (fun w' => w'.cell? ⟨w.heap.size, 0, none⟩ = some (.bool s) ∧ w'.cell? ⟨w.heap.size, 1, none⟩ = some (.slice A n c) ∧ w'.cell? ⟨w.heap.size, 2, none⟩ = some (.slice A' n' c')) (first | exact HS.out _ (Below.refl _ V).drew | exact HS4.out | exact HS.out _ x2 | exact HS.out _ x1 | fail)
    (first
      | (go_at_call 134; (with_reducible refine (HC1.out _ ?hb1).mono ?_); (case hb1 => exact (Below.refl _ V).drew); rintro _ w1 ⟨A1, n1, c1, rfl, t1, b1⟩; have x1 : Below V.heap.size V w1 := Below.undrew b1)
      | (go_at_call 134; (with_reducible refine (HC2.out _ x1).mono ?_); rintro _ w2 ⟨A2, n2, c2, rfl, t2, b2⟩; have x2 : Below V.heap.size V w2 := bb x1 b2; have HS4 := Lib.hid ((HBa.out.below' x2).put3 (show w.heap.size ≠ w.heap.size + 1 by omega) (.bool s) (.slice A1 n1 c1) (.slice A2 n2 c2)).three.1; have B9 := HBr.out.below' x2; obtain ⟨⟨r0, r1, r2⟩, f0, f1, f2⟩ := B9.three))
  all_goals
    go_wp2_with fail
    refine bodyPost_ret (v := .agg #[.bool s, .slice A1 n1 c1, .slice A2 n2 c2]) (by simp [results, Tryz.results80, go_sem, r0, r1, r2]) rfl ?_
    have q3 : Q w2 s A1 n1 c1 A2 n2 c2 X := ⟨HQ.out, t1.below b2, t2⟩
    exact ⟨_, _, _, _, _, _, _, rfl, q3.put3 ⟨_, _, _, _, _, _, _, B9⟩, below_put3 (bb hb0 x2) (by omega) (Nat.le_refl _) _ _ _⟩

set_option maxHeartbeats 2000000 in
theorem ev_allRight {w : World} {A : Option Addr} {n c N : Nat} {xs : List RQ} (h : SlR w A n c xs) (hs : ∀ x ∈ xs, x.n ≤ N ∧ x.n' ≤ N) (hN : N ≤ 1000) (hn : n ≤ 65536) :
    Calls Tryz.prog 57 #[.slice A n c] w (RetBl (allR xs) w) := by
  have hlen : xs.length = n := h.1.1
  go_enter Tryz.func57, Tryz.ntmps57
  go_wp2_with fail
  go_loopw [7] (fun iv wr => ∃ k : Nat, k ≤ n ∧ iv = .int .i64 k ∧ Below w.heap.size w wr ∧ Hid (∀ i x, i < k → xs[i]? = some x → rightB x.s x.z x.z' = true)) (fun iv _ => n - mes iv)
  case atStart => exact ⟨0, by omega, rfl, Below.refl _ _, Lib.hid (fun i x hi => absurd hi (by omega))⟩
  case round =>
    obtain ⟨k, hk, rfl, hb, HF⟩ := hrel
    by_cases hk2 : k < n
    · obtain ⟨b0, off, x, rfl, hlt, hxk, hok, c0, c1, c2⟩ := (h.below hb).at_ hk2
      obtain ⟨hx1, hx2⟩ := hs x (mem_at hxk)
      have F := fun (w1 : World) (hb1 : Below wr.heap.size wr w1) => rat_right (s := x.s) (hok.1.below hb1) (hok.2.1.below hb1) hx1 hx2 hN
      obtain ⟨r, hr⟩ : ∃ r, rightB x.s x.z x.z' = r := ⟨_, rfl⟩
      simp only [hr] at F
      have HR := Lib.hid hr
      have HX := Lib.hid F
      clear F hok hx1 hx2 hr
      cases r
      case false =>
        have hno : allR xs = false := by
          unfold allR
          rw [Bool.eq_false_iff]
          intro hh
          have := List.all_eq_true.1 hh x (mem_at hxk)
          rw [HR.out] at this
          cases this
        rw [hno]
        clear hno
        go_wp2_with fail
        refine (HX.out _ (below_alloc _ _)).mono ?_
        rintro _ w2 ⟨rfl, b2⟩
        go_wp2_with fail
        go_ret
        exact ⟨rfl, bb (hb.alloc hb.size _) b2⟩
      case true =>
        go_wp2_with fail
        refine (HX.out _ (below_alloc _ _)).mono ?_
        rintro _ w2 ⟨rfl, b2⟩
        go_wp2_with fail
        go_roundw
        case rel => exact ⟨k + 1, by omega, by go_num, bb (hb.alloc hb.size _) b2, Lib.hid (fun i y hi hy => by
          rcases Nat.lt_or_eq_of_le (Nat.le_of_lt_succ hi) with h9 | h9
          · exact HF.out i y h9 hy
          · rw [h9, hxk] at hy; cases hy; exact HR.out)⟩
        case measure => simp [mes, intOf]; omega
    · obtain rfl : k = n := by omega
      have hyes : allR xs = true := List.all_eq_true.2 fun x hx => by
        obtain ⟨j, hj⟩ := List.mem_iff_getElem?.1 hx
        have hj2 : j < xs.length := by
          rcases Nat.lt_or_ge j xs.length with h9 | h9
          · exact h9
          · rw [List.getElem?_eq_none h9] at hj; cases hj
        exact HF.out j x (by omega) hj
      go_wp2_with fail
      go_ret
      exact ⟨by rw [hyes]; rfl, hb⟩

set_option maxHeartbeats 2000000 in
theorem ref_rats {w : World} {A : Option Addr} {n c N : Nat} {xs : List RQ} (h : SlR w A n c xs) (hs : ∀ x ∈ xs, x.n ≤ N ∧ x.n' ≤ N) (hN : N ≤ 1000) (hn : n ≤ 65536) :
    Calls Tryz.prog 41 #[.slice A n c] w (RetBl (allR xs) w) := by
  have hlen : xs.length = n := h.1.1
  go_enter Tryz.func41, Tryz.ntmps41
  go_wp2_with fail
  go_loopw [6] (fun iv wr => ∃ k : Nat, k ≤ n ∧ iv = .int .i64 k ∧ Below w.heap.size w wr ∧ Hid (∀ i x, i < k → xs[i]? = some x → rightB x.s x.z x.z' = true)) (fun iv _ => n - mes iv)
  case atStart => exact ⟨0, by omega, rfl, Below.refl _ _, Lib.hid (fun i x hi => absurd hi (by omega))⟩
  case round =>
    obtain ⟨k, hk, rfl, hb, HF⟩ := hrel
    by_cases hk2 : k < n
    · obtain ⟨b0, off, x, rfl, hlt, hxk, hok, c0, c1, c2⟩ := (h.below hb).at_ hk2
      obtain ⟨hx1, hx2⟩ := hs x (mem_at hxk)
      have F := fun (w1 : World) (hb1 : Below wr.heap.size wr w1) => ref_ratRight (s := x.s) (hok.1.below hb1) (hok.2.1.below hb1) hx1 hx2 hN
      obtain ⟨r, hr⟩ : ∃ r, rightB x.s x.z x.z' = r := ⟨_, rfl⟩
      simp only [hr] at F
      have HR := Lib.hid hr
      have HX := Lib.hid F
      clear F hok hx1 hx2 hr
      cases r
      case false =>
        have hno : allR xs = false := by
          unfold allR
          rw [Bool.eq_false_iff]
          intro hh
          have := List.all_eq_true.1 hh x (mem_at hxk)
          rw [HR.out] at this
          cases this
        rw [hno]
        clear hno
        go_wp2_with fail
        refine (HX.out _ (Below.refl _ _)).mono ?_
        rintro _ w2 ⟨rfl, b2⟩
        go_wp2_with fail
        go_ret
        exact ⟨rfl, bb hb b2⟩
      case true =>
        go_wp2_with fail
        refine (HX.out _ (Below.refl _ _)).mono ?_
        rintro _ w2 ⟨rfl, b2⟩
        go_wp2_with fail
        go_roundw
        case rel => exact ⟨k + 1, by omega, by go_num, bb hb b2, Lib.hid (fun i y hi hy => by
          rcases Nat.lt_or_eq_of_le (Nat.le_of_lt_succ hi) with h9 | h9
          · exact HF.out i y h9 hy
          · rw [h9, hxk] at hy; cases hy; exact HR.out)⟩
        case measure => simp [mes, intOf]; omega
    · obtain rfl : k = n := by omega
      have hyes : allR xs = true := List.all_eq_true.2 fun x hx => by
        obtain ⟨j, hj⟩ := List.mem_iff_getElem?.1 hx
        have hj2 : j < xs.length := by
          rcases Nat.lt_or_ge j xs.length with h9 | h9
          · exact h9
          · rw [List.getElem?_eq_none h9] at hj; cases hj
        exact HF.out j x (by omega) hj
      go_wp2_with fail
      go_ret
      exact ⟨by rw [hyes]; rfl, hb⟩

def qvs (xs : List RQ) : List Rat := xs.map fun x => rq x.s (val x.z) (val x.z')
theorem slq_of {w : World} {A : Option Addr} {n c N : Nat} {xs : List RQ} (h : SlR w A n c xs) (hs : ∀ x ∈ xs, x.n ≤ N ∧ x.n' ≤ N) (ha : allR xs = true) : SlQ w A n c (qvs xs) ∧ AllSz N (qvs xs) := by
  have each : ∀ x ∈ xs, x.is w (rq x.s (val x.z) (val x.z')) ∧ Sz (rq x.s (val x.z) (val x.z')) N := by
    intro x hx
    obtain ⟨hok, _⟩ := h.1.2.2.2 x hx
    obtain ⟨X, h1, h2, h3⟩ := right_Q hok.1 hok.2.1 (hs x hx).1 (hs x hx).2 (List.all_eq_true.1 ha x hx)
    rw [← h3]
    exact ⟨h1, h2⟩
  refine ⟨⟨xs, h, by unfold qvs; simp, fun j x hx => ?_⟩, fun X hX => ?_⟩
  · have e : (qvs xs).getD j 0 = rq x.s (val x.z) (val x.z') := by
      unfold qvs
      rw [List.getD_eq_getElem?_getD, List.getElem?_map, hx]; rfl
    rw [e]
    exact (each x (mem_at hx)).1
  · unfold qvs at hX
    obtain ⟨x, hx, rfl⟩ := List.mem_map.1 hX
    exact (each x hx).2
theorem ev_element {w : World} {A : Option Addr} {n c N : Nat} {Xs : List Rat} (h : SlQ w A n c Xs) (hz : AllSz N Xs) (hN : N ≤ 1000) {i : Nat} (hi : i < n) (e : Int) (hn : n ≤ 65536) :
    Calls Tryz.prog 79 #[.slice A n c, .int .i64 (i : Int), .int .i64 e] w (RetQE (Xs.getD i 0) 0 w) := by
  obtain ⟨V, hW, Ba, hb0⟩ := box0 25 w #[.bool false, .slice none 0 0, .slice none 0 0]
  obtain ⟨b, off, s, A1, n1, c1, A2, n2, c2, rfl, hlt, k0, k1, k2, q⟩ := h.at_ hi
  have hlen := h.len
  have C := ev_clone (q.below hb0) (hz.at_ (by omega)) hN
  have HC := Lib.hid C
  have HBa := Lib.hid Ba
  have HW := Lib.hid hW
  clear C Ba hW h hz q hlen
  go_enter Tryz.func79, Tryz.ntmps79
  go_wp2_with fail
  rw [HW.out]
  refine HC.out.mono ?_
  rintro _ w1 ⟨s1, A3, n3, c3, A4, n4, c4, rfl, q3, b1⟩
  have B9 := HBa.out.below' b1
  obtain ⟨⟨r0, r1, r2⟩, f0, f1, f2⟩ := B9.three
  go_wp2_with fail
  refine bodyPost_ret (v := .tuple #[.agg #[.bool s1, .slice A3 n3 c3, .slice A4 n4 c4], .int .i64 0]) (by simp [results, Tryz.results79, go_sem, r0, r1, r2]) rfl ?_
  exact ⟨_, _, _, _, _, _, _, rfl, q3.put3 ⟨_, _, _, _, _, _, _, B9⟩, below_put3 (bb hb0 b1) (Nat.le_refl _) (Nat.le_refl _) _ _ _⟩
theorem ev_element_no {w : World} {A : Option Addr} {n c : Nat} {i : Nat} (hi : ¬ i < n) (e : Int) :
    Calls Tryz.prog 79 #[.slice A n c, .int .i64 (i : Int), .int .i64 e] w (RetNo e w) := by
  go_enter Tryz.func79, Tryz.ntmps79
  go_wp2_with fail
  refine bodyPost_ret (v := .tuple #[.agg #[.bool false, .slice none 0 0, .slice none 0 0], .int .i64 e]) (by simp [results, Tryz.results79, go_sem]) rfl ?_
  exact ⟨rfl, below_alloc _ _⟩

end Go.Proofs.YtibgpeaplmcogaaGreatDoor
