/-
  What All of package walk returns. Conditions: the slice reads as a list of ints.
-/
import Derived.Test.YthhmofmncjodfaaWaD
namespace Go.Proofs.Ythhmofmncjodfaa
open Go.RowKit Go.Shelf
set_option linter.unusedVariables false
set_option linter.unusedSimpArgs false
attribute [local go_sem] Oper.semAt_some

/-- the blocks of ints stay -/
def TK (w w' : World) : Prop := w.heap.size ≤ w'.heap.size ∧ ∀ (b : Nat) (cur : Array Value) (fr : Nat × Nat), w.heap[b]? = some (Obj.cells cur 3 fr) → w'.heap[b]? = some (Obj.cells cur 3 fr)
theorem TK.refl (w : World) : TK w w := ⟨Nat.le_refl _, fun _ _ _ h => h⟩
theorem TK.trans {a b c : World} (h : TK a b) (k : TK b c) : TK a c := ⟨Nat.le_trans h.1 k.1, fun b cur fr hb => k.2 b cur fr (h.2 b cur fr hb)⟩
theorem TK.of_below {w w' : World} (h : Below w.heap.size w w') : TK w w' := ⟨h.size, fun b cur fr hb => (h.block b (Array.getElem?_eq_some_iff.1 hb).1).trans hb⟩
theorem TK.grown {w w' : World} {r : Option Nat} (hg : w.grownBy w' r) (hr : ∀ g, r = some g → ∃ o, w.heap[g]? = some o ∧ ∀ (cur : Array Value) (fr : Nat × Nat), o ≠ Obj.cells cur 3 fr) : TK w w' :=
  ⟨hg.size, fun b cur fr hb => (hg.block b (Array.getElem?_eq_some_iff.1 hb).1 (fun e => by
    obtain ⟨o, ho, hne⟩ := hr b e.symm
    rw [hb] at ho
    injection ho with ho
    exact hne cur fr ho.symm)).trans hb⟩
theorem TK.setBox {t : TypeId} {w : World} {g : Nat} {vs : Array Value} (hb : Box t w g vs) (hne : t ≠ 3) (i : Nat) (v : Value) : TK w (w.setCell ⟨g, i, none⟩ v) := by
  have hk := (Keep.refl g w).setCell i v
  refine ⟨hk.size, fun b cur fr h => (hk.block b (Array.getElem?_eq_some_iff.1 h).1 (fun e => ?_)).trans h⟩
  subst e
  unfold Box at hb
  rw [hb] at h
  injection h with h
  injection h with _ h2
  exact hne h2
theorem ZS.tk {w w' : World} {x : ZS} (h : x.ok w) (k : TK w w') : x.ok w' := by
  have ht : ∀ h0 : 0 < x.n, ∃ b off, x.A = some ⟨b, off, none⟩ ∧ w'.heap[b]? = w.heap[b]? := fun h0 => by
    obtain ⟨b', off', cur, fr, e', hh⟩ := h.2 h0
    exact ⟨b', off', e', (k.2 _ _ _ hh).trans hh.symm⟩
  refine ⟨⟨h.1.1, fun h0 => ?_⟩, fun h0 => ?_⟩
  · obtain ⟨b, off, e, hlt, hc⟩ := h.1.2 h0
    obtain ⟨b', off', e', hh⟩ := ht h0
    rw [e] at e'
    injection e' with e'
    injection e' with e1 e2
    subst e1
    refine ⟨b, off, e, Nat.lt_of_lt_of_le hlt k.1, fun j hj i hi => ?_⟩
    have e1 : w'.cell? ⟨b, off + j * 1 + i, none⟩ = w.cell? ⟨b, off + j * 1 + i, none⟩ := World.cell?_of_block (a := ⟨b, off + j * 1 + i, none⟩) hh
    rw [e1]
    exact hc j hj i hi
  · obtain ⟨b', off', cur, fr, e', hh⟩ := h.2 h0
    exact ⟨b', off', cur, fr, e', k.2 _ _ _ hh⟩
theorem KC.grown {X : Nat → Prop} {W W' : World} {g : Nat} (hg : W.grownBy W' (some g)) (hX : X g) : KC X W W' :=
  ⟨hg.size, fun b o hx hb _ => (hg.block b (Array.getElem?_eq_some_iff.1 hb).1 (fun e => hx (by injection e with e; rw [e]; exact hX))).trans hb⟩
theorem below_by {w w' : World} (h : Below w.heap.size w w') : w.grownBy w' none := ⟨h.os, h.tape, h.output, h.size, fun k hk _ => h.block k hk⟩

/-- between two rounds -/
def AlI (w w1 W : World) (d : List Int) (sz : Nat) (pre : List ZS) : Prop :=
  Box 45 W w1.heap.size #[.slice (some ⟨w.heap.size, 0, none⟩) pre.length (nE d)] ∧ W.ownsRow w.heap.size 22 1 (.slice (some ⟨w.heap.size, 0, none⟩) pre.length (nE d)) pre.length (pre.flatMap ZS.cells) ∧
  (∀ x ∈ pre, x.ok W) ∧ Below w.heap.size w W ∧ sz ≤ W.heap.size

theorem ownsRow_at {w : World} {B g n cap : Nat} {e : TypeId} {xs : List Value} (h : w.ownsRow B e 1 (.slice (some ⟨g, 0, none⟩) n cap) n xs) : ∃ cur : Array Value, w.heap[g]? = some (.cells cur e (0, 0)) ∧ B ≤ g ∧ n ≤ cap ∧ cap ≤ maxLen ∧ cur.size = cap * 1 ∧ cur.toList.take (n * 1) = xs := by
  obtain ⟨_, h2⟩ := h
  rcases h2 with ⟨h2, _⟩ | ⟨g', cap', cur, e', hB, hh, h3, h4, h5, h6⟩
  · cases h2
  · injection e' with e1 e2 e3
    injection e1 with e1
    injection e1 with e1
    subst e1 e3
    exact ⟨cur, hh, hB, h3, h4, h5, h6⟩
theorem ownsRow_keep {w w' : World} {B g n cap : Nat} {e : TypeId} {xs : List Value} (h : w.ownsRow B e 1 (.slice (some ⟨g, 0, none⟩) n cap) n xs) (hb : w'.heap[g]? = w.heap[g]?) : w'.ownsRow B e 1 (.slice (some ⟨g, 0, none⟩) n cap) n xs := by
  obtain ⟨cur, hh, hB, h3, h4, h5, h6⟩ := ownsRow_at h
  exact ⟨h.1, .inr ⟨g, cap, cur, rfl, hB, hb.trans hh, h3, h4, h5, h6⟩⟩
theorem flat_zs (xs : List ZS) : xs.flatMap ZS.cells = xs.map fun x => Value.slice x.A x.n x.c := by
  induction xs with
  | nil => rfl
  | cons x xs ih => rw [List.flatMap_cons, ih]; rfl
theorem ownsRow_sll {w : World} {B g cap : Nat} {xs : List ZS} (h : w.ownsRow B 22 1 (.slice (some ⟨g, 0, none⟩) xs.length cap) xs.length (xs.flatMap ZS.cells)) (hok : ∀ x ∈ xs, x.ok w) : SlL w (some ⟨g, 0, none⟩) xs.length cap xs := by
  obtain ⟨cur, hh, hB, h3, h4, h5, h6⟩ := ownsRow_at h
  refine ⟨⟨rfl, h3, h4, fun x hx => ⟨hok x hx, rfl⟩⟩, fun h0 => ⟨g, 0, rfl, (Array.getElem?_eq_some_iff.1 hh).1, fun j hj i hi => ?_⟩⟩
  obtain rfl : i = 0 := by omega
  rw [Nat.zero_add, Nat.mul_one, Nat.add_zero, cell_of_row w g j cur _ (0, 0) hh]
  have h7 : (cur.toList.take (xs.length * 1))[j]? = (xs.flatMap ZS.cells)[j]? := by rw [h6]
  rw [List.getElem?_take, if_pos (by omega), flat_zs, List.getElem?_map] at h7
  rw [← Array.getElem?_toList, h7, List.getElem?_eq_getElem hj]
  rfl

set_option maxRecDepth 100000 in
set_option maxHeartbeats 4000000 in
theorem wa_all {w : World} {A : Option Addr} {n c : Nat} {d : List Int} (h : SlZ w A n c d) : Calls Try.prog 32 #[.slice A n c] w (RetL (plcs d) w) := by
  have CN := sh_count h
  have hce : cntZ d = ((nE d : Nat) : Int) := by have := cntZ_range d; unfold nE; omega
  rw [hce] at CN
  have hne := nE_le d
  obtain ⟨w1, hmk, ho1, b1⟩ := make_C (cells := ZS.cells) 45 22 (.slice none 0 0) 24 Try.underlying45 infoL zeroL rfl (by decide) w (nE d) (by omega) (by omega)
  obtain ⟨cur0, hcur0, _⟩ := ownsRow_at ho1.own
  have hlt1 : w.heap.size < w1.heap.size := (Array.getElem?_eq_some_iff.1 hcur0).1
  obtain ⟨V1, hV1, Bn, b2⟩ := box0 45 w1 #[.slice (some ⟨w.heap.size, 0, none⟩) 0 (nE d)]
  have s2 : V1.heap.size = w1.heap.size + 1 := by rw [← hV1]; simp
  obtain ⟨V2, hV2, Bl, b3⟩ := box0 22 V1 #[.slice A n c]
  have s3 : V2.heap.size = w1.heap.size + 1 + 1 := by rw [← hV2]; simp [s2]
  rw [s2] at Bl
  have bV : Below w.heap.size w V2 := bb (bb b1 b2) b3
  have r2 := ownsRow_keep (w' := V2) ho1.own ((b2.trans (b3.mono (by omega))).block w.heap.size hlt1)
  have Bn3 := Bn.below' b3
  have hz3 := h.below bV
  have HMK := Lib.hid hmk
  have HV1 := Lib.hid hV1
  have HV2 := Lib.hid hV2
  have HC := Lib.hid (fun (w9 : World) => CN)
  have hA : 0 < n → ∀ b off, A = some ⟨b, off, none⟩ → ¬ (b = w.heap.size ∨ b = w1.heap.size) := fun h0 b off e => by
    obtain ⟨b8, o8, e8, hlt8, _⟩ := h.2 h0
    rw [e] at e8
    injection e8 with e8
    injection e8 with e8
    omega
  have HA := Lib.hid hA
  have HBn := Lib.hid Bn3
  have HBl := Lib.hid Bl
  have HS2 := Lib.hid s2
  have HS3 := Lib.hid s3
  have HZ3 := Lib.hid hz3
  have HR := Lib.hid r2
  clear hmk hV1 hV2 Bn Bl s2 s3 b1 b2 b3 Bn3 hz3 hA CN hce ho1 hcur0 r2
  refine (callsIn_wide (n := 3)).1 ?_
  refine callsIn_of_wp_marks Try.func32 rfl trivial ?_ rfl
  simp only [Try.ntmps32, List.size_toArray, List.length_cons, List.length_nil, Nat.reduceAdd, Nat.reduceSub, Array.replicate_succ, Array.replicate_zero, List.push_toArray, List.append_toArray, List.nil_append, List.cons_append]
  have hmk2 := HMK.out
  gi_wp2_with (refine ⟨trivial, ?_⟩; gi_at_call 14; refine (callsIn_wide.2 (HC.out w)).mono ?_; rintro _ _ ⟨rfl, rfl⟩)
  rw [HV1.out]
  clear hmk2 HMK HC
  gi_wp2_with (refine ⟨trivial, ?_⟩; gi_at_call 45; refine (pl0 _ _ _ _ _).mono ?_; rintro _ _ ⟨rfl, rfl⟩)
  rw [HV2.out, HS2.out]
  refine wp_namedS ?_
  intro a0 ha0
  have seq : Fed Fence.wide 2 Try.prog 49 #[.pointer (some ⟨w1.heap.size + 1, 0, none⟩)] (fun x : ZS => #[.slice x.A x.n x.c]) (fun x W => x.ok W) (KC fun b => b = w.heap.size ∨ b = w1.heap.size) (fun ys => ys.map ZS.z = plcs d) (nE d) V2 := by
    intro l J W hW hab hY h0
    exact pl1 2 (by omega) l (w1.heap.size + 1) _ A n c d (by omega) HA.out V2 (fun b hb => by have := HS3.out; omega) J hY W hW ((HBl.out.below' hW).cell 0) (HZ3.out.below hW)
      (fun pre W1 W2 hj hb => hab pre W1 W2 none hj (below_by hb) (fun r e => by cases e)) h0
  refine fed_range rfl (by omega) (gf := 49) (lb := #[.pointer (some ⟨w1.heap.size + 1, 0, none⟩)]) (by rw [ha0]; rfl) trivial (enters_of Try.func49 (by kernel_rfl) rfl) (fun _ => rfl) seq (Below.refl _ _)
    (fun h1 h2 => KC.trans h1 h2) (fun W l o o' h1 h2 h3 => KC.putObj h2 h3 _)
    (fun pre W => AlI w w1 W d V2.heap.size pre)
    (fun s X Y row hs hg hr => by
      obtain ⟨h1, h2, h3, h4, h5⟩ := hs
      have hs3 := HS3.out
      refine ⟨(hg.block _ h1.lt (fun e => by have := (hr _ e.symm).1; omega)).trans h1, ownsRow_keep h2 (hg.block _ (by omega) (fun e => by have := (hr _ e.symm).1; omega)), fun x hx => ZS.tk (h3 x hx) (TK.grown hg (fun g e => ?_)), h4.grown hg h4.size (fun k e => by have := (hr _ e).1; omega), Nat.le_trans h5 hg.size⟩
      obtain ⟨_, o, ho, hc⟩ := hr g e
      exact ⟨o, ho, fun cur fr e9 => by rw [e9] at hc; cases hc⟩)
    (fun s X Y row hs hg hr => ZS.tk hs (TK.grown hg (fun g e => by
      obtain ⟨_, o, ho, hc⟩ := hr g e
      exact ⟨o, ho, fun cur fr e9 => by rw [e9] at hc; cases hc⟩)))
    ⟨HBn.out, HR.out, by simp, bV, Nat.le_refl _⟩
    (fun x => { tmps := (a0.tmps.setIfInBounds 10 (.slice x.A x.n x.c)).setIfInBounds 4 (.slice x.A x.n x.c), defers := [] }) ?assign ?body ?done
  case assign =>
    intro l x W K hK
    subst ha0
    obtain ⟨A5, n5, c5, z5⟩ := x
    gi_wp2
    exact hK
  case body =>
    rintro l pre x W hl ⟨r, hr⟩ ⟨h1, h2, h3, h4, h5⟩ hx hlt
    subst ha0
    obtain ⟨A5, n5, c5, z5⟩ := x
    obtain ⟨cu, hcu, hg0, hk0, hm0, hcs, hct⟩ := ownsRow_at h2
    have k0 : W.cell? ⟨w1.heap.size, 0, none⟩ = some (.slice (some ⟨w.heap.size, 0, none⟩) pre.length (nE d)) := h1.cell 0
    have f0 : W.frozen? ⟨w1.heap.size, 0, none⟩ = false := h1.free 0
    obtain ⟨i1, hi1, hy0, hy1, hy2⟩ := info_parts infoL
    have ba := below_alloc W (.cells #[.slice A5 n5 c5] 22)
    have h2' := ownsRow_keep (w' := W.alloc (.cells #[.slice A5 n5 c5] 22)) h2 (ba.block _ (Array.getElem?_eq_some_iff.1 hcu).1)
    have hs3 := HS3.out
    have H1 := Lib.hid h1
    have H2 := Lib.hid h2'
    have H3 := Lib.hid h3
    have HXX := Lib.hid hx
    have HCU := Lib.hid hcu
    clear h1 h2 h2' h3 hx seq hcs hk0 hm0 hg0 hct
    have hnews : ∀ (j : Nat) (u : Value), ([Value.slice A5 n5 c5] : List Value)[j]? = some u → (W.alloc (.cells #[.slice A5 n5 c5] 22)).cell? ((⟨W.heap.size, 0, none⟩ : Addr).add j) = some u := news_new W #[.slice A5 n5 c5] 22
    have hone : ∀ u ∈ ([Value.slice A5 n5 c5] : List Value), u.oneCell' = true := lc_one ⟨A5, n5, c5, z5⟩
    have HNE := Lib.hid hnews
    have HON := Lib.hid hone
    clear hnews hone hcu
    gi_wp2_with (gi_at_builtin; refine wpListIn_append_fits _ rfl _ _ 45 rfl w.heap.size 22 i1 1 Try.underlying45 hi1 hy1 w.heap.size pre.length (nE d) (pre.flatMap ZS.cells) rfl H2.out ⟨W.heap.size, 0, none⟩ 1 1 [Value.slice A5 n5 c5] rfl rfl HNE.out HON.out hlt ?_)
    intro W3 ho3 hg3
    have B3 : Box 45 W3 w1.heap.size #[.slice (some ⟨w.heap.size, 0, none⟩) pre.length (nE d)] := (hg3.block _ (by have := (H1.out.alloc (.cells #[.slice A5 n5 c5] 22)).lt; exact this) (by simp; omega)).trans (H1.out.alloc (.cells #[.slice A5 n5 c5] 22))
    have k3 := B3.cell 0
    have k4 : W3.cell? ⟨w1.heap.size, 0, none⟩ = some (.slice (some ⟨w.heap.size, 0, none⟩) pre.length (nE d)) := k3
    have f4 : W3.frozen? ⟨w1.heap.size, 0, none⟩ = false := B3.free 0
    have HO3 := Lib.hid ho3
    have HG3 := Lib.hid hg3
    have HB3 := Lib.hid B3
    clear ho3 hg3 B3 k3 k0 f0
    gi_wp2
    have hsz := HG3.out.size
    have hcells : ∀ g, (some w.heap.size : Option Nat) = some g → ∃ o, (W.alloc (.cells #[.slice A5 n5 c5] 22)).heap[g]? = some o ∧ ∀ (cur : Array Value) (fr : Nat × Nat), o ≠ Obj.cells cur 3 fr := fun g e => by
      injection e with e
      subst e
      refine ⟨_, (ba.block _ (Array.getElem?_eq_some_iff.1 HCU.out).1).trans HCU.out, fun cur fr e9 => ?_⟩
      injection e9 with _ e8
      cases e8
    have tk : TK W (W3.setCell ⟨w1.heap.size, 0, none⟩ (.slice (some ⟨w.heap.size, 0, none⟩) (pre.length + 1) (nE d))) := ((TK.of_below ba).trans (TK.grown HG3.out hcells)).trans (TK.setBox HB3.out (by decide) _ _)
    have kc : KC (fun b => b = w.heap.size ∨ b = w1.heap.size) W (W3.setCell ⟨w1.heap.size, 0, none⟩ (.slice (some ⟨w.heap.size, 0, none⟩) (pre.length + 1) (nE d))) := ((KC.of_below ba).trans (KC.grown HG3.out (.inl rfl))).setCell (.inr rfl) _ _
    refine ⟨(((KeepsOthers.alloc _ _).trans (KeepsOthers.of_grownBy HG3.out (fun j o e ho => ?_))).trans (KeepsOthers.setCell _ _ _)).from _, kc, ?_, ?_, fun y hy => ?_, ?_, ?_⟩
    · injection e with e
      subst e
      have := (ba.block _ (Array.getElem?_eq_some_iff.1 HCU.out).1).trans HCU.out
      rw [this] at ho
      injection ho with ho
      rw [← ho]
      rfl
    · rw [List.length_append]
      exact HB3.out.one1 _
    · rw [List.length_append, List.flatMap_append]
      refine ownsRow_keep (w := W3) HO3.out ?_
      exact ((Keep.refl w1.heap.size W3).setCell 0 _).block _ (by have := HB3.out.lt; omega) (by omega)
    · rcases List.mem_append.1 hy with hy | hy
      · exact ZS.tk (H3.out y hy) tk
      · rw [List.mem_singleton.1 hy]
        exact ZS.tk HXX.out tk
    · exact (((h4.alloc h4.size _).grown HG3.out (by simp; have := h4.size; omega) (fun k e => by injection e with e; omega))).setCell (p := ⟨w1.heap.size, 0, none⟩) (by simp; omega) _
    · simp only [World.setCell, Array.size_modify]
      simp at hsz
      omega
  case done =>
    rintro D ys W hD hS ⟨h1, h2, h3, h4, h5⟩ hK
    subst ha0
    have hc : W.cell? ⟨w1.heap.size, 0, none⟩ = some (.slice (some ⟨w.heap.size, 0, none⟩) ys.length (nE d)) := h1.cell 0
    gi_wp2
    refine ⟨by simp, .inl ⟨_, _, rfl, run_takeDeferred hK, ?_⟩⟩
    have hs3 := HS3.out
    have r9 := ownsRow_keep (w' := W.putObj D (.deferred none)) h2 (World.putObj_heap_other (by omega))
    have ok9 : ∀ x ∈ ys, x.ok (W.putObj D (.deferred none)) := fun x hx => ZS.tk (h3 x hx) ⟨by simp [World.putObj], fun b cur fr hb => (World.putObj_heap_other (fun e => by subst e; rw [hK] at hb; cases hb)).trans hb⟩
    exact ⟨_, results_tmp rfl _ _ _, _, _, _, ys, rfl, ownsRow_sll r9 ok9, hS, fun _ => New.some_ (Nat.le_refl _), h4.trans (belowK_b (w := V2) (by omega) W D _ _ (by omega) hK rfl rfl)⟩

end Go.Proofs.Ythhmofmncjodfaa
