/-
  What Steps of package shape returns. Conditions: the slice reads as a list of ints.
-/
import Derived.Test.YthhmofmncjodfaaShBk
import Derived.Test.YthhmofmncjodfaaShB
import Derived.Test.YthhmofmncjodfaaZOwn
namespace Go.Proofs.Ythhmofmncjodfaa
open Go.RowKit Go.Shelf
set_option linter.unusedVariables false
set_option linter.unusedSimpArgs false
attribute [local go_sem] Oper.semAt_some

theorem wp_namedS {c : Code} {F : Fence} {n : Nat} {P : Program} {Q : Exit → Act → World → Prop} {a : Act} {w : World} (h : ∀ a0 : Act, a0 = a → c.wpIn F n P Q a0 w) : c.wpIn F n P Q a w := h a rfl

/-- what the row and the product hold when the axes of pre have been gone through from the last one on -/
def StDone (d : List Int) (pre : List Nat) (zs : List Int) (s : Int) : Prop :=
  pre = (List.range d.length).reverse.take pre.length → s = prodZ (d.drop (d.length - pre.length)) ∧ ∀ i, i < d.length → d.length - pre.length ≤ i → zs.getD i 0 = prodZ (d.drop (i + 1))
theorem StDone.nil (d : List Int) (zs : List Int) : StDone d [] zs 1 := fun _ => ⟨by simp [prodZ], fun i h1 h2 => by simp at h2; omega⟩
theorem take_snoc_inv {l pre : List Nat} {x : Nat} (h : pre ++ [x] = l.take (pre.length + 1)) : pre = l.take pre.length ∧ l[pre.length]? = some x := by
  have h1 : (pre ++ [x]).take pre.length = (l.take (pre.length + 1)).take pre.length := by rw [h]
  rw [List.take_left, List.take_take, Nat.min_eq_left (by omega)] at h1
  refine ⟨h1, ?_⟩
  have h2 : (pre ++ [x])[pre.length]? = (l.take (pre.length + 1))[pre.length]? := by rw [h]
  rw [List.getElem?_append_right (Nat.le_refl _), Nat.sub_self, List.getElem?_take, if_pos (by omega)] at h2
  exact h2.symm
theorem StDone.step {pre : List Nat} {dd : List Int} {zs : List Int} {s : Int} {x : Nat} (hv : Vd dd) (hl : zs.length = dd.length) (h : StDone dd pre zs s) (hx : x < dd.length) :
    StDone dd (pre ++ [x]) (zs.set x s) (IntKind.i64.wrap (s * dd.getD x 0)) := by
  intro hp
  rw [List.length_append, List.length_singleton] at hp ⊢
  obtain ⟨h1, h2⟩ := take_snoc_inv hp
  obtain ⟨e1, e2⟩ := h h1
  have hlt : pre.length < dd.length := by
    have := (List.getElem?_eq_some_iff.1 h2).1
    simpa using this
  have ex : x = dd.length - 1 - pre.length := by
    have e9 : (List.range dd.length).reverse[pre.length]? = some (dd.length - 1 - pre.length) := by
      rw [List.getElem?_reverse (by simpa using hlt), List.length_range, List.getElem?_range (by omega)]
    rw [e9] at h2
    injection h2 with h2
    exact h2.symm
  have ed : prodZ (dd.drop (dd.length - (pre.length + 1))) = dd.getD x 0 * prodZ (dd.drop (dd.length - pre.length)) := by
    have := prodZ_drop hx
    rw [show dd.length - (pre.length + 1) = x by omega, this, show x + 1 = dd.length - pre.length by omega]
  have hle := prodZ_drop_le hv.pos (dd.length - (pre.length + 1))
  have hge := prodZ_pos (hv.pos.drop (dd.length - (pre.length + 1)))
  have hpr := hv.prod
  have em : s * dd.getD x 0 = prodZ (dd.drop (dd.length - (pre.length + 1))) := by rw [ed, e1, Int.mul_comm]
  refine ⟨?_, fun i hi1 hi2 => ?_⟩
  · rw [em]
    exact IntWalk.i64_in _ (by omega)
  · rw [setI_at (by omega)]
    by_cases e : i = x
    · subst e
      rw [if_pos rfl, e1, show i + 1 = dd.length - pre.length by omega]
    · rw [if_neg e]
      exact e2 i hi1 (by omega)
theorem StDone.all {d : List Int} {zs : List Int} {s : Int} (hl : zs.length = d.length) (h : StDone d (List.range d.length).reverse zs s) : zs = stepsZ d := by
  have h1 := (h (by rw [List.take_of_length_le]; simp)).2
  apply List.ext_getElem
  · rw [hl, length_stepsZ]
  · intro i hi1 hi2
    have h2 := h1 i (by omega) (by simp)
    rw [getD_eq hi1] at h2
    rw [h2, ← getD_eq hi2, stepsZ_at (by omega)]

/-- between two rounds -/
def StI (w W : World) (d : List Int) (n sz : Nat) (pre : List { i : Nat // i < n }) : Prop :=
  ∃ (zs : List Int) (s : Int), zs.length = n ∧ IRow W w.heap.size zs ∧ Box 22 W (w.heap.size + 1) #[.slice (some ⟨w.heap.size, 0, none⟩) n n] ∧ Box 3 W (w.heap.size + 1 + 1) #[.int .i64 s] ∧ StDone d (pre.map Subtype.val) zs s ∧ Below w.heap.size w W ∧ sz ≤ W.heap.size

set_option maxRecDepth 100000 in
set_option maxHeartbeats 4000000 in
theorem sh_steps_ok {w : World} {A : Option Addr} {n c : Nat} {d : List Int} (h : SlZ w A n c d) (hc0 : chk d = 0) : Calls Try.prog 17 #[.slice A n c] w (RetZs (stepsZ d) w) := by
  have CK := sh_check h
  rw [hc0] at CK
  have hv := vd_of hc0
  have hlen : d.length = n := h.len
  have hn6 : n ≤ 6 := by have := hv.len; omega
  obtain ⟨w1, hmk, hr1, b1, s1⟩ := make_zs w n (by omega)
  obtain ⟨V1, hV1, Bn, b2⟩ := box0 22 w1 #[.slice (some ⟨w.heap.size, 0, none⟩) n n]
  have s2 : V1.heap.size = w.heap.size + 1 + 1 := by rw [← hV1]; simp [s1]
  obtain ⟨V2, hV2, Bs, b3⟩ := box0 3 V1 #[.int .i64 1]
  have s3 : V2.heap.size = w.heap.size + 1 + 1 + 1 := by rw [← hV2]; simp [s2]
  obtain ⟨V3, hV3, Bl, b4⟩ := box0 22 V2 #[.slice A n c]
  have s4 : V3.heap.size = w.heap.size + 1 + 1 + 1 + 1 := by rw [← hV3]; simp [s3]
  rw [s1] at Bn
  rw [s2] at Bs
  rw [s3] at Bl
  have bV : Below w.heap.size w V3 := bb (bb (bb b1 b2) b3) b4
  have R3 : IRow V3 w.heap.size (List.replicate n 0) := ((hr1.below b2).below b3).below b4
  have Bn3 := (Bn.below' b3).below' b4
  have Bs3 := Bs.below' b4
  have hz3 := h.below bV
  have HMK := Lib.hid hmk
  have HV1 := Lib.hid hV1
  have HV2 := Lib.hid hV2
  have HV3 := Lib.hid hV3
  have HL := Lib.hid hlen
  have HVd := Lib.hid hv
  have HC := Lib.hid (fun (w9 : World) => CK)
  have hA : 0 < n → ∀ b off, A = some ⟨b, off, none⟩ → ¬ (b = w.heap.size ∨ b = w.heap.size + 1 + 1) := fun h0 b off e => by
    obtain ⟨b8, o8, e8, hlt8, _⟩ := h.2 h0
    rw [e] at e8
    injection e8 with e8
    injection e8 with e8
    omega
  have HA := Lib.hid hA
  have HR := Lib.hid R3
  have HBn := Lib.hid Bn3
  have HBs := Lib.hid Bs3
  have HBl := Lib.hid Bl
  have HS3 := Lib.hid s3
  have HS4 := Lib.hid s4
  have HZ3 := Lib.hid hz3
  clear hmk hV1 hV2 hV3 hr1 Bn Bs Bl s2 s3 s4 b1 b2 b3 b4 R3 Bn3 Bs3 hz3 hA hv hlen hc0 CK
  refine (callsIn_wide (n := 3)).1 ?_
  refine callsIn_of_wp_marks Try.func17 rfl trivial ?_ rfl
  simp only [Try.ntmps17, List.size_toArray, List.length_cons, List.length_nil, Nat.reduceAdd, Nat.reduceSub, Array.replicate_succ, Array.replicate_zero, List.push_toArray, List.append_toArray, List.nil_append, List.cons_append]
  have hmk2 := HMK.out
  gi_wp2_with (refine ⟨trivial, ?_⟩; gi_at_call 12; refine (callsIn_wide.2 (HC.out w)).mono ?_; rintro _ _ ⟨rfl, rfl⟩)
  rw [HV1.out, HV2.out]
  clear hmk2 HMK HC s1
  gi_wp2_with (refine ⟨trivial, ?_⟩; gi_at_call 40; refine (zbk0 _ _ _ _ _).mono ?_; rintro _ _ ⟨rfl, rfl⟩)
  rw [HV3.out, HS3.out]
  refine wp_namedS ?_
  intro a0 ha0
  have seq : SeqStopsK Fence.wide 2 Try.prog 48 #[.pointer (some ⟨w.heap.size + 1 + 1 + 1, 0, none⟩)] (fun x : { i : Nat // i < n } => #[.int .i64 (x.1 : Int), .int .i64 (d.getD x.1 0)]) (KC fun b => b = w.heap.size ∨ b = w.heap.size + 1 + 1) (fun ys => ys.map Subtype.val = (List.range n).reverse) (fun _ => True) n V3 := by
    intro l J Jx W hW _ _ hY h0
    exact zbk1 2 (by omega) l (w.heap.size + 1 + 1 + 1) _ A n c d (by omega) HA.out J Jx hY W ((HBl.out.below' hW).cell 0) (HZ3.out.below hW) h0
  refine wpIn_rangeFunc_ownH rfl (by omega) (gf := 48) (lb := #[.pointer (some ⟨w.heap.size + 1 + 1 + 1, 0, none⟩)]) (by rw [ha0]; rfl) trivial (enters_of Try.func48 (by kernel_rfl) rfl) seq
    (fun h1 h2 => KC.trans h1 h2) (fun W l o o' h1 h2 h3 h4 => KC.putObj h2 h3 _) (Below.refl _ _) (fun _ => rfl)
    (fun pre W => StI w W d n V3.heap.size pre)
    (fun _ _ _ => False)
    (fun s X Y row hs hg hr => by
      obtain ⟨zs, st, h1, h2, h3, h4, h5, h6, h7⟩ := hs
      refine ⟨zs, st, h1, (hg.block _ h2.lt (fun e => by have := (hr _ e.symm).1; have := HS4.out; omega)).trans h2, (hg.block _ h3.lt (fun e => by have := (hr _ e.symm).1; have := HS4.out; omega)).trans h3, (hg.block _ h4.lt (fun e => by have := (hr _ e.symm).1; have := HS4.out; omega)).trans h4, h5, h6.grown hg h6.size (fun k e => by have := (hr _ e).1; have := HS4.out; omega), Nat.le_trans h7 hg.size⟩)
    (fun _ _ _ _ _ hs _ _ => hs)
    ⟨List.replicate n 0, 1, by simp, HR.out, HBn.out, HBs.out, StDone.nil _ _, bV, Nat.le_refl _⟩
    (fun x a' W => a' = { tmps := (((a0.tmps.setIfInBounds 15 (.int .i64 (x.1 : Int))).setIfInBounds 16 (.int .i64 (d.getD x.1 0))).setIfInBounds 5 (.int .i64 (x.1 : Int))).setIfInBounds 6 (.int .i64 (d.getD x.1 0)), defers := [] })
    (fun x a' s X Y row hs hg hr => hs) ?assign ?body ?done ?stop
  case assign =>
    intro l pre x W K hi hK
    subst ha0
    generalize d.getD x.1 0 = y at *
    gi_wp2
    exact hK _ _ (KeepsFrom.refl _ _) (KC.refl _ _) hi rfl
  case body =>
    rintro l pre x a' W hl ⟨r, hr⟩ ⟨zs, s, h1, h2, h3, h4, h5, h6, h7⟩ rfl hlt
    subst ha0
    obtain ⟨i, hi⟩ := x
    have hst := StDone.step (x := i) HVd.out (by rw [h1, HL.out]) h5 (by rw [HL.out]; exact hi)
    simp only
    generalize d.getD i 0 = y at *
    have k0 : W.cell? ⟨w.heap.size + 1, 0, none⟩ = some (.slice (some ⟨w.heap.size, 0, none⟩) n n) := h3.cell 0
    have k1 : W.cell? ⟨w.heap.size + 1 + 1, 0, none⟩ = some (.int .i64 s) := h4.cell 0
    have f1 : W.frozen? ⟨w.heap.size + 1 + 1, 0, none⟩ = false := h4.free 0
    have f0 : W.frozen? ⟨w.heap.size, i, none⟩ = false := h2.free i
    have c0 : W.cell? ⟨w.heap.size, i, none⟩ = some (.int .i64 (zs.getD i 0)) := h2.cell (by omega)
    generalize zs.getD i 0 = v0 at c0
    have HST := Lib.hid hst
    have H1 := Lib.hid h1
    have H2 := Lib.hid h2
    have H3 := Lib.hid h3
    have H4 := Lib.hid h4
    clear hst h1 h2 h3 h4 h5 seq
    gi_wp2
    have r2 := H2.out.set i s
    have e1 := H3.out.setAt (g' := w.heap.size) (by omega) i (.int .i64 s)
    have e2 := H4.out.setAt (g' := w.heap.size) (by omega) i (.int .i64 s)
    refine ⟨((KeepsOthers.setCell _ _ _).trans (KeepsOthers.setCell _ _ _)).from _, ((KC.refl _ _).setCell (.inl rfl) _ _).setCell (.inr rfl) _ _, zs.set i s, _, by rw [List.length_set]; exact H1.out, Box.setAt r2 (by omega) 0 _, e1.setAt (by omega) 0 _, e2.one1 _, ?_, ?_, ?_⟩
    · rw [List.map_append, ← IntWalk.i64_left]; exact HST.out
    · exact (h6.setCell (p := ⟨w.heap.size, i, none⟩) (Nat.le_refl _) _).setCell (p := ⟨w.heap.size + 1 + 1, 0, none⟩) (by simp; omega) _
    · simpa [World.setCell] using h7
  case done =>
    rintro D ys W hD hS ⟨zs, s, h1, h2, h3, h4, h5, h6, h7⟩ hK
    subst ha0
    have hc : W.cell? ⟨w.heap.size + 1, 0, none⟩ = some (.slice (some ⟨w.heap.size, 0, none⟩) n n) := h3.cell 0
    gi_wp2
    refine ⟨by simp, .inl ⟨_, _, rfl, run_takeDeferred hK, ?_⟩⟩
    rw [hS, ← HL.out] at h5
    have hz := h5.all (by rw [h1, HL.out])
    have HS9 := HS4.out
    subst hz
    have hi : ∀ x ∈ stepsZ d, I64 x := fun x hx => by
      obtain ⟨j, hj, rfl⟩ := List.getElem_of_mem hx
      have hj2 : j < d.length := by rw [length_stepsZ] at hj; exact hj
      rw [← getD_eq hj, stepsZ_at hj2]
      have k1 := prodZ_drop_le HVd.out.pos (j + 1)
      have k2 := prodZ_pos (HVd.out.pos.drop (j + 1))
      have k3 := HVd.out.prod
      unfold I64
      omega
    have hr9 : IRow (W.putObj D (.deferred none)) w.heap.size (stepsZ d) := (World.putObj_heap_other (by omega)).trans h2
    have hs9 := hr9.slz hi (Nat.le_refl _) (by rw [h1]; unfold maxLen; omega)
    rw [h1] at hs9
    exact ⟨_, results_tmp rfl _ _ _, _, _, _, rfl, hs9, fun _ => New.some_ (Nat.le_refl _), h6.trans (belowK_b (w := w) (Nat.le_refl _) W D _ _ (by omega) hK rfl rfl)⟩
  case stop =>
    rintro D c9 pre W _ _ h9 _
    exact h9.elim

set_option maxHeartbeats 1000000 in
theorem sh_steps {w : World} {A : Option Addr} {n c : Nat} {d : List Int} (h : SlZ w A n c d) : Calls Try.prog 17 #[.slice A n c] w (RetZs (stps d) w) := by
  by_cases h0 : chk d = 0
  · rw [stps_ok h0]
    exact sh_steps_ok h h0
  · rw [stps_no h0]
    have CK := sh_check h
    have hz : (chk d != 0) = true := by simpa using h0
    have HC := Lib.hid CK
    clear h0 CK
    go_enter Try.func17, Try.ntmps17
    go_wp2_with fail
    refine HC.out.mono ?_
    rintro _ _ ⟨rfl, rfl⟩
    go_wp2_with fail
    go_ret
    exact ⟨none, 0, 0, rfl, SlZ.nil _ _ _ (by unfold maxLen; omega), fun h => absurd h (by omega), Below.refl _ _⟩

end Go.Proofs.Ythhmofmncjodfaa
