/-
  What evals.Exact returns. Conditions: the slices read as at most 300 instructions, whose numbers have at most 64 words, and as at most 1000 numbers of at most 64 words.
-/
import Derived.Test.YtibgpeaplmcogaaGreatDoorLnMpAllT
import Derived.Test.YtibgpeaplmcogaaGreatDoorProg
import Derived.Test.YtibgpeaplmcogaaGreatDoorLnAAllT
import Derived.KernelRfl
import Derived.Test.YtibgpeaplmcogaaGreatDoorNatMathOneT
import Derived.Test.YtibgpeaplmcogaaGreatDoorQuotWordAllT
import Derived.Test.YtibgpeaplmcogaaGreatDoorRefShiftAllT
import Derived.Laws.BytesArg
import Derived.Test.YtibgpeaplmcogaaGreatDoorRefGcdAllT
import Derived.Test.YtibgpeaplmcogaaGreatDoorRatAddAllT
namespace Go.Proofs.YtibgpeaplmcogaaGreatDoor
set_option maxRecDepth 100000
open Go.RowKit Go.Maps
set_option linter.unusedVariables false
set_option linter.unusedSimpArgs false

theorem boxes66 (t : TypeId) (w : World) (vs us : Array Value) : ∃ W, (w.alloc (.cells vs t)).alloc (.cells us t) = W ∧ Box t W w.heap.size vs ∧ Box t W (w.heap.size + 1) us ∧ Below w.heap.size w W := boxes63 t t w vs us

set_option maxRecDepth 100000 in
set_option maxHeartbeats 4000000 in
theorem rn_copy {w : World} {op a b : Int} {s : Bool} {A A' : Option Addr} {n c n' c' mb : Nat} {z z' : List Int} (h1 : Sl w A n c z) (h2 : Sl w A' n' c' z') (hn : n ≤ 1000) (hn' : n' ≤ 1000) (har : ¬ arity op = 1 ∧ ¬ arity op = 2) :
    Calls Tryz.prog 53 #[.agg #[.int .i64 op, .int .i64 a, .int .i64 b, .bool s, .slice A n c, .slice A' n' c'], .map (some mb)] w fun e w' => ∃ A1 n1 c1 A2 n2 c2, e = .returned (.agg #[.int .i64 op, .int .i64 a, .int .i64 0, .bool s, .slice A1 n1 c1, .slice A2 n2 c2]) ∧ Sl w' A1 n1 c1 z ∧ Sl w' A2 n2 c2 z' ∧ Below w.heap.size w w' := by
  obtain ⟨V, hW, Bx, Br, hb0⟩ := boxes66 27 w #[.int .i64 op, .int .i64 a, .int .i64 b, .bool s, .slice A n c, .slice A' n' c'] #[.int .i64 0, .int .i64 0, .int .i64 0, .bool false, .slice none 0 0, .slice none 0 0]
  have C1 := fun w1 (hb9 : Below V.heap.size V w1) => line_copied (h1.below (bb hb0 hb9)) (by omega)
  have C2 := fun w1 (hb9 : Below V.heap.size V w1) => line_copied (h2.below (bb hb0 hb9)) (by omega)
  have AR := fun (w1 : World) => line_arity op w1
  have hS : ∀ w', Below V.heap.size V w' → w'.cell? ⟨w.heap.size, 0, none⟩ = some (.int .i64 op) ∧ w'.cell? ⟨w.heap.size, 1, none⟩ = some (.int .i64 a) ∧ w'.cell? ⟨w.heap.size, 3, none⟩ = some (.bool s) ∧ w'.cell? ⟨w.heap.size, 4, none⟩ = some (.slice A n c) ∧ w'.cell? ⟨w.heap.size, 5, none⟩ = some (.slice A' n' c') := fun w' hb9 => ⟨(Bx.below' hb9).six.1.1, (Bx.below' hb9).six.1.2.1, (Bx.below' hb9).six.1.2.2.2.1, (Bx.below' hb9).six.1.2.2.2.2.1, (Bx.below' hb9).six.1.2.2.2.2.2⟩
  have hP : ∀ (w' : World) (x0 x1 x2 x3 x4 x5 : Value), Below V.heap.size V w' → (fun w' : World => w'.cell? ⟨w.heap.size, 0, none⟩ = some (.int .i64 op) ∧ w'.cell? ⟨w.heap.size, 1, none⟩ = some (.int .i64 a) ∧ w'.cell? ⟨w.heap.size, 3, none⟩ = some (.bool s) ∧ w'.cell? ⟨w.heap.size, 4, none⟩ = some (.slice A n c) ∧ w'.cell? ⟨w.heap.size, 5, none⟩ = some (.slice A' n' c')) (put6 w' (w.heap.size + 1) x0 x1 x2 x3 x4 x5) := fun w' x0 x1 x2 x3 x4 x5 hb9 => by
    obtain ⟨p0, p1, p3, p4, p5⟩ := hS w' hb9
    have hlt3 : w.heap.size < w'.heap.size := (Bx.below' hb9).lt
    have hk := fun i => World.cell?_of_block (a := ⟨w.heap.size, i, none⟩) ((keep_put6 w' (w.heap.size + 1) x0 x1 x2 x3 x4 x5).block w.heap.size hlt3 (by omega))
    exact ⟨(hk 0).trans p0, (hk 1).trans p1, (hk 3).trans p3, (hk 4).trans p4, (hk 5).trans p5⟩
  simp only [put6] at hP
  generalize arity op = r at *
  have e1 : (r == 1) = false := by simpa using har.1
  have e2 : (r == 2) = false := by simpa using har.2
  have HAR := Lib.hid AR
  have HC1 := Lib.hid C1
  have HC2 := Lib.hid C2
  have HS := Lib.hid hS
  have HP := Lib.hid hP
  have HBr := Lib.hid Br
  have HW := Lib.hid hW
  obtain ⟨hr1, hr2⟩ := har
  clear AR C1 C2 hS hP Bx Br hW h1 h2
  go_enter Tryz.func53, Tryz.ntmps53
  go_wp2_with fail
  with_reducible refine (HAR.out _).mono ?_
  rintro _ _ ⟨rfl, rfl⟩
  go_wp2_with fail
  rw [HW.out]
  obtain ⟨k0, k1, k3, k4, k5⟩ := HS.out _ (Below.refl _ V)
  go_region_held3 (fun w' => w'.cell? ⟨w.heap.size, 0, none⟩ = some (.int .i64 op) ∧ w'.cell? ⟨w.heap.size, 1, none⟩ = some (.int .i64 a) ∧ w'.cell? ⟨w.heap.size, 3, none⟩ = some (.bool s) ∧ w'.cell? ⟨w.heap.size, 4, none⟩ = some (.slice A n c) ∧ w'.cell? ⟨w.heap.size, 5, none⟩ = some (.slice A' n' c')) (first | with_reducible exact HS4.out | with_reducible exact HS.out _ (Below.refl _ V).drew | with_reducible exact HS.out _ x2 | with_reducible exact HS.out _ x1 | fail)
    (first
      | (go_at_call 78; (with_reducible refine (HC1.out _ ?hb1).mono ?_); (case hb1 => exact (Below.refl _ V).drew); rintro _ w1 ⟨A1, n1, c1, rfl, t1, b1⟩; have x1 : Below V.heap.size V w1 := Below.undrew b1)
      | (go_at_call 78; (with_reducible refine (HC2.out _ x1).mono ?_); rintro _ w2 ⟨A2, n2, c2, rfl, t2, b2⟩; have x2 : Below V.heap.size V w2 := bb x1 b2; have HS4 := Lib.hid (HP.out w2 (.int .i64 op) (.int .i64 a) (.int .i64 0) (.bool s) (.slice A1 n1 c1) (.slice A2 n2 c2) x2); have B9 := HBr.out.below' x2; obtain ⟨⟨r0, r1, r2, r3, r4, r5⟩, f0, f1, f2, f3, f4, f5⟩ := B9.six))
  all_goals
    go_wp2_with fail
    refine bodyPost_ret (v := .agg #[.int .i64 op, .int .i64 a, .int .i64 0, .bool s, .slice A1 n1 c1, .slice A2 n2 c2]) (by simp [results, Tryz.results53, go_sem, r0, r1, r2, r3, r4, r5]) rfl ?_
    have hnw : NoWAt w2 (w.heap.size + 1) := box_noW B9 (by
      intro u hu
      simp only [List.mem_cons, List.not_mem_nil, or_false] at hu
      rcases hu with rfl | rfl | rfl | rfl | rfl | rfl
      · exact NoW_i64 _
      · exact NoW_i64 _
      · exact NoW_i64 _
      · exact NoW_bool _
      · exact NoW_slice _ _ _
      · exact NoW_slice _ _ _)
    have hkp := keep_put6 w2 (w.heap.size + 1) (.int .i64 op) (.int .i64 a) (.int .i64 0) (.bool s) (.slice A1 n1 c1) (.slice A2 n2 c2)
    exact ⟨_, _, _, _, _, _, rfl, (t1.below b2).keepNoW hnw hkp, t2.keepNoW hnw hkp, Below.keep (bb hb0 x2) hkp (by omega) (Nat.le_refl _)⟩

end Go.Proofs.YtibgpeaplmcogaaGreatDoor

namespace Go.Proofs.YtibgpeaplmcogaaGreatDoor
set_option maxRecDepth 100000
open Go.RowKit Go.Maps
set_option linter.unusedVariables false
set_option linter.unusedSimpArgs false

/-- an instruction, and nothing that was there has turned -/
def RetRI (p : PI) (w : World) (e : Ending) (w' : World) : Prop := ∃ y : RI, e = .returned (.agg #[.int .i64 y.op, .int .i64 y.a, .int .i64 y.b, .bool y.q.s, .slice y.q.A y.q.n y.q.c, .slice y.q.A' y.q.n' y.q.c']) ∧ y.ok w' ∧ y.pi = p ∧ Below w.heap.size w w'
def mkRI (op a b : Int) : RI := ⟨op, a, b, ⟨false, none, 0, 0, [], none, 0, 0, []⟩⟩
theorem mkRI_ok (w : World) {op a b : Int} (h1 : I64 op) (h2 : I64 a) (h3 : I64 b) : (mkRI op a b).ok w := ⟨h1, h2, h3, Sl.nil _ _ _, Sl.nil _ _ _, by unfold maxLen; simp [mkRI], by unfold maxLen; simp [mkRI]⟩
theorem nq_of {s : Bool} {z z' : List Int} (h : nq (s, z, z') = true) : s = false ∧ z = [] ∧ z' = [] := by
  unfold nq at h
  rw [decide_eq_true_eq] at h
  exact h
theorem wf_I64 {z : Int} (h : (Lit.int .i64 z).wf = true) : I64 z := I64_of_wf h

set_option maxRecDepth 100000 in
set_option maxHeartbeats 4000000 in
theorem rn_one {w : World} {op a b : Int} {q : RQ} {mb N : Nat} {D : DataW Unit} (hD : w.ownsMap Tryz.prog 3 (plainElem Tryz.prog 3) mb N D) (har : arity op = 1) (ha : I64 a) {va : Int} (e1 : D.atKey (.int .i64 a) (.lit (.int .i64 0)) = .lit (.int .i64 va)) :
    Calls Tryz.prog 53 #[.agg #[.int .i64 op, .int .i64 a, .int .i64 b, .bool q.s, .slice q.A q.n q.c, .slice q.A' q.n' q.c'], .map (some mb)] w fun e w' => e = .returned (.agg #[.int .i64 op, .int .i64 va, .int .i64 0, .bool false, .slice none 0 0, .slice none 0 0]) ∧ I64 va ∧ Below w.heap.size w w' := by
  have AR := fun (w1 : World) => line_arity op w1
  rw [har] at AR
  have HAR := Lib.hid AR
  clear AR har
  go_enter Tryz.func53, Tryz.ntmps53
  go_wp2_with fail
  with_reducible refine (HAR.out _).mono ?_
  rintro _ _ ⟨rfl, rfl⟩
  go_wp2_with (at_lookup; refine wpList_lookup_own_int _ rfl _ _ 71 rfl 3 3 .i64 lawI Tryz.underlying71 Tryz.underlying3 (zeroI _) mb N D rfl ((hD.alloc _).alloc _) (.int .i64 a) _ rfl (keyOf_int_mk Tryz.underlying3 (wfI ha)) ?_; intro ca hata hwca)
  rw [e1] at hata
  injection hata with hata
  injection hata with _ hata
  subst hata
  go_wp2_with fail
  refine bodyPost_ret (v := .agg #[.int .i64 op, .int .i64 va, .int .i64 0, .bool false, .slice none 0 0, .slice none 0 0]) (by simp [results, Tryz.results53, go_sem]) rfl ?_
  exact ⟨rfl, wf_I64 hwca, (below_alloc _ _).alloc (by simp) _⟩

set_option maxRecDepth 100000 in
set_option maxHeartbeats 4000000 in
theorem rn_two {w : World} {op a b : Int} {q : RQ} {mb N : Nat} {D : DataW Unit} (hD : w.ownsMap Tryz.prog 3 (plainElem Tryz.prog 3) mb N D) (har : arity op = 2) (ha : I64 a) (hb : I64 b) {va vb : Int} (e1 : D.atKey (.int .i64 a) (.lit (.int .i64 0)) = .lit (.int .i64 va)) (e2 : D.atKey (.int .i64 b) (.lit (.int .i64 0)) = .lit (.int .i64 vb)) :
    Calls Tryz.prog 53 #[.agg #[.int .i64 op, .int .i64 a, .int .i64 b, .bool q.s, .slice q.A q.n q.c, .slice q.A' q.n' q.c'], .map (some mb)] w fun e w' => e = .returned (.agg #[.int .i64 op, .int .i64 va, .int .i64 vb, .bool false, .slice none 0 0, .slice none 0 0]) ∧ I64 va ∧ I64 vb ∧ Below w.heap.size w w' := by
  have AR := fun (w1 : World) => line_arity op w1
  rw [har] at AR
  have HAR := Lib.hid AR
  clear AR har
  go_enter Tryz.func53, Tryz.ntmps53
  go_wp2_with fail
  with_reducible refine (HAR.out _).mono ?_
  rintro _ _ ⟨rfl, rfl⟩
  go_wp2_with (first | (at_lookup; refine wpList_lookup_own_int _ rfl _ _ 71 rfl 3 3 .i64 lawI Tryz.underlying71 Tryz.underlying3 (zeroI _) mb N D rfl ((hD.alloc _).alloc _) (.int .i64 a) _ rfl (keyOf_int_mk Tryz.underlying3 (wfI ha)) ?_; intro ca hata hwca) | (at_lookup; refine wpList_lookup_own_int _ rfl _ _ 71 rfl 3 3 .i64 lawI Tryz.underlying71 Tryz.underlying3 (zeroI _) mb N D rfl ((hD.alloc _).alloc _) (.int .i64 b) _ rfl (keyOf_int_mk Tryz.underlying3 (wfI hb)) ?_; intro cb hatb hwcb))
  rw [e1] at hata
  injection hata with hata
  injection hata with _ hata
  subst hata
  rw [e2] at hatb
  injection hatb with hatb
  injection hatb with _ hatb
  subst hatb
  go_wp2_with fail
  refine bodyPost_ret (v := .agg #[.int .i64 op, .int .i64 va, .int .i64 vb, .bool false, .slice none 0 0, .slice none 0 0]) (by simp [results, Tryz.results53, go_sem]) rfl ?_
  exact ⟨rfl, wf_I64 hwca, wf_I64 hwcb, (below_alloc _ _).alloc (by simp) _⟩

theorem line_renum {w : World} {x : RI} (hx : x.ok w) {mb N : Nat} {th : Int → Bool} {v : Int → Int} (M : MapIs w mb N th v) {i : Nat} (hfit : fits vq nq x.pi i) (hi : i ≤ 65536) (hn : x.q.n ≤ 1000) (hn' : x.q.n' ≤ 1000) {mk : Nat → Bool} (hv : ∀ j : Nat, Uses x.pi j → th j = true ∧ v j = (cnt mk j : Int)) :
    Calls Tryz.prog 53 #[.agg #[.int .i64 x.op, .int .i64 x.a, .int .i64 x.b, .bool x.q.s, .slice x.q.A x.q.n x.q.c, .slice x.q.A' x.q.n' x.q.c'], .map (some mb)] w (RetRI (ren mk x.pi) w) := by
  obtain ⟨op, a, b, q⟩ := x
  obtain ⟨i1, i2, i3, hq⟩ := hx
  obtain ⟨D, hD, _, hM⟩ := M
  simp only at hn hn' i1 i2 i3 hq ⊢
  have hfit : fits vq nq ⟨op, a, b, (q.s, q.z, q.z')⟩ i := hfit
  have hv : ∀ j : Nat, Uses ⟨op, a, b, (q.s, q.z, q.z')⟩ j → th j = true ∧ v j = (cnt mk j : Int) := hv
  show Calls _ _ _ w (RetRI (ren mk ⟨op, a, b, (q.s, q.z, q.z')⟩) w)
  rcases ar_cases op with ⟨c, d⟩ | ⟨c, d1, d2⟩ | ⟨c, d1, d2⟩ | ⟨c, d1, d2⟩
  · have hb0 : b = 0 := by
      unfold fits at hfit
      simp only at hfit
      rcases d with d | d
      · rw [if_neg (by omega), if_pos d] at hfit; exact hfit.2.2.2
      · rw [if_pos d] at hfit; exact hfit.2.1
    refine (rn_copy (mb := mb) (s := q.s) hq.1 hq.2.1 hn hn' ⟨by omega, by omega⟩).mono ?_
    rintro _ w1 ⟨A1, n1, c1, A2, n2, c2, rfl, t1, t2, b1⟩
    refine ⟨⟨op, a, 0, ⟨q.s, A1, n1, c1, q.z, A2, n2, c2, q.z'⟩⟩, rfl, ⟨i1, i2, by unfold I64; simp, t1, t2, ?_, ?_⟩, ?_, b1⟩
    · have h9 : n1 = q.n := by rw [t1.len, ← hq.1.len]
      show n1 ≤ maxLen
      rw [h9]; exact hq.2.2.1
    · have h9 : n2 = q.n' := by rw [t2.len, ← hq.2.1.len]
      show n2 ≤ maxLen
      rw [h9]; exact hq.2.2.2
    · unfold ren RI.pi
      simp only
      rw [if_neg (by omega), if_neg (by omega), hb0]
  · obtain ⟨g1, g2⟩ := fit_one d2 d1 c hfit
    obtain ⟨t, rfl⟩ : ∃ t : Nat, a = (t : Int) := ⟨a.toNat, by omega⟩
    have hbq : b = 0 ∧ nq (q.s, q.z, q.z') = true := by
      unfold fits at hfit
      simp only at hfit
      rw [if_neg d2, if_neg d1, if_pos c] at hfit
      exact ⟨hfit.2.2.2, hfit.1⟩
    obtain ⟨hb0, hnq⟩ := hbq
    obtain ⟨s0, z0, z0'⟩ := nq_of hnq
    obtain ⟨h1, h2⟩ := hv t (.inl ⟨by show 0 < arity op; omega, rfl⟩)
    obtain ⟨_, h4⟩ := hM (t : Int) i2
    rw [h1, if_pos rfl, h2] at h4
    refine (rn_one (b := b) (q := q) hD c i2 h4).mono ?_
    rintro _ w1 ⟨rfl, v1, b1⟩
    refine ⟨mkRI op (cnt mk t) 0, rfl, mkRI_ok _ i1 v1 (by unfold I64; simp), ?_, b1⟩
    unfold ren RI.pi mkRI
    simp only
    rw [if_pos (by omega), if_neg (by omega), hb0, s0, z0, z0', show ((t : Int)).toNat = t by omega]
  · obtain ⟨g1, g2, g3, g4⟩ := fit_two d2 d1 c hfit
    obtain ⟨t, rfl⟩ : ∃ t : Nat, a = (t : Int) := ⟨a.toNat, by omega⟩
    obtain ⟨u, rfl⟩ : ∃ u : Nat, b = (u : Int) := ⟨b.toNat, by omega⟩
    have hnq : nq (q.s, q.z, q.z') = true := by
      unfold fits at hfit
      simp only at hfit
      rw [if_neg d2] at hfit
      exact hfit.1
    obtain ⟨s0, z0, z0'⟩ := nq_of hnq
    obtain ⟨h1, h2⟩ := hv t (.inl ⟨by show 0 < arity op; omega, rfl⟩)
    obtain ⟨h5, h6⟩ := hv u (.inr ⟨by show 1 < arity op; omega, rfl⟩)
    obtain ⟨_, h4⟩ := hM (t : Int) i2
    obtain ⟨_, h7⟩ := hM (u : Int) i3
    rw [h1, if_pos rfl, h2] at h4
    rw [h5, if_pos rfl, h6] at h7
    refine (rn_two (q := q) hD c i2 i3 h4 h7).mono ?_
    rintro _ w1 ⟨rfl, v1, v2, b1⟩
    refine ⟨mkRI op (cnt mk t) (cnt mk u), rfl, mkRI_ok _ i1 v1 v2, ?_, b1⟩
    unfold ren RI.pi mkRI
    simp only
    rw [if_pos (by omega), if_pos (by omega), s0, z0, z0', show ((t : Int)).toNat = t by omega, show ((u : Int)).toNat = u by omega]
  · exact (fit_no d2 d1 c hfit).elim

end Go.Proofs.YtibgpeaplmcogaaGreatDoor

namespace Go.Proofs.YtibgpeaplmcogaaGreatDoor
set_option maxRecDepth 100000
open Go.RowKit Go.WideShapes Go.ChangeShapes
set_option linter.unusedVariables false

theorem rat_ty : RatTy Tryz.prog 25 :=
  ⟨⟨_, _, _, Tryz.underlying25, rfl, rfl, rfl, by kernel_rfl, by kernel_rfl, by kernel_rfl, Tryz.underlying4, _, _, Tryz.underlying23, Tryz.underlying23, Tryz.underlying76, Tryz.underlying76, by kernel_rfl, by kernel_rfl⟩, by kernel_rfl⟩
theorem ins_ty : InsTy Tryz.prog 27 :=
  ⟨⟨_, _, _, _, Tryz.underlying27, rfl, rfl, rfl, rfl, by kernel_rfl, by kernel_rfl, by kernel_rfl, Tryz.underlying3, Tryz.underlying3, Tryz.underlying3, rat_ty⟩, by kernel_rfl⟩
section
variable {H : Type} {enc : TypeId × Value → H} {w : World} {base b0 : Nat} {held : Bool} {r : Reach} {v : Value} {d : DataW H} {p : List MemPlace}
theorem arg_rats (hv : Value.okWide Tryz.prog w r b0 47 v) (h : DataW.Trod enc Tryz.prog w base (fun _ => true) held 47 v d p) : ∃ A n c xs, v = .slice A n c ∧ SlR w A n c xs := by
  obtain ⟨A, n, c, rfl⟩ := okWide_slice Tryz.underlying47 hv
  obtain ⟨fuel, hf⟩ := h
  exact open_slr Tryz.underlying47 rat_ty (by simpa [Value.cells] using hf)
theorem arg_inss (hv : Value.okWide Tryz.prog w r b0 22 v) (h : DataW.Trod enc Tryz.prog w base (fun _ => true) held 22 v d p) : ∃ A n c xs, v = .slice A n c ∧ SlP w A n c xs := by
  obtain ⟨A, n, c, rfl⟩ := okWide_slice Tryz.underlying22 hv
  obtain ⟨fuel, hf⟩ := h
  exact open_slp Tryz.underlying22 ins_ty (by simpa [Value.cells] using hf)
theorem arg_ints (hv : Value.okWide Tryz.prog w r b0 38 v) (h : DataW.Trod enc Tryz.prog w base (fun _ => true) held 38 v d p) : ∃ A n c xs, v = .slice A n c ∧ SlZ w A n c xs := by
  obtain ⟨A, n, c, rfl⟩ := okWide_slice Tryz.underlying38 hv
  obtain ⟨fuel, hf⟩ := h
  exact open_slz Tryz.underlying38 Tryz.underlying3 (by kernel_rfl) (by simpa [Value.cells] using hf)
theorem arg_words (hv : Value.okWide Tryz.prog w r b0 23 v) (h : DataW.Trod enc Tryz.prog w base (fun _ => true) held 23 v d p) : ∃ A n c z, v = .slice A n c ∧ Sl w A n c z ∧ n ≤ maxLen := by
  obtain ⟨A, n, c, rfl⟩ := okWide_slice Tryz.underlying23 hv
  obtain ⟨fuel, hf⟩ := h
  exact open_sl Tryz.underlying23 Tryz.underlying76 (by kernel_rfl) (by simpa [Value.cells] using hf)
theorem arg_rat (hv : Value.okWide Tryz.prog w r b0 25 v) (h : DataW.Trod enc Tryz.prog w base (fun _ => true) held 25 v d p) : ∃ q : RQ, v = .agg #[.bool q.s, .slice q.A q.n q.c, .slice q.A' q.n' q.c'] ∧ q.ok w := by
  obtain ⟨cs, rfl, hsz⟩ := okWide_struct Tryz.underlying25 hv
  obtain ⟨fuel, hf⟩ := h
  obtain ⟨q, e, ok⟩ := open_rq rat_ty (by simpa [Value.cells] using hf)
  obtain ⟨l⟩ := cs
  refine ⟨q, ?_, ok⟩
  have e2 : l = q.cells := by simpa using e
  rw [e2]
  rfl
theorem arg_ins (hv : Value.okWide Tryz.prog w r b0 27 v) (h : DataW.Trod enc Tryz.prog w base (fun _ => true) held 27 v d p) : ∃ q : RI, v = .agg #[.int .i64 q.op, .int .i64 q.a, .int .i64 q.b, .bool q.q.s, .slice q.q.A q.q.n q.q.c, .slice q.q.A' q.q.n' q.q.c'] ∧ q.ok w := by
  obtain ⟨cs, rfl, hsz⟩ := okWide_struct Tryz.underlying27 hv
  obtain ⟨fuel, hf⟩ := h
  obtain ⟨q, e, ok⟩ := open_ri ins_ty (by simpa [Value.cells] using hf)
  obtain ⟨l⟩ := cs
  refine ⟨q, ?_, ok⟩
  have e2 : l = q.cells := by simpa using e
  rw [e2]
  rfl
end

end Go.Proofs.YtibgpeaplmcogaaGreatDoor

namespace Go.Proofs.YtibgpeaplmcogaaGreatDoor
set_option maxRecDepth 100000
open Go.RowKit Go.Maps
set_option linter.unusedVariables false
set_option linter.unusedSimpArgs false

/-- a row of ints -/
def ZRow (w : World) (g : Nat) (zs : List Int) : Prop := Box 3 w g (zs.map (Value.int .i64)).toArray
theorem ZRow.set {w : World} {g : Nat} {zs : List Int} (h : ZRow w g zs) (i : Nat) (z : Int) : ZRow (w.setCell ⟨g, i, none⟩ (.int .i64 z)) g (zs.set i z) := by
  unfold ZRow Box at *
  unfold World.setCell
  simp [Array.getElem?_modify, h, List.map_set]
theorem ZRow.cell {w : World} {g : Nat} {zs : List Int} (h : ZRow w g zs) {i : Nat} (hi : i < zs.length) : w.cell? ⟨g, i, none⟩ = some (.int .i64 (zs.getD i 0)) := by
  rw [Box.cell h]
  simp [List.getD, hi]
theorem ZRow.slz {w : World} {g : Nat} {zs : List Int} (h : ZRow w g zs) (hi : ∀ z ∈ zs, I64 z) (hn : zs.length ≤ maxLen) : SlZ w (some ⟨g, 0, none⟩) zs.length zs.length zs := by
  refine ⟨⟨rfl, Nat.le_refl _, hn, fun x hx => ⟨hi x hx, rfl⟩⟩, fun h0 => ⟨g, 0, rfl, Box.lt h, fun j hj i hi2 => ?_⟩⟩
  obtain rfl : i = 0 := by omega
  rw [Nat.zero_add, Nat.mul_one, Nat.add_zero, h.cell hj, List.getElem?_eq_getElem hj]
  simp [List.getD, List.getElem?_eq_getElem hj]
theorem make_ints (w : World) (n : Nat) (hn : n ≤ 1000000) : ∃ w1, (Instr.makeSlice 38 (.int .i64 (n : Int)) (.int .i64 (n : Int))).run Tryz.prog w = .ok (.slice (some ⟨w.heap.size, 0, none⟩) n n) w1 ∧ ZRow w1 w.heap.size (List.replicate n 0) ∧ Below w.heap.size w w1 := by
  refine ⟨_, run_make_row' (P := Tryz.prog) 38 3 (.int .i64 0) 8 Tryz.underlying38 (by kernel_rfl) rfl .i64 .i64 n (by omega) (by omega) w, ?_, below_alloc _ _⟩
  have e : madeCells #[.int .i64 0] n = ((List.replicate n (0 : Int)).map (Value.int .i64)).toArray := by
    apply Array.toList_inj.1
    rw [toList_madeCells_one]
    simp
  unfold ZRow
  rw [e]
  exact Box.new w _ _
theorem setZ_at {zs : List Int} {i : Nat} (hi : i < zs.length) (z : Int) (k : Nat) : (zs.set i z).getD k 0 = if k = i then z else zs.getD k 0 := by
  rw [List.getD_eq_getElem?_getD, List.getElem?_set, List.getD_eq_getElem?_getD]
  by_cases h : i = k
  · subst h; simp [hi]
  · rw [if_neg h, if_neg (fun e => h e.symm)]

set_option maxRecDepth 100000 in
set_option maxHeartbeats 4000000 in
theorem line_newNumbers {w : World} {B : Option Addr} {m d : Nat} {outs : List Int} {mb N : Nat} {th : Int → Bool} {v : Int → Int} (ho : SlZ w B m d outs) (M : MapIs w mb N th v) (hm : m ≤ 65536) :
    Calls Tryz.prog 54 #[.slice B m d, .map (some mb)] w (RetZ (outs.map fun o => if th o = true then v o else -1) w) := by
  have hol : outs.length = m := ho.1.1
  obtain ⟨D, hD, hDm, hM⟩ := M
  obtain ⟨w1, hmk, hz1, b1⟩ := make_ints w m (by omega)
  have hD1 : w1.ownsMap Tryz.prog 3 (plainElem Tryz.prog 3) mb N D := by
    have hlt := hD.lt
    obtain ⟨es, clock, h1, r⟩ := hD
    exact ⟨es, clock, (b1.block mb hlt).trans h1, r⟩
  have hne : mb ≠ w.heap.size := by have := hD.lt; omega
  have HMK := Lib.hid hmk
  have HZ0 := Lib.hid hz1
  have HOL := Lib.hid hol
  have HM := Lib.hid hM
  have HD1 := Lib.hid hD1
  clear hmk hz1 hol hM hD hD1 hDm
  have hmk := HMK.out
  go_enter Tryz.func54, Tryz.ntmps54
  go_wp2_with fail
  clear hmk HMK
  go_loopw [15] (fun iv wr => ∃ (k : Nat) (zs : List Int), k ≤ m ∧ iv = .int .i64 k ∧ Hid (zs.length = m) ∧ Hid (ZRow wr w.heap.size zs) ∧ Hid (wr.ownsMap Tryz.prog 3 (plainElem Tryz.prog 3) mb N D) ∧ Hid (∀ i, i < k → I64 (zs.getD i 0) ∧ zs.getD i 0 = if th (outs.getD i 0) = true then v (outs.getD i 0) else -1) ∧ Below w.heap.size w wr) (fun iv _ => m - mes iv)
  case atStart => exact ⟨0, _, by omega, rfl, Lib.hid (by simp), HZ0, HD1, Lib.hid (fun i hi => absurd hi (by omega)), b1⟩
  case round =>
    clear HZ0 HD1 b1
    obtain ⟨k, zs, hk, rfl, HL, HZ, HD, HT, hb⟩ := hrel
    by_cases hk2 : k < m
    · obtain ⟨b0, off, o, rfl, hlt, hok, hoi, c0⟩ := (ho.below hb).at_ hk2
      have hog : outs.getD k 0 = o := by rw [List.getD_eq_getElem?_getD, hok]; rfl
      obtain ⟨hth, hat0⟩ := HM.out o hoi
      have c1 := HZ.out.cell (i := k) (by have := HL.out; omega)
      have c2 := Box.free HZ.out k
      have hwf := wfI hoi
      have HG := Lib.hid hog
      clear hog hok hoi
      cases hto : th o
      case false =>
        rw [hto] at hth
        have HTO := Lib.hid hto
        have HAT := Lib.hid hat0
        clear hto hat0
        go_wp2_with (at_lookup; refine wpList_lookup_own_ok_int _ rfl _ _ 71 rfl 3 3 .i64 lawI Tryz.underlying71 Tryz.underlying3 (zeroI _) mb N D rfl HD.out (.int .i64 o) _ rfl (keyOf_int_mk Tryz.underlying3 hwf) ?_; intro c9 hat hwc)
        go_roundw
        case rel =>
          refine ⟨k + 1, zs.set k (-1), by omega, by go_num, Lib.hid (by rw [List.length_set]; exact HL.out), Lib.hid (HZ.out.set k _), Lib.hid ?_, Lib.hid (fun i hi => ?_), hb.setCell (p := ⟨w.heap.size, k, none⟩) (Nat.le_refl _) _⟩
          · have hlt9 := HD.out.lt
            obtain ⟨es, clock, h1, r⟩ := HD.out
            exact ⟨es, clock, (((Keep.refl w.heap.size wr).setCell k _).block mb hlt9 hne).trans h1, r⟩
          · rw [setZ_at (by have := HL.out; omega)]
            rcases Nat.lt_or_eq_of_le (Nat.le_of_lt_succ hi) with h9 | h9
            · rw [if_neg (by omega)]; exact HT.out i h9
            · rw [if_pos h9, h9, HG.out, HTO.out]
              rw [if_neg (by decide)]
              exact ⟨by unfold I64; omega, rfl⟩
        case measure => simp [mes, intOf]; omega
      case true =>
        rw [hto] at hth
        have HTO := Lib.hid hto
        have HAT := Lib.hid hat0
        clear hto hat0
        go_wp2_with (at_lookup; refine wpList_lookup_own_ok_int _ rfl _ _ 71 rfl 3 3 .i64 lawI Tryz.underlying71 Tryz.underlying3 (zeroI _) mb N D rfl HD.out (.int .i64 o) _ rfl (keyOf_int_mk Tryz.underlying3 hwf) ?_; intro c9 hat hwc)
        go_roundw
        case rel =>
          refine ⟨k + 1, zs.set k c9, by omega, by go_num, Lib.hid (by rw [List.length_set]; exact HL.out), Lib.hid (HZ.out.set k _), Lib.hid ?_, Lib.hid (fun i hi => ?_), hb.setCell (p := ⟨w.heap.size, k, none⟩) (Nat.le_refl _) _⟩
          · have hlt9 := HD.out.lt
            obtain ⟨es, clock, h1, r⟩ := HD.out
            exact ⟨es, clock, (((Keep.refl w.heap.size wr).setCell k _).block mb hlt9 hne).trans h1, r⟩
          · rw [setZ_at (by have := HL.out; omega)]
            rcases Nat.lt_or_eq_of_le (Nat.le_of_lt_succ hi) with h9 | h9
            · rw [if_neg (by omega)]; exact HT.out i h9
            · rw [if_pos h9, h9, HG.out, HTO.out]
              rw [if_pos rfl]
              have h8 := HAT.out
              rw [HTO.out, if_pos rfl] at h8
              rw [h8] at hat
              injection hat with hat
              injection hat with _ hat
              exact ⟨I64_of_wf hwc, hat.symm⟩
        case measure => simp [mes, intOf]; omega
    · obtain rfl : k = m := by omega
      go_wp2_with fail
      go_ret
      have hzs : zs = outs.map fun o => if th o = true then v o else -1 := by
        apply List.ext_getElem
        · rw [List.length_map, HL.out, HOL.out]
        · intro i h1 h2
          have h3 := (HT.out i (by rw [HL.out] at h1; exact h1)).2
          have h4 : i < outs.length := by rw [HOL.out]; rw [HL.out] at h1; exact h1
          rw [List.getD_eq_getElem?_getD, List.getElem?_eq_getElem h1, List.getD_eq_getElem?_getD, List.getElem?_eq_getElem h4] at h3
          rw [List.getElem_map]
          exact h3
      have hl := HL.out
      refine ⟨_, _, _, rfl, ?_, hb⟩
      rw [← hzs]
      have hsz := HZ.out.slz (fun z hz => by
        obtain ⟨i, hi⟩ := List.mem_iff_getElem?.1 hz
        have hil : i < zs.length := by
          rcases Nat.lt_or_ge i zs.length with h9 | h9
          · exact h9
          · rw [List.getElem?_eq_none h9] at hi; cases hi
        have h3 := (HT.out i (by omega)).1
        rw [List.getD_eq_getElem?_getD, hi] at h3
        exact h3) (by unfold maxLen; omega)
      rw [hl] at hsz
      exact hsz

end Go.Proofs.YtibgpeaplmcogaaGreatDoor

namespace Go.Proofs.YtibgpeaplmcogaaGreatDoor
set_option maxRecDepth 100000
set_option linter.unusedVariables false
set_option linter.unusedSimpArgs false

/-! ### the text of a number -/
/-! ### digits of a given number of places -/
/-! ### reading -/
def rd (l : List UInt8) : Nat := l.foldl (fun v c => v * 10 + (c.toNat - 48)) 0
/-! ### lengths and order -/
/-! ### groups of nineteen digits -/
def B : Nat := 10000000000000000000
/-! ### by ten, half word by half word -/
end Go.Proofs.YtibgpeaplmcogaaGreatDoor

namespace Go.Proofs.YtibgpeaplmcogaaGreatDoor
set_option maxRecDepth 100000
open Go.RowKit
set_option linter.unusedVariables false
set_option linter.unusedSimpArgs false

end Go.Proofs.YtibgpeaplmcogaaGreatDoor

namespace Go.Proofs.YtibgpeaplmcogaaGreatDoor
set_option maxRecDepth 100000
open Go.RowKit
set_option linter.unusedVariables false
set_option linter.unusedSimpArgs false

theorem Own.below {t : TypeId} {base : Nat} {w w' : World} {v : Value} {zs : List Int} (h : Own t base w v zs) (hb : Below w.heap.size w w') : Own t base w' v zs := by
  obtain ⟨h1, h2⟩ := h
  refine ⟨h1, ?_⟩
  rcases h2 with h2 | ⟨g, cap, cur, hv, hg, hh, r⟩
  · exact .inl h2
  · have hlt : g < w.heap.size := by
      rcases Nat.lt_or_ge g w.heap.size with h9 | h9
      · exact h9
      · rw [Array.getElem?_eq_none h9] at hh; cases hh
    exact .inr ⟨g, cap, cur, hv, hg, (hb.block g hlt).trans hh, r⟩
theorem Own.lit {w w1 : World} {t : TypeId} (hs : w.heap.size ≤ w1.heap.size) (x : Int) : Own t w.heap.size (w1.alloc (.cells #[.int .u64 x] t)) (.slice (some ⟨w1.heap.size, 0, none⟩) 1 1) [x] :=
  ⟨rfl, .inr ⟨w1.heap.size, 1, _, rfl, hs, heap_alloc_new w1 _, Nat.le_refl _, by unfold maxLen; omega, rfl, rfl⟩⟩
/-- a slice apart from the row that grows -/
theorem Sl.grown {w w1 : World} {o : Obj} {r : Option Nat} {A : Option Addr} {n c : Nat} {xs : List Int} (s : Sl w A n c xs) (hg : (w.alloc o).grownBy w1 r) (hne : ∀ b off, A = some ⟨b, off, none⟩ → some b ≠ r) : Sl w1 A n c xs := by
  refine ⟨s.1, fun h0 => ?_⟩
  obtain ⟨b, off, e, hlt, hc⟩ := s.2 h0
  have hsz := hg.size
  refine ⟨b, off, e, by simp at hsz; omega, fun j hj => ?_⟩
  have hbl := hg.block b (by simp; omega) (hne b off e)
  have e1 : w1.cell? ⟨b, off + j, none⟩ = (w.alloc o).cell? ⟨b, off + j, none⟩ := World.cell?_of_block (a := ⟨b, off + j, none⟩) hbl
  rw [e1, World.cell?_alloc_past _ _ _ hlt]
  exact hc j hj

end Go.Proofs.YtibgpeaplmcogaaGreatDoor

namespace Go.Proofs.YtibgpeaplmcogaaGreatDoor
set_option maxRecDepth 100000
open Go.RowKit
set_option linter.unusedVariables false
set_option linter.unusedSimpArgs false

/-- block g begins with the integers zs, none frozen -/
def Cl (k : IntKind) (w : World) (g : Nat) (zs : List Int) : Prop := ∀ j, j < zs.length → w.cell? ⟨g, j, none⟩ = some (.int k (zs.getD j 0)) ∧ w.frozen? ⟨g, j, none⟩ = false
theorem Cl.set {k : IntKind} {w : World} {g : Nat} {zs : List Int} (h : Cl k w g zs) (i : Nat) (hi : i < zs.length) (u : Int) : Cl k (w.setCell ⟨g, i, none⟩ (.int k u)) g (zs.set i u) := by
  intro j hj
  rw [List.length_set] at hj
  refine ⟨?_, by rw [World.frozen?_setCell]; exact (h j hj).2⟩
  by_cases e : i = j
  · subst e
    rw [World.cell?_setCell_same _ _ _ (h i hi).1, getD_set_self _ hi]
  · rw [World.cell?_setCell_other _ _ _ _ (by intro e2; injection e2 with _ e3; exact e e3), getD_set_ne _ e]
    exact (h j hj).1
theorem Cl.below {k : IntKind} {w w' : World} {g : Nat} {zs : List Int} (h : Cl k w g zs) (hb : Below w.heap.size w w') (hg : g < w.heap.size) : Cl k w' g zs := by
  intro j hj
  exact ⟨(hb.cell (p := ⟨g, j, none⟩) hg).trans (h j hj).1, (hb.frozen (p := ⟨g, j, none⟩) hg).trans (h j hj).2⟩
end Go.Proofs.YtibgpeaplmcogaaGreatDoor

namespace Go.Proofs.YtibgpeaplmcogaaGreatDoor
set_option maxRecDepth 100000
open Go.RowKit
set_option linter.unusedVariables false
set_option linter.unusedSimpArgs false

/-- the digits so far -/
def DigTo (s : ByteArray) (k : Nat) : Prop := ∀ j (hj : j < s.size), j < k → 48 ≤ s[j].toNat ∧ s[j].toNat ≤ 57
theorem DigTo.step {s : ByteArray} {k : Nat} (h : DigTo s k) (hk : k < s.size) (h1 : ¬ s[k].toNat < 48) (h2 : ¬ 57 < s[k].toNat) : DigTo s (k + 1) := fun j hj hjk => by
  by_cases e : j = k
  · subst e; omega
  · exact h j hj (by omega)


end Go.Proofs.YtibgpeaplmcogaaGreatDoor

namespace Go.Proofs.YtibgpeaplmcogaaGreatDoor
set_option maxRecDepth 100000
open Go.RowKit
set_option linter.unusedVariables false
set_option linter.unusedSimpArgs false

/-- whether a text is a number's -/
def numB (l : List UInt8) : Bool := !l.isEmpty && (!(l.head? == some 48) || l == [48]) && l.all fun c => decide (48 ≤ c.toNat ∧ c.toNat ≤ 57)
/-- the number that is read, and the error's number -/
def rdv (l : List UInt8) : Nat := if decide (l.length ≤ 400) && numB l then rd l else 0
def rde (l : List UInt8) : Int := if 400 < l.length then 3 else if numB l then 0 else 2
/-- a call that returns the number of a text, or why it is none -/
def RetRd (l : List UInt8) (w : World) (e : Ending) (w' : World) : Prop := ∃ A n c, e = .returned (.tuple #[.slice A n c, .int .i64 (rde l)]) ∧ Sl w' A n c (words (rdv l)) ∧ Below w.heap.size w w'
theorem RetRd.of {l : List UInt8} {w w' : World} {A : Option Addr} {n c v : Nat} {x : Int} (h : rdv l = v ∧ rde l = x) (s : Sl w' A n c (words v)) (b : Below w.heap.size w w') : RetRd l w (.returned (.tuple #[.slice A n c, .int .i64 x])) w' := by
  obtain ⟨rfl, rfl⟩ := h
  exact ⟨A, n, c, rfl, s, b⟩
end Go.Proofs.YtibgpeaplmcogaaGreatDoor

namespace Go.Proofs.YtibgpeaplmcogaaGreatDoor
set_option maxRecDepth 100000
set_option linter.unusedVariables false
set_option linter.unusedSimpArgs false

/-- what precedes the first / and what follows it -/
def above (l : List UInt8) : List UInt8 := l.takeWhile (· != 47)
def behind (l : List UInt8) : List UInt8 := if l.contains 47 then (l.dropWhile (· != 47)).drop 1 else [49]
end Go.Proofs.YtibgpeaplmcogaaGreatDoor

namespace Go.Proofs.YtibgpeaplmcogaaGreatDoor
set_option maxRecDepth 100000
open Go.RowKit
set_option linter.unusedVariables false
set_option linter.unusedSimpArgs false

end Go.Proofs.YtibgpeaplmcogaaGreatDoor

namespace Go.Proofs.YtibgpeaplmcogaaGreatDoor
set_option maxRecDepth 100000
open Go.RowKit
set_option linter.unusedVariables false
set_option linter.unusedSimpArgs false

set_option maxRecDepth 100000 in
set_option maxHeartbeats 4000000 in
theorem pw_bits {w : World} {s : Bool} {A A' : Option Addr} {n n' c c' N : Nat} {X : Rat} (h : Q w s A n c A' n' c' X) (hX : Sz X N) (hN : N ≤ 400) :
    Calls Tryz.prog 59 #[.agg #[.bool s, .slice A n c, .slice A' n' c']] w (RetI (max (blen X.num.natAbs : Int) (blen X.den)) w) := by
  obtain ⟨V, hW, Ba, hb0⟩ := box0 25 w #[.bool s, .slice A n c, .slice A' n' c']
  have l1 : n ≤ N := h.2.1.small hX.1
  have l2 : n' ≤ N := h.2.2.small hX.2
  have h1 := h.2.1.below hb0
  have h2 := h.2.2.below hb0
  have N1 := fun (w1 : World) (x : Sl w1 A n c (words X.num.natAbs)) => nat_bits x (by omega)
  have N2 := fun (w1 : World) (x : Sl w1 A' n' c' (words X.den)) => nat_bits x (by omega)
  simp only [val_words] at N1 N2
  have hS : ∀ w', Below V.heap.size V w' → w'.cell? ⟨w.heap.size, 0, none⟩ = some (.bool s) ∧ w'.cell? ⟨w.heap.size, 1, none⟩ = some (.slice A n c) ∧ w'.cell? ⟨w.heap.size, 2, none⟩ = some (.slice A' n' c') := fun w' hb => (Ba.below' hb).three.1
  generalize ((blen X.num.natAbs : Nat) : Int) = p at *
  generalize ((blen X.den : Nat) : Int) = q at *
  have HN1 := Lib.hid N1
  have HN2 := Lib.hid N2
  have HS := Lib.hid hS
  have HW := Lib.hid hW
  clear N1 N2 hS Ba hW h hX
  rcases Int.lt_trichotomy p q with hle | rfl | hle
  all_goals
    first | rw [show max p p = p by omega] | rw [show max p q = q by omega] | rw [show max p q = p by omega]
    go_enter Tryz.func59, Tryz.ntmps59
    go_wp2_with fail
    rw [HW.out]
    obtain ⟨k0, k1, k2⟩ := HS.out _ (Below.refl _ V)
    go_region_held3 (fun w' => w'.cell? ⟨w.heap.size, 0, none⟩ = some (.bool s) ∧ w'.cell? ⟨w.heap.size, 1, none⟩ = some (.slice A n c) ∧ w'.cell? ⟨w.heap.size, 2, none⟩ = some (.slice A' n' c')) (exact HS.out _ (Below.refl _ V).drew)
      (first
        | (go_at_call 86; (with_reducible refine (HN1.out _ ?hz1).mono ?_); (case hz1 => exact h1); rintro _ _ ⟨rfl, rfl⟩)
        | (go_at_call 86; (with_reducible refine (HN2.out _ ?hz2).mono ?_); (case hz2 => exact h2); rintro _ _ ⟨rfl, rfl⟩))
    all_goals
      go_wp2_with fail
      go_ret
      exact ⟨rfl, hb0.drew⟩

end Go.Proofs.YtibgpeaplmcogaaGreatDoor

namespace Go.Proofs.YtibgpeaplmcogaaGreatDoor
set_option maxRecDepth 100000
open Go.RowKit
set_option linter.unusedVariables false
set_option linter.unusedSimpArgs false

/-- the values, or the number of the instruction and the error -/
def RetEx (r : Except (Nat × Int) (List Rat)) (w : World) (e : Ending) (w' : World) : Prop := match r with
  | .ok v => (∃ A n c, e = .returned (.tuple #[.slice A n c, .int .i64 0, .int .i64 0]) ∧ SlQ w' A n c v) ∧ Below w.heap.size w w'
  | .error (i, k) => e = .returned (.tuple #[.slice none 0 0, .int .i64 (i : Int), .int .i64 k]) ∧ Below w.heap.size w w'
noncomputable def exAll (l : List PI) (p q : Bool) (ins forms : List Rat) : Except (Nat × Int) (List Rat) :=
  if progB l = true ∧ p = true ∧ q = true then evTo (exSt ins forms l) l l.length else .error (0, 1)
theorem exAll_no {l : List PI} {p q : Bool} {ins forms : List Rat} (h : ¬ (progB l = true ∧ p = true ∧ q = true)) : exAll l p q ins forms = .error (0, 1) := by unfold exAll; rw [if_neg h]
theorem exAll_yes {l : List PI} {ins forms : List Rat} (h : progB l = true) : exAll l true true ins forms = evTo (exSt ins forms l) l l.length := by unfold exAll; rw [if_pos ⟨h, rfl, rfl⟩]
theorem news_new (w : World) (cs : Array Value) (t : TypeId) : ∀ (j : Nat) (u : Value), cs.toList[j]? = some u → (w.alloc (.cells cs t)).cell? ((⟨w.heap.size, 0, none⟩ : Addr).add j) = some u := by
  intro j u hj
  have e1 : (⟨w.heap.size, 0, none⟩ : Addr).add j = ⟨w.heap.size, j, none⟩ := by
    unfold Addr.add; split
    · rename_i h9; rw [h9]
    · rw [Nat.zero_add]
  rw [e1, cell_of_row _ w.heap.size j cs t (0, 0) (heap_alloc_new w _)]
  simpa using hj
theorem OwnC.base {k : Nat} {V : Type} {cells : V → List Value} {t : TypeId} {B : Nat} {w : World} {v : Value} {xs : List V} (h : OwnC k cells t B w v xs) : ∀ g, v.ownBlock = some g → B ≤ g := by
  intro g hg
  rcases h.2 with ⟨rfl, rfl⟩ | ⟨g', cap, cur, rfl, h1, _⟩
  · cases hg
  · have e : g' = g := by simpa [Value.ownBlock] using hg
    rw [← e]; exact h1
theorem SlQ.tail {w : World} {b off l f : Nat} {Xs : List Rat} (h : SlQ w (some ⟨b, off, none⟩) l f Xs) (h0 : 0 < l) : SlQ w (some ⟨b, off + 3, none⟩) (l - 1) (f - 1) (Xs.drop 1) := by
  obtain ⟨xs, h1, h2, h3⟩ := h
  have hl := h1.1.1
  obtain ⟨b', off', e, hlt, hc⟩ := h1.2 h0
  injection e with e
  injection e with e1 e2
  subst e1 e2
  refine ⟨xs.drop 1, ⟨⟨by rw [List.length_drop, hl], by have := h1.1.2.1; omega, by have := h1.1.2.2.1; omega, fun x hx => h1.1.2.2.2 x (List.mem_of_mem_drop hx)⟩, fun h9 => ⟨b, off + 3, rfl, hlt, fun j hj i hi => ?_⟩⟩, by rw [List.length_drop, List.length_drop, h2], fun j x hx => ?_⟩
  · have := hc (j + 1) (by omega) i hi
    rw [List.getElem?_drop, Nat.add_comm 1 j, ← this]
    congr 2
    omega
  · rw [List.getElem?_drop] at hx
    have := h3 _ x hx
    rw [List.getD_eq_getElem?_getD, List.getElem?_drop, ← List.getD_eq_getElem?_getD]
    exact this

theorem SlQ.tail1 {w : World} {A A' : Option Addr} {f c : Nat} {Xs : List Rat} (h : SlQ w A 1 f Xs) (hc : c ≤ 1 := by omega) : SlQ w A' 0 c (Xs.drop 1) := by
  have hl := h.len
  have e : Xs.drop 1 = [] := List.eq_nil_of_length_eq_zero (by rw [List.length_drop]; omega)
  rw [e]
  exact ⟨[], ⟨⟨rfl, Nat.zero_le _, by unfold maxLen; omega, by simp⟩, fun h0 => absurd h0 (by omega)⟩, rfl, fun j x hx => by simp at hx⟩

set_option maxRecDepth 100000 in
set_option maxHeartbeats 4000000 in
theorem ev_exact {w : World} {A B C : Option Addr} {n c m d k f : Nat} {xs : List RI} {is fs : List RQ} (h : SlP w A n c xs) (hs : Shrt 64 xs) (hi : SlR w B m d is) (his : ∀ x ∈ is, x.n ≤ 64 ∧ x.n' ≤ 64) (hf : SlR w C k f fs) (hfs : ∀ x ∈ fs, x.n ≤ 64 ∧ x.n' ≤ 64) (hn : n ≤ 300) (hm : m ≤ 1000) (hk : k ≤ 1000) :
    Calls Tryz.prog 35 #[.slice A n c, .slice B m d, .slice C k f] w (RetEx (exAll (xs.map RI.pi) (allR is) (allR fs) (qvs is) (qvs fs)) w) := by
  have hlen : (xs.map RI.pi).length = n := by rw [List.length_map]; exact h.1.1
  have P1 := line_right h hs (by omega) (by omega)
  have P2 := fun (w1 : World) (hb : Below w.heap.size w w1) => ev_allRight (hi.below hb) his (by omega) (by omega)
  have P3 := fun (w1 : World) (hb : Below w.heap.size w w1) => ev_allRight (hf.below hb) hfs (by omega) (by omega)
  have hsi := fun hh => slq_of hi his hh
  have hsf := fun hh => slq_of hf hfs hh
  have hp := progB_iff (xs.map RI.pi)
  have hexy := fun hh => @exAll_yes (xs.map RI.pi) (qvs is) (qvs fs) hh
  have hexn := fun hh => @exAll_no (xs.map RI.pi) (allR is) (allR fs) (qvs is) (qvs fs) hh
  have HP1 := Lib.hid P1
  have HP2 := Lib.hid P2
  have HP3 := Lib.hid P3
  clear P1 P2 P3
  generalize qvs is = Is at *
  generalize qvs fs = Fs at *
  generalize progB (xs.map RI.pi) = p at *
  generalize allR is = p2 at *
  generalize allR fs = p3 at *
  cases p
  case false =>
    rw [hexn (by simp)]
    clear hexn hexy hsi hsf hp
    go_enter Tryz.func35, Tryz.ntmps35
    go_wp2_with fail
    with_reducible refine HP1.out.mono ?_
    rintro _ w1 ⟨rfl, b1⟩
    go_wp2_with fail
    go_ret3
    exact ⟨rfl, b1⟩
  case true =>
  cases p2
  case false =>
    rw [hexn (by simp)]
    clear hexn hexy hsi hsf hp
    go_enter Tryz.func35, Tryz.ntmps35
    go_wp2_with fail
    with_reducible refine HP1.out.mono ?_
    rintro _ w1 ⟨rfl, b1⟩
    go_wp2_with fail
    with_reducible refine (HP2.out _ b1).mono ?_
    rintro _ w2 ⟨rfl, b2⟩
    go_wp2_with fail
    go_ret3
    exact ⟨rfl, bb b1 b2⟩
  case true =>
  cases p3
  case false =>
    rw [hexn (by simp)]
    clear hexn hexy hsi hsf hp
    go_enter Tryz.func35, Tryz.ntmps35
    go_wp2_with fail
    with_reducible refine HP1.out.mono ?_
    rintro _ w1 ⟨rfl, b1⟩
    go_wp2_with fail
    with_reducible refine (HP2.out _ b1).mono ?_
    rintro _ w2 ⟨rfl, b2⟩
    go_wp2_with fail
    with_reducible refine (HP3.out _ (bb b1 b2)).mono ?_
    rintro _ w3 ⟨rfl, b3⟩
    go_wp2_with fail
    go_ret3
    exact ⟨rfl, bb b1 (bb b2 b3)⟩
  case true =>
  rw [hexy rfl, hlen]
  have HL := Lib.hid hlen
  clear hlen
  obtain ⟨qi, zi⟩ := hsi rfl
  obtain ⟨qf, zf⟩ := hsf rfl
  have hprog := hp.1 rfl
  clear hexn hexy hsi hsf hp hi hf his hfs
  obtain ⟨R, hR⟩ : ∃ R, R = evTo (exSt Is Fs (xs.map RI.pi)) (xs.map RI.pi) n := ⟨_, rfl⟩
  rw [← hR]
  have HR := Lib.hid hR
  clear hR
  obtain ⟨i0, hi0, hz0, hz1, hz2⟩ := info_parts infoQ
  go_enter Tryz.func35, Tryz.ntmps35
  go_wp2_with fail
  with_reducible refine HP1.out.mono ?_
  rintro _ w1 ⟨rfl, b1⟩
  go_wp2_with fail
  with_reducible refine (HP2.out _ b1).mono ?_
  rintro _ w2 ⟨rfl, b2⟩
  go_wp2_with fail
  with_reducible refine (HP3.out _ (bb b1 b2)).mono ?_
  rintro _ w3 ⟨rfl, b3⟩
  have y3 := bb b1 (bb b2 b3)
  clear b1 b2 b3 HP1 HP2 HP3
  obtain ⟨w4, hmk, ho4, b4⟩ := make_C (cells := RQ.cells) 47 25 _ 56 Tryz.underlying47 infoQ zeroQ rfl (by omega) w3 n (by omega) (by omega)
  have y4 : Below w.heap.size w w4 := bb y3 b4
  have HO := Lib.hid (show OwnQ w.heap.size w4 (.slice (some ⟨w3.heap.size, 0, none⟩) 0 n) [] from ⟨[], ⟨ho4.1, ho4.2.imp id (fun ⟨g, cap, cur, a1, a2, a3⟩ => ⟨g, cap, cur, a1, Nat.le_trans y3.size a2, a3⟩)⟩, rfl, fun j x hx => by simp at hx⟩)
  clear ho4
  go_wp2_with fail
  have HQI := Lib.hid qi
  have HQF := Lib.hid qf
  have HPR := Lib.hid hprog
  have HSH := Lib.hid hs
  have hQl := qf.len
  have HQL := Lib.hid hQl
  clear qi qf hprog hs hmk hQl
  go_loopw [2, 9, 32] (fun fv vv iv wr => ∃ (j : Nat) (v : List Rat) (C' : Option Addr) (l' f' : Nat), j ≤ n ∧ iv = .int .i64 j ∧ fv = .slice C' l' f' ∧ Hid (SlQ w C' l' f' (Fs.drop (countTo isF (xs.map RI.pi) j))) ∧ Hid (OwnQ w.heap.size wr vv v) ∧ Hid (evTo (exSt Is Fs (xs.map RI.pi)) (xs.map RI.pi) j = .ok v) ∧ Hid (AllSz 64 v) ∧ Below w.heap.size w wr) (fun _ _ iv _ => n - mes iv)
  case atStart => exact ⟨0, [], C, k, f, by omega, rfl, rfl, HQF, HO, Lib.hid rfl, Lib.hid (fun X hX => by simp at hX), y4⟩
  case round =>
    clear HO y3 y4 b4
    obtain ⟨j, v, C', l', f', hj, rfl, rfl, HF, HV, HE, HZ, hb⟩ := hrel
    have hvl : v.length = j := evTo_len HE.out
    obtain ⟨A', c', ev⟩ := HV.out.form
    rw [hvl] at ev
    subst ev
    have HVL := Lib.hid hvl
    clear hvl
    by_cases hj2 : j < n
    · obtain ⟨b0, off, x, rfl, hlt, hxk, hok, c0, c1, c2, c3, c4, c5⟩ := (h.below hb).at_ hj2
      have hp := pi_at hxk
      have hfit : fits vq nq x.pi j := by rw [← hp]; exact HPR.out.1 j (by rw [HL.out]; exact hj2)
      obtain ⟨hx1, hx2⟩ := HSH.out x (mem_at hxk)
      obtain ⟨V, hW, Bx, hb1⟩ := box0 27 wr #[.int .i64 x.op, .int .i64 x.a, .int .i64 x.b, .bool x.q.s, .slice x.q.A x.q.n x.q.c, .slice x.q.A' x.q.n' x.q.c']
      have zf' : AllSz 64 (Fs.drop (countTo isF (xs.map RI.pi) j)) := fun X hX => zf X (List.mem_of_mem_drop hX)
      have hl' : l' ≤ 1000 := by have := HF.out.len; rw [List.length_drop] at this; have := HQL.out; omega
      have EV := ev_value (RI.below hok hb1) (HV.out.slq.below hb1) (HQI.out.below (bb hb hb1)) (HF.out.below (bb hb hb1)) HZ.out zi zf' (by omega) (by omega) (by omega) hx1 hx2 hfit
      obtain ⟨r, hr⟩ : ∃ r, raw Is (Fs.drop (countTo isF (xs.map RI.pi) j)) x.pi v = r := ⟨_, rfl⟩
      rw [hr] at EV
      have hst : exSt Is Fs (xs.map RI.pi) j ((xs.map RI.pi).getD j PI.nil) v = big r := by rw [hp]; unfold exSt; rw [hr]
      have hsz : ∀ X, r = .ok X → Sz X 130 := fun X hX => raw_sz (by rw [hr, hX]) hfit HVL.out.symm HZ.out zi zf' (fun h2 => by
        have h3 : fits vq nq ⟨x.op, x.a, x.b, (x.q.s, x.q.z, x.q.z')⟩ j := hfit
        have h2' : x.op = 2 := h2
        rw [h2'] at h3
        obtain ⟨Y, g1, g2, g3⟩ := right_Q hok.2.2.2.1 hok.2.2.2.2.1 hx1 hx2 (fit_const h3)
        show Sz (rq x.q.s (val x.q.z) (val x.q.z')) 64
        rw [← g3]; exact g2)
      have hre : ∀ e, r = .error e → e = 4 ∨ e = 6 ∨ e = 11 := fun e he => raw_err (hr.trans he)
      have hgf : isF ((xs.map RI.pi).getD j PI.nil) = isForm x.op := by rw [hp]; rfl
      have hlp : isForm x.op = true → ∀ X, r = .ok X → 0 < l' := fun hf X hX => by
        rw [HF.out.len]
        rcases Nat.eq_zero_or_pos (Fs.drop (countTo isF (xs.map RI.pi) j)).length with h9 | h9
        · have h8 : raw Is (Fs.drop (countTo isF (xs.map RI.pi) j)) x.pi v = .error 6 := raw_form_no hf (by omega)
          rw [hr, hX] at h8; cases h8
        · exact h9
      have HEV := Lib.hid EV
      have HST := Lib.hid hst
      have HBx := Lib.hid Bx
      have HW := Lib.hid hW
      have HGF := Lib.hid hgf
      clear EV hst hW Bx hr hfit hp hok hx1 hx2 zf' hxk hgf
      cases r with
      | error e =>
        have hRR : R = .error (j, e) := by rw [HR.out]; exact evTo_err (evTo_stop HE.out HST.out) n (by omega)
        subst hRR
        rcases hre e rfl with rfl | rfl | rfl
        all_goals
          clear hre hsz hlp
          go_wp2_with fail
          rw [HW.out]
          with_reducible refine HEV.out.mono ?_
          rintro _ w1 ⟨rfl, b1⟩
          go_wp2_with fail
          go_ret3
          exact ⟨rfl, (bb hb (bb hb1 b1)).alloc (bb hb (bb hb1 b1)).size _⟩
      | ok X =>
        have hX := hsz X rfl
        have hl1 := fun hh => hlp hh X rfl
        clear hre hsz hlp
        by_cases hbig : 4096 < bitsQ X
        · have hRR : R = .error (j, 5) := by rw [HR.out]; exact evTo_err (evTo_stop HE.out (HST.out.trans (big_no hbig))) n (by omega)
          subst hRR
          unfold bitsQ at hbig
          go_wp2_with fail
          rw [HW.out]
          with_reducible refine HEV.out.mono ?_
          rintro _ w1 ⟨s1, A1, n1, c1', A2, n2, c2', rfl, q1, b1⟩
          obtain ⟨V2, hW2, Bv, hb2⟩ := box0 25 w1 #[.bool s1, .slice A1 n1 c1', .slice A2 n2 c2']
          have PB := pw_bits (q1.below hb2) hX (by omega)
          generalize max (blen X.num.natAbs : Int) (blen X.den) = t at *
          have HPB := Lib.hid PB
          have HW2 := Lib.hid hW2
          clear PB hW2 Bv
          go_wp2_with fail
          rw [HW2.out]
          with_reducible refine HPB.out.mono ?_
          rintro _ w2 ⟨rfl, b2⟩
          go_wp2_with fail
          go_ret3
          exact ⟨rfl, bb hb (bb hb1 (bb b1 (bb hb2 b2)))⟩
        · have hst2 := HST.out.trans (big_yes hbig)
          have hev2 := evTo_step HE.out hst2
          have hz2' := HZ.out.snoc (sz_of_bits hbig)
          have HEV2 := Lib.hid hev2
          have HZ2 := Lib.hid hz2'
          clear hst2 hev2 hz2' HST
          unfold bitsQ at hbig
          go_wp2_with fail
          rw [HW.out]
          with_reducible refine HEV.out.mono ?_
          rintro _ w1 ⟨s1, A1, n1, c1', A2, n2, c2', rfl, q1, b1⟩
          obtain ⟨V2, hW2, Bv, hb2⟩ := box0 25 w1 #[.bool s1, .slice A1 n1 c1', .slice A2 n2 c2']
          have PB := pw_bits (q1.below hb2) hX (by omega)
          generalize max (blen X.num.natAbs : Int) (blen X.den) = t at *
          have HPB := Lib.hid PB
          have HW2 := Lib.hid hW2
          have HBv := Lib.hid Bv
          clear PB hW2 Bv
          go_wp2_with fail
          rw [HW2.out]
          with_reducible refine HPB.out.mono ?_
          rintro _ w2 ⟨rfl, b2⟩
          have z1 : Below V.heap.size V w2 := bb b1 (bb hb2 b2)
          obtain ⟨k0, k1, k2, k3, k4, k5⟩ := (HBx.out.below' z1).six.1
          obtain ⟨p0, p1, p2⟩ := (HBv.out.below' b2).three.1
          have FO := Lib.hid (line_form x.op w2)
          have q2 := (q1.below hb2).below b2
          obtain ⟨vs, o1, o2, o3⟩ := HV.out.below (bb hb1 z1)
          have y2 : Below w.heap.size w w2 := bb hb (bb hb1 z1)
          have hgf := HGF.out
          have hvs : vs.length = j := by rw [o2]; exact HVL.out
          have hok2 : (⟨s1, A1, n1, c1', (words X.num.natAbs), A2, n2, c2', (words X.den)⟩ : RQ).ok w2 := ⟨q2.2.1, q2.2.2, show n1 ≤ maxLen by have := q2.2.1.small hX.1; unfold maxLen; omega, show n2 ≤ maxLen by have := q2.2.2.small hX.2; unfold maxLen; omega⟩
          generalize isForm x.op = fm at *
          have HO1 := Lib.hid o1
          have HO2 := Lib.hid o2
          have HO3 := Lib.hid o3
          have HVS := Lib.hid hvs
          have HQ2 := Lib.hid q2
          have HOK := Lib.hid hok2
          have HG2 := Lib.hid hgf
          clear o1 o2 o3 hvs q2 hok2 hgf HEV HPB HGF HV HE HZ HBv HBx q1 hX
          cases fm
          case false =>
            go_wp2_with fail
            with_reducible refine FO.out.mono ?_
            rintro _ w3 ⟨rfl, rfl⟩
            go_wp2_with (at_builtin; refine wpList_append_C _ rfl _ _ 47 rfl w.heap.size 25 i0 _ 56 Tryz.underlying47 hi0 hz0 hz1 hz2 rfl (by decide) zeroQ _ vs rfl (HO1.out.below (below_alloc _ _)) ⟨w2.heap.size, 0, none⟩ 1 (⟨s1, A1, n1, c1', (words X.num.natAbs), A2, n2, c2', (words X.den)⟩ : RQ) rfl rfl ?c1 (rq_one _) (rq_noW _) ?c3 ?c4 ?c5 ?_)
            case c1 => exact news_new w2 _ _
            case c3 => have := HVS.out; unfold maxLen; omega
            case c4 => have := HVS.out; omega
            case c5 => have := y2.size; simp; omega
            intro v' w4 hown hgrow
            have hbn := (y2.alloc y2.size _).grown hgrow (by have := y2.size; simp; omega) (HO1.out.base)
            have HOQ := Lib.hid (OwnQ.append HO1.out HO2.out HO3.out HOK.out HQ2.out hown hgrow)
            clear hown hgrow
            go_wp2_with fail
            go_roundw
            case rel => exact ⟨j + 1, v ++ [X], C', l', f', by omega, by go_num, rfl, Lib.hid (by rw [forms_same HG2.out]; exact HF.out), HOQ, HEV2, HZ2, hbn⟩
            case measure => simp [mes, intOf]; omega
          case true =>
            have hl2 := hl1 rfl
            obtain ⟨bf, off2, ef⟩ : ∃ bf off2, C' = some ⟨bf, off2, none⟩ := by
              obtain ⟨xs2, g1, g2, g3⟩ := HF.out
              obtain ⟨bf, off2, ef, _, _⟩ := g1.2 hl2
              exact ⟨bf, off2, ef⟩
            subst ef
            have hcf : l' ≤ f' := by
              obtain ⟨xs2, g1, g2, g3⟩ := HF.out
              exact g1.1.2.1
            have hcf2 : (f' = 1 ∧ l' = 1) ∨ 1 < f' := by omega
            rcases hcf2 with ⟨rfl, rfl⟩ | hcf2
            · go_wp2_with fail
              with_reducible refine FO.out.mono ?_
              rintro _ w3 ⟨rfl, rfl⟩
              go_wp2_with (at_builtin; refine wpList_append_C _ rfl _ _ 47 rfl w.heap.size 25 i0 _ 56 Tryz.underlying47 hi0 hz0 hz1 hz2 rfl (by decide) zeroQ _ vs rfl (HO1.out.below (below_alloc _ _)) ⟨w2.heap.size, 0, none⟩ 1 (⟨s1, A1, n1, c1', (words X.num.natAbs), A2, n2, c2', (words X.den)⟩ : RQ) rfl rfl ?c1 (rq_one _) (rq_noW _) ?c3 ?c4 ?c5 ?_)
              case c1 => exact news_new w2 _ _
              case c3 => have := HVS.out; unfold maxLen; omega
              case c4 => have := HVS.out; omega
              case c5 => have := y2.size; simp; omega
              intro v' w4 hown hgrow
              have hbn := (y2.alloc y2.size _).grown hgrow (by have := y2.size; simp; omega) (HO1.out.base)
              have HOQ := Lib.hid (OwnQ.append HO1.out HO2.out HO3.out HOK.out HQ2.out hown hgrow)
              clear hown hgrow
              go_wp2_with fail
              go_roundw
              case rel => exact ⟨j + 1, v ++ [X], _, _, _, by omega, by go_num, rfl, Lib.hid (by rw [forms_next HG2.out]; exact HF.out.tail1), HOQ, HEV2, HZ2, hbn⟩
              case measure => simp [mes, intOf]; omega
            · go_wp2_with fail
              with_reducible refine FO.out.mono ?_
              rintro _ w3 ⟨rfl, rfl⟩
              go_wp2_with (at_builtin; refine wpList_append_C _ rfl _ _ 47 rfl w.heap.size 25 i0 _ 56 Tryz.underlying47 hi0 hz0 hz1 hz2 rfl (by decide) zeroQ _ vs rfl (HO1.out.below (below_alloc _ _)) ⟨w2.heap.size, 0, none⟩ 1 (⟨s1, A1, n1, c1', (words X.num.natAbs), A2, n2, c2', (words X.den)⟩ : RQ) rfl rfl ?c1 (rq_one _) (rq_noW _) ?c3 ?c4 ?c5 ?_)
              case c1 => exact news_new w2 _ _
              case c3 => have := HVS.out; unfold maxLen; omega
              case c4 => have := HVS.out; omega
              case c5 => have := y2.size; simp; omega
              intro v' w4 hown hgrow
              have hbn := (y2.alloc y2.size _).grown hgrow (by have := y2.size; simp; omega) (HO1.out.base)
              have HOQ := Lib.hid (OwnQ.append HO1.out HO2.out HO3.out HOK.out HQ2.out hown hgrow)
              clear hown hgrow
              go_wp2_with fail
              go_roundw
              case rel => exact ⟨j + 1, v ++ [X], _, _, _, by omega, by go_num, rfl, Lib.hid (by rw [forms_next HG2.out]; exact HF.out.tail hl2), HOQ, HEV2, HZ2, hbn⟩
              case measure => simp [mes, intOf]; omega
    · obtain rfl : j = n := by omega
      have hRR : R = .ok v := by rw [HR.out, HE.out]
      subst hRR
      go_wp2_with fail
      go_ret3
      exact ⟨⟨_, _, _, rfl, HV.out.slq⟩, hb⟩

end Go.Proofs.YtibgpeaplmcogaaGreatDoor
