/-
  How a scalar and a mark come in: api.Val and api.Mark as parameters. Condition: as each lemma says.
-/
import Derived.Test.YthpbaaanbimapaaGreatDoorDigitReadAllB
import Derived.Test.YthpbaaanbimapaaGreatDoorNatShlAllB
import Derived.Test.YthpbaaanbimapaaGreatDoorProg
import Derived.Test.YthpbaaanbimapaaGreatDoorU64AllB
import Derived.KernelRfl
import Derived.Test.YthpbaaanbimapaaGreatDoorBkOwnAllB
import Derived.Lib.SmallJoins
namespace Go.Proofs.YthpbaaanbimapaaGreatDoor
set_option maxRecDepth 100000
open Go.RowKit
set_option linter.unusedVariables false
set_option linter.unusedSimpArgs false

set_option maxHeartbeats 2000000 in
theorem bk_two {w : World} {F : List Nat} {g : Nat} {b b' : PB} {p : PV} {x y : SV} {op : Int} (h : Bk w F g b)
    (K : ∀ w1, Below w.heap.size w w1 → Calls Tryz.prog 104 #[.pointer (some ⟨g, 0, none⟩), .agg #[.int .i64 op, .int .i64 x.f, .int .i64 y.f, .bool false, .slice none 0 0, .slice none 0 0], .agg x.agg, .agg y.agg] w1 (RetStep p w1 F g b')) :
    Calls Tryz.prog 62 #[.pointer (some ⟨g, 0, none⟩), .int .i64 op, .agg x.agg, .agg y.agg] w (RetStep p w F g b') := by
  obtain ⟨V, hW, B1, B2, Br, hb, hs⟩ := boxesV3 53 53 53 w x.agg y.agg SV.zero.agg
  have KV := K V hb
  have hF := h.lt
  obtain ⟨s, A, n, c', D, m, d, u, f⟩ := x
  obtain ⟨t, A', n', c'', D', m', d', u', f'⟩ := y
  simp only [SV.agg, SV.zero] at hW B1 B2 Br KV ⊢
  obtain ⟨⟨k0, k1, k2, k3, k4⟩, _⟩ := B1.five
  obtain ⟨⟨j0, j1, j2, j3, j4⟩, _⟩ := B2.five
  have HBr := Lib.hid Br
  have HW := Lib.hid hW
  have HK := Lib.hid KV
  clear hW B1 B2 Br KV K h
  go_enter Tryz.func62, Tryz.ntmps62
  go_upto_region 1 with (fail)
  rw [HW.out]
  go_wp2_with fail
  with_reducible refine HK.out.mono ?_
  rintro _ w1 ⟨⟨s3, A3, n3, c3, D3, m3, d3, u3, f3'⟩, rfl, his, st⟩
  have C := st.box HBr.out (fun hx => by have := hF _ hx; omega)
  have HC := Lib.hid C
  have HST := Lib.hid st
  have HIS := Lib.hid his
  obtain ⟨⟨r0, r1, r2, r3, r4⟩, f0, f1, f2, f3, f4⟩ := C.five
  clear C st his
  simp only [SV.agg]
  go_wp2_with fail
  refine bodyPost_ret (v := .agg #[.bool s3, .slice A3 n3 c3, .slice D3 m3 d3, .int .u64 u3, .int .i64 f3']) (by simp [results, Tryz.results62, go_sem, r0, r1, r2, r3, r4]) rfl ?_
  exact ⟨⟨s3, A3, n3, c3, D3, m3, d3, u3, f3'⟩, rfl, SV.is_wk HIS.out (wk_keep (keep_put5 _ _ _ _ _ _ _) (nz_zero5 HC.out)), HST.out.after hb (keep_put5 _ _ _ _ _ _ _) (by omega) (by omega) hF (nz_zero5 HC.out)⟩

set_option maxHeartbeats 2000000 in
theorem bk_add {w : World} {F : List Nat} {g : Nat} {b b' : PB} {p : PV} {x y : SV} (h : Bk w F g b)
    (K : ∀ w1, Below w.heap.size w w1 → Calls Tryz.prog 62 #[.pointer (some ⟨g, 0, none⟩), .int .i64 4, .agg x.agg, .agg y.agg] w1 (RetStep p w1 F g b')) :
    Calls Tryz.prog 32 #[.pointer (some ⟨g, 0, none⟩), .agg x.agg, .agg y.agg] w (RetStep p w F g b') := by
  obtain ⟨V, hW, B1, B2, Br, hb, hs⟩ := boxesV3 53 53 53 w x.agg y.agg SV.zero.agg
  have KV := K V hb
  have hF := h.lt
  obtain ⟨s, A, n, c', D, m, d, u, f⟩ := x
  obtain ⟨t, A', n', c'', D', m', d', u', f'⟩ := y
  simp only [SV.agg, SV.zero] at hW B1 B2 Br KV ⊢
  obtain ⟨⟨k0, k1, k2, k3, k4⟩, _⟩ := B1.five
  obtain ⟨⟨j0, j1, j2, j3, j4⟩, _⟩ := B2.five
  have HBr := Lib.hid Br
  have HW := Lib.hid hW
  have HK := Lib.hid KV
  clear hW B1 B2 Br KV K h
  go_enter Tryz.func32, Tryz.ntmps32
  go_upto_region 1 with (fail)
  rw [HW.out]
  go_wp2_with fail
  with_reducible refine HK.out.mono ?_
  rintro _ w1 ⟨⟨s3, A3, n3, c3, D3, m3, d3, u3, f3'⟩, rfl, his, st⟩
  have C := st.box HBr.out (fun hx => by have := hF _ hx; omega)
  have HC := Lib.hid C
  have HST := Lib.hid st
  have HIS := Lib.hid his
  obtain ⟨⟨r0, r1, r2, r3, r4⟩, f0, f1, f2, f3, f4⟩ := C.five
  clear C st his
  simp only [SV.agg]
  go_wp2_with fail
  refine bodyPost_ret (v := .agg #[.bool s3, .slice A3 n3 c3, .slice D3 m3 d3, .int .u64 u3, .int .i64 f3']) (by simp [results, Tryz.results32, go_sem, r0, r1, r2, r3, r4]) rfl ?_
  exact ⟨⟨s3, A3, n3, c3, D3, m3, d3, u3, f3'⟩, rfl, SV.is_wk HIS.out (wk_keep (keep_put5 _ _ _ _ _ _ _) (nz_zero5 HC.out)), HST.out.after hb (keep_put5 _ _ _ _ _ _ _) (by omega) (by omega) hF (nz_zero5 HC.out)⟩

set_option maxHeartbeats 2000000 in
theorem bk_mul {w : World} {F : List Nat} {g : Nat} {b b' : PB} {p : PV} {x y : SV} (h : Bk w F g b)
    (K : ∀ w1, Below w.heap.size w w1 → Calls Tryz.prog 62 #[.pointer (some ⟨g, 0, none⟩), .int .i64 6, .agg x.agg, .agg y.agg] w1 (RetStep p w1 F g b')) :
    Calls Tryz.prog 39 #[.pointer (some ⟨g, 0, none⟩), .agg x.agg, .agg y.agg] w (RetStep p w F g b') := by
  obtain ⟨V, hW, B1, B2, Br, hb, hs⟩ := boxesV3 53 53 53 w x.agg y.agg SV.zero.agg
  have KV := K V hb
  have hF := h.lt
  obtain ⟨s, A, n, c', D, m, d, u, f⟩ := x
  obtain ⟨t, A', n', c'', D', m', d', u', f'⟩ := y
  simp only [SV.agg, SV.zero] at hW B1 B2 Br KV ⊢
  obtain ⟨⟨k0, k1, k2, k3, k4⟩, _⟩ := B1.five
  obtain ⟨⟨j0, j1, j2, j3, j4⟩, _⟩ := B2.five
  have HBr := Lib.hid Br
  have HW := Lib.hid hW
  have HK := Lib.hid KV
  clear hW B1 B2 Br KV K h
  go_enter Tryz.func39, Tryz.ntmps39
  go_upto_region 1 with (fail)
  rw [HW.out]
  go_wp2_with fail
  with_reducible refine HK.out.mono ?_
  rintro _ w1 ⟨⟨s3, A3, n3, c3, D3, m3, d3, u3, f3'⟩, rfl, his, st⟩
  have C := st.box HBr.out (fun hx => by have := hF _ hx; omega)
  have HC := Lib.hid C
  have HST := Lib.hid st
  have HIS := Lib.hid his
  obtain ⟨⟨r0, r1, r2, r3, r4⟩, f0, f1, f2, f3, f4⟩ := C.five
  clear C st his
  simp only [SV.agg]
  go_wp2_with fail
  refine bodyPost_ret (v := .agg #[.bool s3, .slice A3 n3 c3, .slice D3 m3 d3, .int .u64 u3, .int .i64 f3']) (by simp [results, Tryz.results39, go_sem, r0, r1, r2, r3, r4]) rfl ?_
  exact ⟨⟨s3, A3, n3, c3, D3, m3, d3, u3, f3'⟩, rfl, SV.is_wk HIS.out (wk_keep (keep_put5 _ _ _ _ _ _ _) (nz_zero5 HC.out)), HST.out.after hb (keep_put5 _ _ _ _ _ _ _) (by omega) (by omega) hF (nz_zero5 HC.out)⟩

end Go.Proofs.YthpbaaanbimapaaGreatDoor

namespace Go.Proofs.YthpbaaanbimapaaGreatDoor
set_option maxRecDepth 100000
open Go.RowKit
set_option linter.unusedVariables false
set_option linter.unusedSimpArgs false

end Go.Proofs.YthpbaaanbimapaaGreatDoor

namespace Go.Proofs.YthpbaaanbimapaaGreatDoor
set_option maxRecDepth 100000
open Go.RowKit
set_option linter.unusedVariables false
set_option linter.unusedSimpArgs false

/-- a sign and two lists of words, as they lie -/
def RetRaw (s : Bool) (xs ys : List Int) (w : World) (e : Ending) (w' : World) : Prop := ∃ A n c A' n' c', e = .returned (.agg #[.bool s, .slice A n c, .slice A' n' c']) ∧ Sl w' A n c xs ∧ Sl w' A' n' c' ys ∧ Below w.heap.size w w' ∧ New w A ∧ New w A'
theorem retSlN_of {xs : List Int} {w w1 : World} {v : Value} (h : RetSl xs w (.returned v) w1) (hn : ∀ A n c, v = .slice A n c → New w A) : RetSlN xs w (.returned v) w1 := by
  obtain ⟨A, n, c, e, s, b⟩ := h
  injection e with e
  exact ⟨A, n, c, by rw [e], s, b, hn A n c e⟩
theorem bk_copied {w : World} {A : Option Addr} {n c : Nat} {xs : List Int} (h : Sl w A n c xs) (hn : n ≤ 1000000) :
    Calls Tryz.prog 81 #[.slice A n c] w (RetSlN xs w) := by
  obtain ⟨i0, hi, hz0, hz1, hz2⟩ := info_parts infoW
  have hlen := h.len
  by_cases h0 : n = 0
  · subst h0
    obtain rfl : xs = [] := List.eq_nil_of_length_eq_zero hlen.symm
    clear hlen h hn
    go_enter Tryz.func81, Tryz.ntmps81
    go_wp2_with (at_builtin; refine wpList_append_zero _ rfl _ _ 49 rfl 34 i0 Tryz.underlying49 hi A c rfl rfl ?_)
    go_ret
    exact ⟨none, 0, 0, rfl, Sl.nil _ _ _, Below.refl _ _, New.none_ _⟩
  · obtain ⟨b, off, rfl, hlt, hc⟩ := h.2 (by omega)
    have hu := h.us
    have hnews : ∀ (j : Nat) (u : Value), (vs xs)[j]? = some u → w.cell? ((⟨b, off, none⟩ : Addr).add j) = some u := by
      intro j u hj
      have hjl : j < xs.length := by
        rcases Nat.lt_or_ge j xs.length with h9 | h9
        · exact h9
        · rw [List.getElem?_eq_none (by rw [vs_length]; omega)] at hj; cases hj
      have e1 : (⟨b, off, none⟩ : Addr).add j = ⟨b, off + j, none⟩ := by
        unfold Addr.add; split
        · rename_i h9; rw [h9, Nat.add_zero]
        · rfl
      rw [e1, hc j (by omega)]
      unfold vs at hj
      rw [List.getElem?_map, List.getElem?_eq_getElem hjl] at hj
      rw [List.getD_eq_getElem?_getD, List.getElem?_eq_getElem hjl]
      exact hj
    have HN := Lib.hid hnews
    clear hnews hc
    go_enter Tryz.func81, Tryz.ntmps81
    go_wp2_with (at_builtin; refine wpList_append_own _ rfl _ _ 49 rfl w.heap.size 34 i0 (.int .u64 0) 1 8 Tryz.underlying49 hi hz0 hz1 hz2 rfl (by decide) _ _ _ rfl (World.ownsRow_nil _ _ _ _) ⟨b, off, none⟩ n c (vs xs) rfl ?c0 ?c1 ?c2 ?c3 ?c4 ?c5 ?_)
    case c0 => rw [vs_length]; omega
    case c1 => exact HN.out
    case c2 => intro u hu; unfold vs at hu; obtain ⟨z, _, rfl⟩ := List.mem_map.1 hu; rfl
    case c3 => unfold maxLen; omega
    case c4 => omega
    case c5 => exact Nat.le_refl _
    intro v' w1 hown hgrow _
    have hown2 : Own 34 w.heap.size w1 v' xs := hown
    have hb1 : Below w.heap.size w w1 := (Below.refl _ w).grown hgrow (Nat.le_refl _) (fun k e => by cases e)
    have HO := Lib.hid hown2
    have hnew : ∀ A n c, v' = .slice A n c → New w A := fun A n c e => by
      rcases hown.2 with ⟨h9, _⟩ | ⟨g9, cap9, cur9, h9, hB9, _⟩
      · rw [h9] at e; injection e with e; subst e; exact New.none_ _
      · rw [h9] at e; injection e with e; subst e; exact New.some_ hB9
    have HNW := Lib.hid hnew
    clear hown hown2 hgrow hnew
    go_wp2_with fail
    go_ret
    exact retSlN_of (retSl_own HO.out hu hb1) HNW.out


set_option maxRecDepth 100000 in
set_option maxHeartbeats 4000000 in
theorem bk_clone {w : World} {s : Bool} {A A' : Option Addr} {n n' c c' : Nat} {xs ys : List Int} (h : Sl w A n c xs) (h' : Sl w A' n' c' ys) (hn : n ≤ 1000000) (hn' : n' ≤ 1000000) :
    Calls Tryz.prog 47 #[.agg #[.bool s, .slice A n c, .slice A' n' c']] w (RetRaw s xs ys w) := by
  obtain ⟨V, hW, Ba, Br, hb0⟩ := boxes1 51 w #[.bool s, .slice A n c, .slice A' n' c'] #[.bool false, .slice none 0 0, .slice none 0 0]
  have C1 := fun w1 (hb : Below V.heap.size V w1) => bk_copied (h.below (bb hb0 hb)) (by omega)
  have C2 := fun w1 (hb : Below V.heap.size V w1) => bk_copied (h'.below (bb hb0 hb)) (by omega)
  have hS : ∀ w', Below V.heap.size V w' → w'.cell? ⟨w.heap.size, 0, none⟩ = some (.bool s) ∧ w'.cell? ⟨w.heap.size, 1, none⟩ = some (.slice A n c) ∧ w'.cell? ⟨w.heap.size, 2, none⟩ = some (.slice A' n' c') := fun w' hb => (Ba.below' hb).three.1
  have HC1 := Lib.hid C1
  have HC2 := Lib.hid C2
  have HS := Lib.hid hS
  have HBa := Lib.hid Ba
  have HBr := Lib.hid Br
  have HW := Lib.hid hW
  clear C1 C2 hS Ba Br hW h h'
  go_enter Tryz.func47, Tryz.ntmps47
  go_wp2_with fail
  rw [HW.out]
  obtain ⟨k0, k1, k2⟩ := HS.out _ (Below.refl _ V)
  go_region_held3 (fun w' => w'.cell? ⟨w.heap.size, 0, none⟩ = some (.bool s) ∧ w'.cell? ⟨w.heap.size, 1, none⟩ = some (.slice A n c) ∧ w'.cell? ⟨w.heap.size, 2, none⟩ = some (.slice A' n' c')) (first | exact HS.out _ (Below.refl _ V).drew | exact HS4.out | exact HS.out _ x2 | exact HS.out _ x1 | fail)
    (first
      | (go_at_call 81; (with_reducible refine (HC1.out _ ?hb1).mono ?_); (case hb1 => exact (Below.refl _ V).drew); rintro _ w1 ⟨A1, n1, c1, rfl, t1, b1, nw1⟩; have x1 : Below V.heap.size V w1 := Below.undrew b1)
      | (go_at_call 81; (with_reducible refine (HC2.out _ x1).mono ?_); rintro _ w2 ⟨A2, n2, c2, rfl, t2, b2, nw2⟩; have x2 : Below V.heap.size V w2 := bb x1 b2; have HS4 := Lib.hid ((HBa.out.below' x2).put3 (show w.heap.size ≠ w.heap.size + 1 by omega) (.bool s) (.slice A1 n1 c1) (.slice A2 n2 c2)).three.1; have B9 := HBr.out.below' x2; obtain ⟨⟨r0, r1, r2⟩, f0, f1, f2⟩ := B9.three))
  all_goals
    go_wp2_with fail
    refine bodyPost_ret (v := .agg #[.bool s, .slice A1 n1 c1, .slice A2 n2 c2]) (by simp [results, Tryz.results47, go_sem, r0, r1, r2]) rfl ?_
    have hB : IsBox 51 w2 (w.heap.size + 1) := ⟨_, _, _, _, _, _, _, B9⟩
    exact ⟨_, _, _, _, _, _, rfl, (t1.below b2).put3 hB, t2.put3 hB, below_put3 (bb hb0 x2) (by omega) (Nat.le_refl _) _ _ _, New.mono nw1 hb0.size, New.mono nw2 (Nat.le_trans hb0.size x1.size)⟩


set_option maxHeartbeats 2000000 in
theorem rf_same18 {w : World} {x y : SV} {xs ys us zs : List Int} (h1 : Sl w x.A x.n x.c xs) (h2 : Sl w x.D x.m x.d ys) (h3 : Sl w y.A y.n y.c us) (h4 : Sl w y.D y.m y.d zs) (l1 : x.n ≤ 1000000) (l2 : x.m ≤ 1000000) (l3 : y.n ≤ 1000000) (l4 : y.m ≤ 1000000) :
    Calls Tryz.prog 23 #[.agg x.agg, .agg y.agg] w (RetBl (decide (x.u = y.u ∧ x.f = y.f ∧ x.s = y.s ∧ xs = us ∧ ys = zs)) w) := by
  obtain ⟨V, hW, B1, B2, hb, hs⟩ := boxesV 53 53 w x.agg y.agg
  obtain ⟨s, A, n, c, D, m, d, u, f⟩ := x
  obtain ⟨t, A', n', c', D', m', d', u', f'⟩ := y
  have K := ref_same (s := s) (t := t) (h1.below hb) (h2.below hb) (h3.below hb) (h4.below hb) l1 l2 l3 l4
  simp only [SV.agg] at hW B1 B2 K ⊢
  obtain ⟨⟨k0, k1, k2, k3, k4⟩, _⟩ := B1.five
  obtain ⟨⟨j0, j1, j2, j3, j4⟩, _⟩ := B2.five
  have HW := Lib.hid hW
  by_cases e1 : u = u'
  case neg =>
    rw [decide_eq_false (fun h => e1 h.1)]
    have d1 : (u == u') = false := by simpa using e1
    clear K hW B1 B2 h1 h2 h3 h4
    go_enter Tryz.func23, Tryz.ntmps23
    go_upto_region 1 with (fail)
    rw [HW.out]
    go_wp2_with fail
    go_ret
    exact ⟨rfl, hb⟩
  by_cases e2 : f = f'
  case neg =>
    rw [decide_eq_false (fun h => e2 h.2.1)]
    have d2 : (f == f') = false := by simpa using e2
    subst e1
    clear K hW B1 B2 h1 h2 h3 h4
    go_enter Tryz.func23, Tryz.ntmps23
    go_upto_region 1 with (fail)
    rw [HW.out]
    go_wp2_with fail
    go_ret
    exact ⟨rfl, hb⟩
  subst e1 e2
  rw [show decide (u = u ∧ f = f ∧ s = t ∧ xs = us ∧ ys = zs) = decide (s = t ∧ xs = us ∧ ys = zs) from decide_eq_decide.2 ⟨fun h => h.2.2, fun h => ⟨rfl, rfl, h⟩⟩]
  generalize decide (s = t ∧ xs = us ∧ ys = zs) = r at *
  have HK := Lib.hid K
  clear K hW B1 B2 h1 h2 h3 h4
  go_enter Tryz.func23, Tryz.ntmps23
  go_upto_region 1 with (fail)
  rw [HW.out]
  go_wp2_with fail
  with_reducible refine HK.out.mono ?_
  rintro _ w1 ⟨rfl, b1⟩
  go_wp2_with fail
  go_ret
  exact ⟨rfl, bb hb b1⟩

end Go.Proofs.YthpbaaanbimapaaGreatDoor

namespace Go.Proofs.YthpbaaanbimapaaGreatDoor
set_option maxRecDepth 100000
open Go.RowKit
set_option linter.unusedVariables false
set_option linter.unusedSimpArgs false

/-- a number is stored into block g at o -/
def put3o (w : World) (g o : Nat) (x0 x1 x2 : Value) : World := ((w.setCell ⟨g, o, none⟩ x0).setCell ⟨g, o + 1, none⟩ x1).setCell ⟨g, o + 2, none⟩ x2
theorem keep_put3o (w : World) (g o : Nat) (x0 x1 x2 : Value) : Keep g w (put3o w g o x0 x1 x2) := (((Keep.refl g w).setCell o x0).setCell (o + 1) x1).setCell (o + 2) x2
theorem block_put3o {t : TypeId} {w : World} {g o : Nat} {cur : Array Value} (h : w.heap[g]? = some (.cells cur t (0, 0))) (x0 x1 x2 : Value) : (put3o w g o x0 x1 x2).heap[g]? = some (.cells (((cur.setIfInBounds o x0).setIfInBounds (o + 1) x1).setIfInBounds (o + 2) x2) t (0, 0)) := by
  unfold put3o World.setCell
  simp [Array.getElem?_modify, h]
end Go.Proofs.YthpbaaanbimapaaGreatDoor

namespace Go.Proofs.YthpbaaanbimapaaGreatDoor
set_option maxRecDepth 100000
open Go.RowKit
set_option linter.unusedVariables false
set_option linter.unusedSimpArgs false

/-- block G begins with the instructions xs, as they lie -/
def PRow (w : World) (G : Nat) (xs : List RI) : Prop := ∃ cur : Array Value, w.heap[G]? = some (.cells cur 80 (0, 0)) ∧ cur.toList.take (xs.length * 6) = xs.flatMap RI.cells
section
variable {w w' : World} {G : Nat} {xs : List RI}
theorem PRow.lt (h : PRow w G xs) : G < w.heap.size := by
  obtain ⟨cur, hh, _⟩ := h
  exact (Array.getElem?_eq_some_iff.1 hh).1
theorem PRow.below (h : PRow w G xs) (hb : Below w.heap.size w w') : PRow w' G xs := by
  have hlt := h.lt
  obtain ⟨cur, hh, htk⟩ := h
  exact ⟨cur, (hb.block G hlt).trans hh, htk⟩
theorem PRow.free (h : PRow w G xs) (i : Nat) : w.frozen? ⟨G, i, none⟩ = false := by
  obtain ⟨cur, hh, _⟩ := h
  simp [World.frozen?, hh]
theorem PRow.cell (h : PRow w G xs) {i j : Nat} (hi : i < xs.length) (hj : j < 6) : w.cell? ⟨G, i * 6 + j, none⟩ = (RI.cells xs[i])[j]? := by
  obtain ⟨cur, hh, htk⟩ := h
  have hf := flat_at xs (cells := RI.cells) (k := 6) (fun y _ => rfl) i j hj
  rw [List.getElem?_eq_getElem hi] at hf
  have h2 : (cur.toList.take (xs.length * 6))[i * 6 + j]? = (xs.flatMap RI.cells)[i * 6 + j]? := by rw [htk]
  have hlt : i * 6 + j < xs.length * 6 := by omega
  rw [List.getElem?_take, if_pos hlt, hf] at h2
  rw [cell_of_row w G _ cur _ (0, 0) hh, ← Array.getElem?_toList, h2]
  rfl
theorem PRow.six (h : PRow w G xs) {i : Nat} (hi : i < xs.length) :
    w.cell? ⟨G, i * 6, none⟩ = some (.int .i64 xs[i].op) ∧ w.cell? ⟨G, i * 6 + 1, none⟩ = some (.int .i64 xs[i].a) ∧ w.cell? ⟨G, i * 6 + 2, none⟩ = some (.int .i64 xs[i].b) ∧
    w.cell? ⟨G, i * 6 + 3, none⟩ = some (.bool xs[i].q.s) ∧ w.cell? ⟨G, i * 6 + 4, none⟩ = some (.slice xs[i].q.A xs[i].q.n xs[i].q.c) ∧ w.cell? ⟨G, i * 6 + 5, none⟩ = some (.slice xs[i].q.A' xs[i].q.n' xs[i].q.c') :=
  ⟨h.cell (j := 0) hi (by omega), h.cell (j := 1) hi (by omega), h.cell (j := 2) hi (by omega), h.cell (j := 3) hi (by omega), h.cell (j := 4) hi (by omega), h.cell (j := 5) hi (by omega)⟩
/-- a number is stored into an element -/
theorem PRow.put (h : PRow w G xs) {i : Nat} (hi : i < xs.length) (q : RQ) : PRow (put3o w G (i * 6 + 3) (.bool q.s) (.slice q.A q.n q.c) (.slice q.A' q.n' q.c')) G (xs.set i ⟨xs[i].op, xs[i].a, xs[i].b, q⟩) := by
  obtain ⟨cur, hh, htk⟩ := h
  refine ⟨_, block_put3o hh _ _ _, ?_⟩
  rw [List.length_set]
  have hsz : xs.length * 6 ≤ cur.size := by
    have h9 := congrArg List.length htk
    rw [List.length_take, flat_len xs (cells := RI.cells) (k := 6) (fun y _ => rfl), Array.length_toList (xs := cur)] at h9
    omega
  apply List.ext_getElem?
  intro k
  rw [List.getElem?_take]
  by_cases hk : k < xs.length * 6
  · rw [if_pos hk]
    have hk6 : k = k / 6 * 6 + k % 6 := by omega
    have hr : k % 6 < 6 := Nat.mod_lt _ (by omega)
    have old : cur.toList[k]? = (xs[k / 6]?).bind fun y => (RI.cells y)[k % 6]? := by
      rw [← flat_at xs (cells := RI.cells) (k := 6) (fun y _ => rfl) (k / 6) (k % 6) hr, ← hk6, ← htk, List.getElem?_take, if_pos hk]
    conv => rhs; rw [hk6]
    rw [flat_at (cells := RI.cells) (k := 6) _ (fun y _ => rfl) (k / 6) (k % 6) hr]
    simp only [Array.toList_setIfInBounds, List.getElem?_set, List.length_set, Array.length_toList]
    by_cases he : k / 6 = i
    · rw [if_pos he.symm, if_pos hi]
      rw [he, List.getElem?_eq_getElem hi] at old
      have h6 : k % 6 = 0 ∨ k % 6 = 1 ∨ k % 6 = 2 ∨ k % 6 = 3 ∨ k % 6 = 4 ∨ k % 6 = 5 := by omega
      rcases h6 with e | e | e | e | e | e
      · rw [if_neg (by omega), if_neg (by omega), if_neg (by omega), old, e]; rfl
      · rw [if_neg (by omega), if_neg (by omega), if_neg (by omega), old, e]; rfl
      · rw [if_neg (by omega), if_neg (by omega), if_neg (by omega), old, e]; rfl
      · rw [e, if_neg (by omega), if_neg (by omega), if_pos (by omega), if_pos (by omega)]; rfl
      · rw [e, if_neg (by omega), if_pos (by omega), if_pos (by omega)]; rfl
      · rw [e, if_pos (by omega), if_pos (by omega)]; rfl
    · rw [if_neg (by omega), if_neg (by omega), if_neg (by omega), if_neg (fun e => he e.symm)]
      exact old
  · rw [if_neg hk, List.getElem?_eq_none]
    rw [flat_len (cells := RI.cells) _ (k := 6) (fun y _ => rfl), List.length_set]
    omega
theorem PRow.slp (h : PRow w G xs) (hok : ∀ x ∈ xs, x.ok w) {c : Nat} (hc : xs.length ≤ c) (hm : c ≤ maxLen) : SlP w (some ⟨G, 0, none⟩) xs.length c xs := by
  refine ⟨⟨rfl, hc, hm, fun x hx => ⟨hok x hx, rfl⟩⟩, fun h0 => ⟨G, 0, rfl, h.lt, fun j hj i hi => ?_⟩⟩
  rw [Nat.zero_add, h.cell hj hi, List.getElem?_eq_getElem hj]
  rfl
end
/-- an instruction whose words do not lie in block G -/
def RI.okN (G : Nat) (w : World) (x : RI) : Prop := I64 x.op ∧ I64 x.a ∧ I64 x.b ∧ SlN G w x.q.A x.q.n x.q.c x.q.z ∧ SlN G w x.q.A' x.q.n' x.q.c' x.q.z' ∧ x.q.n ≤ 65536 ∧ x.q.n' ≤ 65536
theorem RI.okN.ok {G : Nat} {w : World} {x : RI} (h : x.okN G w) : x.ok w := ⟨h.1, h.2.1, h.2.2.1, h.2.2.2.1.sl, h.2.2.2.2.1.sl, by have := h.2.2.2.2.2.1; unfold maxLen; omega, by have := h.2.2.2.2.2.2; unfold maxLen; omega⟩
theorem SlN.below {G : Nat} {w w' : World} {A : Option Addr} {n c : Nat} {xs : List Int} (h : SlN G w A n c xs) (hb : Below w.heap.size w w') : SlN G w' A n c xs := ⟨h.1.below hb, h.2⟩
theorem RI.okN.below {G : Nat} {w w' : World} {x : RI} (h : x.okN G w) (hb : Below w.heap.size w w') : x.okN G w' := ⟨h.1, h.2.1, h.2.2.1, h.2.2.2.1.below hb, h.2.2.2.2.1.below hb, h.2.2.2.2.2⟩
theorem RI.okN.keep {G : Nat} {w w' : World} {x : RI} (h : x.okN G w) (k : Keep G w w') : x.okN G w' := ⟨h.1, h.2.1, h.2.2.1, h.2.2.2.1.keep k, h.2.2.2.2.1.keep k, h.2.2.2.2.2⟩
/-- a call that returns a program, in new memory -/
def RetProg (p : List PI) (w : World) (e : Ending) (w' : World) : Prop := ∃ A n c xs, e = .returned (.slice A n c) ∧ SlP w' A n c xs ∧ xs.map RI.pi = p ∧ Below w.heap.size w w'
/-- a bank's program has no long numbers -/
def PShort (p : List PI) : Prop := ∀ x ∈ p, x.q.2.1.length ≤ 65536 ∧ x.q.2.2.length ≤ 65536

theorem pnews {w : World} {G o : Nat} {n c : Nat} {xs : List RI} (h : SlP w (some ⟨G, o, none⟩) n c xs) : ∀ (j : Nat) (u : Value), (xs.flatMap RI.cells)[j]? = some u → w.cell? ((⟨G, o, none⟩ : Addr).add j) = some u := by
  intro j u hj
  have hl := h.1.1
  have hlt := (List.getElem?_eq_some_iff.1 hj).1
  rw [flat_len xs (cells := RI.cells) (k := 6) (fun y _ => rfl)] at hlt
  have e1 : (⟨G, o, none⟩ : Addr).add j = ⟨G, o + j, none⟩ := by
    unfold Addr.add; split
    · rename_i h9; rw [h9, Nat.add_zero]
    · rfl
  obtain ⟨b, off, e, _, hc⟩ := h.2 (by omega)
  injection e with e
  injection e with e2 e3
  subst e2 e3
  have h2 := hc (j / 6) (by omega) (j % 6) (Nat.mod_lt _ (by omega))
  rw [show o + j / 6 * 6 + j % 6 = o + j by omega] at h2
  have h3 := flat_at xs (cells := RI.cells) (k := 6) (fun y _ => rfl) (j / 6) (j % 6) (Nat.mod_lt _ (by omega))
  rw [show j / 6 * 6 + j % 6 = j by omega, hj] at h3
  rw [e1, h2, ← h3]
theorem ri_cells_one (xs : List RI) : ∀ u ∈ xs.flatMap RI.cells, u.oneCell' = true := by
  intro u hu
  obtain ⟨x, _, hx⟩ := List.mem_flatMap.1 hu
  simp [RI.cells] at hx
  rcases hx with rfl | rfl | rfl | rfl | rfl | rfl <;> rfl

set_option maxRecDepth 100000 in
set_option maxHeartbeats 4000000 in
theorem bk_program {w : World} {F : List Nat} {g : Nat} {b : PB} (h : Bk w F g b) (hs : PShort b.prog) : Calls Tryz.prog 20 #[.pointer (some ⟨g, 0, none⟩)] w (RetProg b.prog w) := by
  obtain ⟨va, vp, vm, ps, hA⟩ := h
  obtain ⟨A, c, hvp, hlc, hcm⟩ := hA.rp.form
  subst hvp
  obtain ⟨k0, k1, k2, k3, _⟩ := hA.cells
  obtain ⟨i0, hi, hz0, hz1, hz2⟩ := info_parts infoI
  have hpl := hA.pl
  have hpi := hA.pi
  have hlen : ps.length = b.prog.length := by rw [← hpi, List.length_map]
  have hsl := hA.rp.slc (ok := RI.ok) (fun x hx => (hA.ok x hx).1)
  have HPI := Lib.hid hpi
  by_cases h0 : ps = []
  · subst h0
    clear hA hpi hlen hsl hpl k0 k1 k3
    go_enter Tryz.func20, Tryz.ntmps20
    go_wp2_with (at_builtin; refine wpList_append_zero _ rfl _ _ 46 rfl 80 i0 Tryz.underlying46 hi A c rfl rfl ?_)
    go_wp2_with fail
    go_loop [14] (fun iv => iv = .int .i64 0) (fun _ => 0)
    case atStart => rfl
    case round =>
      subst hrel
      go_wp2_with fail
      go_ret
      exact ⟨none, 0, 0, [], rfl, ⟨⟨rfl, Nat.le_refl _, by unfold maxLen; omega, by simp⟩, fun h9 => absurd h9 (by omega)⟩, HPI.out, Below.refl _ _⟩
  · have hn0 : 0 < ps.length := List.length_pos_iff.2 h0
    obtain ⟨ab, ao, hab, _, _⟩ := hsl.2 hn0
    subst hab
    have hnews := pnews hsl
    have hok := hA.ok
    have hshort : ∀ x ∈ ps, x.q.n ≤ 65536 ∧ x.q.n' ≤ 65536 := fun x hx => by
      have h9 := hs x.pi (by rw [← hpi]; exact List.mem_map_of_mem hx)
      have h8 := (hok x hx).1
      have l1 := h8.2.2.2.1.len
      have l2 := h8.2.2.2.2.1.len
      have e1 : x.pi.q.2.1 = x.q.z := rfl
      have e2 : x.pi.q.2.2 = x.q.z' := rfl
      rw [e1, e2] at h9
      omega
    obtain ⟨n, hn⟩ : ∃ n, ps.length = n := ⟨_, rfl⟩
    rw [hn] at hn0 hlen hlc hsl
    have HL := Lib.hid hn
    have HNE := Lib.hid hnews
    have HOK := Lib.hid hok
    have HSH := Lib.hid hshort
    have HFL := Lib.hid (show (ps.flatMap RI.cells).length = n * 6 by rw [flat_len ps (cells := RI.cells) (k := 6) (fun y _ => rfl), hn])
    obtain ⟨us, hus⟩ : ∃ us, ps.flatMap RI.cells = us := ⟨_, rfl⟩
    have HUS := Lib.hid hus
    have HUO := Lib.hid (ri_cells_one ps)
    rw [hus] at HNE HFL HUO
    have hn6 : n ≤ 65536 := by omega
    have hvp2 : w.cell? ⟨g, 2, none⟩ = some (.slice (some ⟨ab, ao, none⟩) n c) := by rw [← hn]; exact k2
    clear hnews hok hshort h0 hA hpi hus hlen hpl k0 k1 k2 k3 hsl hn
    go_enter Tryz.func20, Tryz.ntmps20
    go_wp2_with (at_builtin; refine wpList_append_own _ rfl _ _ 46 rfl w.heap.size 80 i0 _ 6 80 Tryz.underlying46 hi hz0 hz1 hz2 rfl (by decide) _ _ _ rfl (World.ownsRow_nil _ _ _ _) ⟨ab, ao, none⟩ n c us rfl HFL.out HNE.out HUO.out (by unfold maxLen; omega) (by omega) (Nat.le_refl _) ?_)
    intro v1 w1 hown hgrow _
    have b1 : Below w.heap.size w w1 := (Below.refl _ w).grown hgrow (Nat.le_refl _) (fun k e => by cases e)
    obtain ⟨G, cap, rfl, hG, hprow, hcap, hcm2⟩ : ∃ G cap, v1 = .slice (some ⟨G, 0, none⟩) n cap ∧ w.heap.size ≤ G ∧ PRow w1 G ps ∧ n ≤ cap ∧ cap ≤ maxLen := by
      rcases hown.2 with ⟨_, h9⟩ | ⟨G, cap, cur, h9, hB9, hh9, hc9, hm9, hs9, ht9⟩
      · omega
      · refine ⟨G, cap, by rw [h9], hB9, ⟨cur, hh9, ?_⟩, by omega, hm9⟩
        rw [HL.out, HUS.out]
        simpa using ht9
    have hokN : ∀ x ∈ ps, x.okN G w1 := fun x hx => by
      obtain ⟨⟨t1, t2, t3, t4, t5, t6, t7⟩, _, _⟩ := HOK.out x hx
      obtain ⟨s1, s2⟩ := HSH.out x hx
      exact ⟨t1, t2, t3, Sl.apart' t4 b1 hG, Sl.apart' t5 b1 hG, s1, s2⟩
    have HR := Lib.hid hprow
    have HON := Lib.hid hokN
    clear hown hgrow hprow hokN HNE HFL HUO HUS HOK HSH
    go_wp2_with fail
    go_loopw [14] (fun iv wr => ∃ (k : Nat) (xs : List RI), k ≤ n ∧ iv = .int .i64 k ∧ Hid (xs.length = n) ∧ Hid (PRow wr G xs) ∧ Hid (xs.map RI.pi = b.prog) ∧ Hid (∀ x ∈ xs, x.okN G wr) ∧ Below w.heap.size w wr) (fun iv _ => n - mes iv)
    case atStart => exact ⟨0, ps, by omega, rfl, HL, HR, HPI, HON, b1⟩
    case round =>
      clear HR HON b1
      obtain ⟨k, xs, hk, rfl, HXL, HR, HXP, HON, hb⟩ := hrel
      by_cases hk2 : k < n
      · have hkx : k < xs.length := by rw [HXL.out]; exact hk2
        obtain ⟨x, hx⟩ : ∃ x, xs[k] = x := ⟨_, rfl⟩
        obtain ⟨d0, d1, d2, d3, d4, d5⟩ := HR.out.six hkx
        rw [hx] at d0 d1 d2 d3 d4 d5
        have hxo := HON.out x (by rw [← hx]; exact List.getElem_mem hkx)
        have CL := bk_clone hxo.2.2.2.1.sl hxo.2.2.2.2.1.sl (s := x.q.s) (by have := hxo.2.2.2.2.2.1; omega) (by have := hxo.2.2.2.2.2.2; omega)
        have f3 := HR.out.free (k * 6 + 3)
        have f4 := HR.out.free (k * 6 + 4)
        have f5 := HR.out.free (k * 6 + 5)
        have HX := Lib.hid hx
        have HXO := Lib.hid hxo
        have HC := Lib.hid CL
        have HKX := Lib.hid hkx
        obtain ⟨op, a, bb0, q⟩ := x
        simp only at d0 d1 d2 d3 d4 d5 HC
        clear hx hxo CL
        go_wp2_with fail
        refine HC.out.mono ?_
        rintro _ w2 ⟨A1, n1, c1, A2, n2, c2, rfl, s1, s2, b2, nw1, nw2⟩
        have HR2 := Lib.hid (HR.out.below b2)
        have e3 := HR2.out.free (k * 6 + 3)
        have e4 := HR2.out.free (k * 6 + 4)
        have e5 := HR2.out.free (k * 6 + 5)
        have S1 := Lib.hid s1
        have S2 := Lib.hid s2
        obtain ⟨q0, q1, q2, q3, q4, q5⟩ := HR2.out.six HKX.out
        rw [HX.out] at q0 q1 q2 q3 q4 q5
        simp only at q0 q1 q2 q3 q4 q5
        clear s1 s2 f3 f4 f5 d0 d1 d2 d3 d4 d5
        go_wp2_with fail
        go_roundw
        case rel =>
          have hp := HR2.out.put HKX.out ⟨q.s, A1, n1, c1, q.z, A2, n2, c2, q.z'⟩
          have hkp := keep_put3o w2 G (k * 6 + 3) (.bool q.s) (.slice A1 n1 c1) (.slice A2 n2 c2)
          have hbb := Below.keep (hb.trans (b2.mono hb.size)) hkp hG (Nat.le_refl _)
          have hwG := HR.out.lt
          rw [HX.out] at hp
          refine ⟨k + 1, _, by omega, by go_num, Lib.hid (by rw [List.length_set]; exact HXL.out), Lib.hid hp, Lib.hid ?_, Lib.hid (fun y hy => ?_), hbb⟩
          · rw [List.map_set, ← HXP.out]
            apply List.ext_getElem?
            intro j
            rw [List.getElem?_set]
            by_cases hj : k = j
            · subst hj
              rw [if_pos rfl, if_pos (by rw [List.length_map]; exact hkx), List.getElem?_map, List.getElem?_eq_getElem hkx, HX.out]
              rfl
            · rw [if_neg hj]
          · have ho := HXO.out
            rcases List.mem_or_eq_of_mem_set hy with h9 | h9
            · exact ((HON.out y h9).below b2).keep hkp
            · rw [h9]
              have l1 := ho.2.2.2.1.sl.len
              have l2 := ho.2.2.2.2.1.sl.len
              have m1 := S1.out.len
              have m2 := S2.out.len
              have lim := ho.2.2.2.2.2
              simp only at l1 l2 lim
              exact ⟨ho.1, ho.2.1, ho.2.2.1, (Sl.new S1.out nw1 hwG).keep hkp, (Sl.new S2.out nw2 hwG).keep hkp, by show n1 ≤ 65536; omega, by show n2 ≤ 65536; omega⟩
        case measure => simp [mes, intOf]; omega
      · obtain rfl : k = n := by omega
        have hp := HR.out.slp (fun x hx => (HON.out x hx).ok) (c := cap) (by rw [HXL.out]; exact hcap) hcm2
        rw [HXL.out] at hp
        have HF := Lib.hid hp
        clear hp HR HON
        go_wp2_with fail
        go_ret
        exact ⟨_, _, _, xs, rfl, HF.out, HXP.out, hb⟩

end Go.Proofs.YthpbaaanbimapaaGreatDoor

namespace Go.Proofs.YthpbaaanbimapaaGreatDoor
set_option maxRecDepth 100000
open Go.RowKit
set_option linter.unusedVariables false
set_option linter.unusedSimpArgs false

end Go.Proofs.YthpbaaanbimapaaGreatDoor

namespace Go.Proofs.YthpbaaanbimapaaGreatDoor
set_option maxRecDepth 100000
open Go.RowKit
set_option linter.unusedVariables false
set_option linter.unusedSimpArgs false

theorem half_sz : Sz ((1 : Int) / (2 : Int) : Rat) 2 := by
  rw [Rat.div_def]
  exact (sz_int (z := 1) (by omega) (by omega)).mul (sz_int (z := 2) (by omega) (by omega)).inv
theorem half_half : ((1 : Int) / (2 : Int) : Rat) + ((1 : Int) / (2 : Int) : Rat) = ((1 : Int) : Rat) := by decide +kernel
/-- a sum in the mode Exact -/
theorem bk_add0 {w : World} {F : List Nat} {g N : Nat} {b : PB} {x y : SV} {X Y : Rat} (h : Bk w F g b) (he : b.err = 0) (hm : b.mode = 0) (ho : b.ops < 1000000000) (hx : Q w x.s x.A x.n x.c x.D x.m x.d X) (hy : Q w y.s y.A y.n y.c y.D y.m y.d Y) (hX : Sz X N) (hY : Sz Y N) (hN : N ≤ 40000) :
    Calls Tryz.prog 32 #[.pointer (some ⟨g, 0, none⟩), .agg x.agg, .agg y.agg] w (RetStep ⟨some (X + Y), 0, 0⟩ w F g { b with ops := b.ops + 1 }) := by
  have K : ∀ w3, Below w.heap.size w w3 → Calls Tryz.prog 170 #[.int .i64 4, .agg #[.bool x.s, .slice x.A x.n x.c, .slice x.D x.m x.d], .agg #[.bool y.s, .slice y.A y.n y.c, .slice y.D y.m y.d]] w3 (RetQE (X + Y) 0 w3) :=
    fun w3 h3 => ex_add (hx.below h3) hX (hy.below h3) hY hN
  have O : ∀ w2, Below w.heap.size w w2 → Calls Tryz.prog 104 #[.pointer (some ⟨g, 0, none⟩), .agg #[.int .i64 4, .int .i64 x.f, .int .i64 y.f, .bool false, .slice none 0 0, .slice none 0 0], .agg x.agg, .agg y.agg] w2 (RetStep ⟨some (X + Y), 0, 0⟩ w2 F g { b with ops := b.ops + 1 }) :=
    fun w2 h2 => bk_operate0 (q := SV.zero) (x := x) (y := y) (h.below h2) he hm ho (fun w3 h3 => K w3 (bb h2 h3))
  exact bk_add h (fun w1 h1 => bk_two (h.below h1) (fun w2 h2 => O w2 (bb h1 h2)))
/-- a product in the mode Line -/
theorem bk_mul2 {w : World} {F : List Nat} {g : Nat} {b : PB} {x y : SV} (h : Bk w F g b) (he : b.err = 0) (hm : b.mode = 2) (hl : b.prog.length < 65536) (hx : b.wrote x.f = true) (hy : b.wrote y.f = true) (ha : I64 x.f) (hc : I64 y.f) (ho : b.ops < 1000000000) :
    Calls Tryz.prog 39 #[.pointer (some ⟨g, 0, none⟩), .agg x.agg, .agg y.agg] w (RetStep ⟨none, 0, b.prog.length⟩ w F g { b with prog := b.prog ++ [⟨6, x.f, y.f, nilQ⟩], ops := b.ops + 1 }) := by
  have O : ∀ w2, Below w.heap.size w w2 → Calls Tryz.prog 104 #[.pointer (some ⟨g, 0, none⟩), .agg #[.int .i64 6, .int .i64 x.f, .int .i64 y.f, .bool false, .slice none 0 0, .slice none 0 0], .agg x.agg, .agg y.agg] w2 (RetStep ⟨none, 0, b.prog.length⟩ w2 F g { b with prog := b.prog ++ [⟨6, x.f, y.f, nilQ⟩], ops := b.ops + 1 }) :=
    fun w2 h2 => bk_operate2 (h.below h2) he hm hl hx hy (by unfold I64; omega) ha hc ho
  exact bk_mul h (fun w1 h1 => bk_two (h.below h1) (fun w2 h2 => O w2 (bb h1 h2)))

/-- .. and the bank that turns -/
theorem bk_pair' {w w' : World} {F1 F2 : List Nat} {g1 g2 : Nat} {b1 b2 : PB} (h2 : Bk w F2 g2 b2) (hst : BkStep w F1 g1 b1 w') (hd : ∀ x ∈ F1, x ∉ F2) :
    ∃ F1', Bk w' F1' g1 b1 ∧ Bk w' F2 g2 b2 ∧ (∀ x ∈ F1', x ∉ F2) ∧ Only F1 w w' ∧ WK w w' := by
  obtain ⟨F1', k1, k2, k3, k4⟩ := hst
  have hlt := h2.lt
  refine ⟨F1', k1, h2.only k2 k3 (fun x hx hx2 => hd x hx2 hx), fun x hx hx2 => ?_, k2, k3⟩
  rcases k4 x hx with h9 | h9
  · exact hd x h9 hx2
  · have := hlt x hx2; omega
/-- what lies apart from a bank stays apart from it, and as it was -/
theorem step_apart {w w' : World} {F : List Nat} {g : Nat} {b : PB} (hst : BkStep w F g b w') (L : List Nat) (hL : ∀ x ∈ L, x < w.heap.size) (hd : ∀ x ∈ L, x ∉ F) :
    ∃ F', Bk w' F' g b ∧ (∀ x ∈ L, x ∉ F') ∧ Only F w w' ∧ WK w w' ∧ (∀ x ∈ F', x ∈ F ∨ w.heap.size ≤ x) := by
  obtain ⟨F', k1, k2, k3, k4⟩ := hst
  refine ⟨F', k1, fun x hx hx2 => ?_, k2, k3, k4⟩
  rcases k4 x hx2 with h9 | h9
  · exact hd x hx h9
  · have := hL x hx; omega
/-- .. and what lay before both of them stays as it was -/
theorem step_far {B : Nat} {w0 w w' : World} {F F' : List Nat} (h0 : Below B w0 w ∧ B ≤ w.heap.size ∧ ∀ x ∈ F, B ≤ x) (ho : Only F w w') (hF : ∀ x ∈ F', x ∈ F ∨ w.heap.size ≤ x) : Below B w0 w' ∧ B ≤ w'.heap.size ∧ ∀ x ∈ F', B ≤ x := by
  have h1 := ho.below h0.2.1 h0.2.2
  have h2 := h1.size
  refine ⟨h0.1.trans h1, by omega, fun x hx => ?_⟩
  rcases hF x hx with h9 | h9
  · exact h0.2.2 x h9
  · omega
theorem far_below {B : Nat} {w0 w w' : World} {F : List Nat} (h0 : Below B w0 w ∧ B ≤ w.heap.size ∧ ∀ x ∈ F, B ≤ x) (hb : Below w.heap.size w w') : Below B w0 w' ∧ B ≤ w'.heap.size ∧ ∀ x ∈ F, B ≤ x :=
  ⟨h0.1.trans (hb.mono h0.2.1), Nat.le_trans h0.2.1 hb.size, h0.2.2⟩
def nilP (op a c : Int) : PI := ⟨op, a, c, nilQ⟩
def b21 : PB := { PB.new 2 [] with prog := [nilP 1 0 0], ins := 1 }
def b22 : PB := { PB.new 2 [] with prog := [nilP 1 0 0, nilP 1 1 0], ins := 2 }
def b23 : PB := { PB.new 2 [] with prog := [nilP 1 0 0, nilP 1 1 0, nilP 6 0 1], ins := 2, ops := 1 }
/-- the scalar of instruction k -/
def refV (k : Int) : SV := ⟨false, none, 0, 0, none, 0, 0, 0, k⟩
theorem lit_a {w : World} {F : List Nat} {g : Nat} (h : Bk w F g (PB.new 2 [])) : Calls Tryz.prog 33 #[.pointer (some ⟨g, 0, none⟩), .agg #[.int .i64 0, .int .i64 0, .int .u64 0]] w (fun r w' => r = .returned (.agg #[.bool false, .slice none 0 0, .slice none 0 0, .int .u64 0, .int .i64 0]) ∧ BkStep w F g b21 w') :=
  bk_lit2 (p := 0) (q := 0) (u := 0) h rfl rfl (by show (0 : Nat) < 65536; omega) (by show (0 : Nat) < 1000000000; omega)
theorem lit_b {w : World} {F : List Nat} {g : Nat} (h : Bk w F g b21) : Calls Tryz.prog 33 #[.pointer (some ⟨g, 0, none⟩), .agg #[.int .i64 0, .int .i64 0, .int .u64 0]] w (fun r w' => r = .returned (.agg #[.bool false, .slice none 0 0, .slice none 0 0, .int .u64 0, .int .i64 1]) ∧ BkStep w F g b22 w') :=
  bk_lit2 (p := 0) (q := 0) (u := 0) h rfl rfl (by show (1 : Nat) < 65536; omega) (by show (1 : Nat) < 1000000000; omega)
theorem mul_c {w : World} {F : List Nat} {g : Nat} (h : Bk w F g b22) : Calls Tryz.prog 39 #[.pointer (some ⟨g, 0, none⟩), .agg #[.bool false, .slice none 0 0, .slice none 0 0, .int .u64 0, .int .i64 0], .agg #[.bool false, .slice none 0 0, .slice none 0 0, .int .u64 0, .int .i64 1]] w (RetStep ⟨none, 0, 2⟩ w F g b23) :=
  bk_mul2 (x := refV 0) (y := refV 1) h rfl rfl (by show (2 : Nat) < 65536; omega) (by decide) (by decide) (by unfold I64 refV; simp) (by unfold I64 refV; simp) (by show (0 : Nat) < 1000000000; omega)
theorem prog_d {w : World} {F : List Nat} {g : Nat} (h : Bk w F g b23) : Calls Tryz.prog 20 #[.pointer (some ⟨g, 0, none⟩)] w (RetProg [nilP 1 0 0, nilP 1 1 0, nilP 6 0 1] w) :=
  bk_program h (fun x hx => by
    simp only [b23, List.mem_cons, List.not_mem_nil, or_false] at hx
    rcases hx with rfl | rfl | rfl <;> exact ⟨Nat.zero_le _, Nat.zero_le _⟩)

set_option maxRecDepth 100000 in
set_option maxHeartbeats 1000000 in
theorem same18 (w : World) : Calls Tryz.prog 9 #[] w (RetBl true w) := by
  have N1 := fun w => Lib.hid (bk_new_nil w (m := 0) (by omega) (by omega))
  have N2 := fun w => Lib.hid (bk_new_nil w (m := 2) (by omega) (by omega))
  go_enter Tryz.func9, Tryz.ntmps9
  go_wp2_with fail
  refine (N1 w).out.mono ?_
  rintro _ w1 ⟨g1, rfl, hb1, hg1, b1⟩
  have HB1 := Lib.hid hb1
  have hlt1 := hb1.lt g1 (by simp)
  clear hb1
  go_wp2_with fail
  refine (N2 w1).out.mono ?_
  rintro _ w2 ⟨g2, rfl, hb2, hg2, b2⟩
  have HB2 := Lib.hid hb2
  have HB1' := Lib.hid (HB1.out.below b2)
  have B2 := bb b1 b2
  have B1s := b1.size
  clear hb2 HB1 b1 N1 N2
  have NU := bk_num0 HB1'.out rfl rfl (p := 1) (q := 2) (by omega) (by omega) (by omega) (by omega) (by omega)
  have HNU := Lib.hid NU
  clear NU
  go_wp2_with fail
  refine HNU.out.mono ?_
  rintro _ w3 ⟨x, rfl, hx, b3⟩
  obtain ⟨s3, A3, n3, c3, D3, m3, d3, u3, f3⟩ := x
  obtain ⟨hu3, hf3, hq3⟩ := hx
  obtain ⟨H, hH⟩ : ∃ H : Rat, ((1 : Int) : Rat) / ((2 : Int) : Rat) = H := ⟨_, rfl⟩
  have hsz := half_sz
  have hhh := half_half
  simp only [hH] at hu3 hf3 hq3 hsz hhh
  subst hu3 hf3
  simp only [SV.agg]
  obtain ⟨V3, hV3, bx3, b4⟩ := box0 53 w3 #[.bool s3, .slice A3 n3 c3, .slice D3 m3 d3, .int .u64 0, .int .i64 0]
  have hq4 := hq3.below b4
  have B3 := bb b3 b4
  have HB1 := Lib.hid (HB1'.out.below B3)
  have HB2' := Lib.hid (HB2.out.below B3)
  have AD := bk_add0 (x := ⟨s3, A3, n3, c3, D3, m3, d3, 0, 0⟩) (y := ⟨s3, A3, n3, c3, D3, m3, d3, 0, 0⟩) HB1.out rfl rfl (by show (0 : Nat) < 1000000000; omega) hq4 hq4 hsz hsz (by omega)
  rw [hhh] at AD
  have HAD := Lib.hid AD
  have HV3 := Lib.hid hV3
  have HBX3 := Lib.hid bx3
  obtain ⟨⟨k0, k1, k2, k3, k4⟩, _⟩ := bx3.five
  clear hq3 hq4 AD hV3 bx3 HNU HB1' HB2 hsz hhh hH
  simp only [SV.agg] at HAD
  go_upto_region 3 with (fail)
  rw [HV3.out]
  go_wp2_with fail
  refine HAD.out.mono ?_
  rintro _ w5 ⟨x, rfl, hx, hst⟩
  obtain ⟨s5, A5, n5, c5, D5, m5, d5, u5, f5⟩ := x
  obtain ⟨hu5, hf5, hq5⟩ := hx
  simp only at hu5 hf5 hq5
  subst hu5 hf5
  simp only [SV.agg]
  obtain ⟨F1, HA, HC, hd1, ho5, hk5⟩ := bk_pair' HB2'.out hst (by intro x hx; simp at hx ⊢; omega)
  obtain ⟨V5, hV5, bx5, b6⟩ := box0 53 w5 #[.bool s5, .slice A5 n5 c5, .slice D5 m5 d5, .int .u64 0, .int .i64 0]
  have HAK := Lib.hid (HA.below b6)
  have HCK := Lib.hid (HC.below b6)
  have HQ5 := Lib.hid (hq5.below b6)
  have LT := lit_a HCK.out
  have HLT := Lib.hid LT
  have HV5 := Lib.hid hV5
  have HBX5 := Lib.hid bx5
  have b24 := bb B2 (bb b3 b4)
  have hn1 : w.heap.size ≤ g1 := hg1
  have hn2 : w.heap.size ≤ g2 := Nat.le_trans B1s hg2
  have HW5 := Lib.hid (far_below (F := [g2]) ⟨b24.trans ((show Only [g1] V3 w5 from ho5).below b24.size (fun x hx => by simp at hx; omega)), Nat.le_trans b24.size hk5.1, fun x hx => by simp at hx; omega⟩ b6)
  have HD2 := Lib.hid (show g2 < w5.heap.size from HC.lt g2 (by simp))
  clear hst HA HC hV5 bx5 hq5 LT HAD HB1 HB2' k0 k1 k2 k3 k4 ho5
  go_upto_region 4 with (fail)
  rw [HV5.out]
  go_wp2_with fail
  refine HLT.out.mono ?_
  rintro _ w6 ⟨rfl, hst⟩
  have lA := HAK.out.lt
  have hp5 : w5.heap.size < V5.heap.size := HBX5.out.lt
  have hd2 := HD2.out
  obtain ⟨F2, hc6, ha6, ho6, hk6, sz6⟩ := step_apart hst (F1 ++ [w5.heap.size]) (fun x hx => by
      rcases List.mem_append.1 hx with h9 | h9
      · exact lA x h9
      · rw [List.mem_singleton.1 h9]; exact hp5) (fun x hx => by
      rcases List.mem_append.1 hx with h9 | h9
      · exact hd1 x h9
      · rw [List.mem_singleton.1 h9]; simp; omega)
  have hA6 := HAK.out.only ho6 hk6 hd1
  have hX6 := ho6.box HBX5.out (by simp; omega)
  have hQ6 := Q.wk HQ5.out hk6
  obtain ⟨V6, hV6, bx6, b7⟩ := box0 53 w6 #[.bool false, .slice none 0 0, .slice none 0 0, .int .u64 0, .int .i64 0]
  have HA6 := Lib.hid (hA6.below b7)
  have HX6 := Lib.hid (hX6.below' b7)
  have HQ6 := Lib.hid (hQ6.below b7)
  have hc6' := hc6.below b7
  have LT := lit_b hc6'
  have HLT2 := Lib.hid LT
  have HC6 := Lib.hid hc6'
  have HC6l := Lib.hid hc6.lt
  have HD6 := Lib.hid ha6
  have HV6 := Lib.hid hV6
  have HBX6 := Lib.hid bx6
  have HW6 := Lib.hid (far_below (step_far HW5.out ho6 sz6) b7)
  clear hst hc6 ha6 ho6 hk6 sz6 hA6 hX6 hQ6 hV6 bx6 LT hc6' HLT HAK HBX5 HQ5 HCK lA
  go_wp2_with fail
  rw [HV6.out]
  refine HLT2.out.mono ?_
  rintro _ w7 ⟨rfl, hst⟩
  have lA := HA6.out.lt
  have hp5' : w5.heap.size < V6.heap.size := HX6.out.lt
  have hp6 : w6.heap.size < V6.heap.size := HBX6.out.lt
  have hd6 := HD6.out
  have l6 := HC6l.out
  have hL : ∀ x ∈ F1 ++ [w5.heap.size, w6.heap.size], x < V6.heap.size ∧ x ∉ F2 := fun x hx => by
    rcases List.mem_append.1 hx with h9 | h9
    · exact ⟨lA x h9, hd6 x (by simp [h9])⟩
    · simp only [List.mem_cons, List.not_mem_nil, or_false] at h9
      rcases h9 with h9 | h9
      · rw [h9]; exact ⟨hp5', hd6 _ (by simp)⟩
      · rw [h9]; exact ⟨hp6, fun hx2 => by have := l6 _ hx2; omega⟩
  obtain ⟨F3, hc7, ha7, ho7, hk7, sz7⟩ := step_apart hst (F1 ++ [w5.heap.size, w6.heap.size]) (fun x hx => (hL x hx).1) (fun x hx => (hL x hx).2)
  have hA7 := HA6.out.only ho7 hk7 (fun x hx => (hL x (by simp [hx])).2)
  have hX7 := ho7.box HX6.out (hL _ (by simp)).2
  have hY7 := ho7.box HBX6.out (hL _ (by simp)).2
  have hQ7 := Q.wk HQ6.out hk7
  obtain ⟨V7, hV7, bx7, b8⟩ := box0 53 w7 #[.bool false, .slice none 0 0, .slice none 0 0, .int .u64 0, .int .i64 1]
  have HA7 := Lib.hid (hA7.below b8)
  have HX7 := Lib.hid (hX7.below' b8)
  have hY7' := hY7.below' b8
  have HQ7 := Lib.hid (hQ7.below b8)
  have hc7' := hc7.below b8
  have MU := mul_c hc7'
  have HMU := Lib.hid MU
  have HC7 := Lib.hid hc7'
  have HC7l := Lib.hid hc7.lt
  have HD7 := Lib.hid ha7
  have HW7 := Lib.hid (far_below (step_far HW6.out ho7 sz7) b8)
  have HV7 := Lib.hid hV7
  obtain ⟨⟨y0, y1, y2, y3, y4⟩, _⟩ := hY7'.five
  obtain ⟨⟨z0, z1, z2, z3, z4⟩, _⟩ := bx7.five
  clear hst hc7 ha7 ho7 hk7 sz7 hA7 hX7 hY7 hY7' hQ7 hV7 bx7 MU hc7' HLT2 HA6 HX6 HQ6 HC6 HC6l HD6 HBX6 lA hp5' hp6 hd6 l6 hL HW6
  go_upto_region 6 with (fail)
  rw [HV7.out]
  go_wp2_with fail
  refine HMU.out.mono ?_
  rintro _ w8 ⟨sv, rfl, _, hst⟩
  clear y0 y1 y2 y3 y4 z0 z1 z2 z3 z4
  have lA := HA7.out.lt
  have hp5' : w5.heap.size < V7.heap.size := HX7.out.lt
  have hd7 := HD7.out
  have hL : ∀ x ∈ F1 ++ [w5.heap.size], x < V7.heap.size ∧ x ∉ F3 := fun x hx => by
    rcases List.mem_append.1 hx with h9 | h9
    · exact ⟨lA x h9, hd7 x (by simp [h9])⟩
    · rw [List.mem_singleton.1 h9]; exact ⟨hp5', hd7 _ (by simp)⟩
  obtain ⟨F4, hc8, ha8, ho8, hk8, sz8⟩ := step_apart hst (F1 ++ [w5.heap.size]) (fun x hx => (hL x hx).1) (fun x hx => (hL x hx).2)
  have hA8 := HA7.out.only ho8 hk8 (fun x hx => (hL x (by simp [hx])).2)
  have hX8 := ho8.box HX7.out (hL _ (by simp)).2
  have hQ8 := Q.wk HQ7.out hk8
  have PR := prog_d hc8
  have HW8 := Lib.hid (step_far HW7.out ho8 sz8)
  have HPR := Lib.hid PR
  have HA8 := Lib.hid hA8
  have HX8 := Lib.hid hX8
  have HQ8 := Lib.hid hQ8
  clear hst hc8 ha8 ho8 hk8 sz8 hA8 hX8 hQ8 PR HMU HA7 HX7 HQ7 HC7 HC7l HD7 lA hp5' hd7 hL HW7
  go_wp2_with fail
  refine HPR.out.mono ?_
  rintro _ w9 ⟨A9, n9, c9, xs, rfl, hp9, hpi, b9⟩
  have hlen9 : xs.length = 3 := by
    have h9 := congrArg List.length hpi
    rw [List.length_map] at h9
    exact h9
  obtain rfl : n9 = 3 := by rw [← hp9.1.1, hlen9]
  have hA9 := HA8.out.below b9
  have hX9 := HX8.out.below' b9
  have hQ9 := HQ8.out.below b9
  have hone : Sz (((1 : Int) : Rat)) 1 := sz_int (by omega) (by omega)
  have hOP : ∀ w10, Below w9.heap.size w9 w10 → Calls Tryz.prog 15 #[.pointer (some ⟨g1, 0, none⟩)] w10 (RetI 1 w10) := fun w10 h10 => bk_ops (hA9.below h10)
  have hOF : ∀ w10, Below w9.heap.size w9 w10 → Calls Tryz.prog 37 #[.int .i64 1] w10 (RetQ ((1 : Int) : Rat) w10) := fun w10 h10 => ref_of 1 (by omega) (by omega) w10
  have hSM : ∀ w10, Below w9.heap.size w9 w10 → ∀ t A n c A' n' c', Q w10 t A n c A' n' c' ((1 : Int) : Rat) → Calls Tryz.prog 40 #[.agg #[.bool s5, .slice A5 n5 c5, .slice D5 m5 d5], .agg #[.bool t, .slice A n c, .slice A' n' c']] w10 (RetBl true w10) := fun w10 h10 t A n c A' n' c' hq => by
    have := ref_sameQ (hQ9.below h10) hq hone hone (by omega)
    rw [decide_eq_true rfl] at this
    exact this
  obtain ⟨bP, oP, xP, rfl, hltP, hxP, _, pc0, pc1, pc2, _⟩ := hp9.at_ (j := 2) (by omega)
  obtain ⟨bQ, oQ, xQ, eQ, hltQ, hxQ, _, pd0, pd1, pd2, _⟩ := hp9.at_ (j := 1) (by omega)
  injection eQ with eQ
  injection eQ with eQ1 eQ2
  subst eQ1 eQ2
  have hx2 : xP.op = 6 ∧ xP.b = 1 := by
    have h9 := congrArg (fun l : List PI => l[2]?) hpi
    simp only [List.getElem?_map, hxP] at h9
    simp [RI.pi, nilP] at h9
    exact ⟨h9.1, h9.2.2.1⟩
  have hx1 : xQ.a = 1 := by
    have h9 := congrArg (fun l : List PI => l[1]?) hpi
    simp only [List.getElem?_map, hxQ] at h9
    simp [RI.pi, nilP] at h9
    exact h9.2.1
  rw [hx2.1] at pc0
  rw [hx2.2] at pc2
  rw [hx1] at pd1
  have hS : ∀ w', Below w9.heap.size w9 w' → (w'.cell? ⟨w5.heap.size, 0, none⟩ = some (.bool s5) ∧ w'.cell? ⟨w5.heap.size, 1, none⟩ = some (.slice A5 n5 c5) ∧ w'.cell? ⟨w5.heap.size, 2, none⟩ = some (.slice D5 m5 d5)) ∧
      w'.cell? ⟨bP, oP + 12, none⟩ = some (.int .i64 6) ∧ w'.cell? ⟨bP, oP + 14, none⟩ = some (.int .i64 1) ∧ w'.cell? ⟨bP, oP + 7, none⟩ = some (.int .i64 1) := fun w' hb => by
    obtain ⟨⟨a0, a1, a2, _, _⟩, _⟩ := (hX9.below' hb).five
    exact ⟨⟨a0, a1, a2⟩, (hb.cell (p := ⟨bP, oP + 12, none⟩) hltP).trans pc0, (hb.cell (p := ⟨bP, oP + 14, none⟩) hltP).trans pc2, (hb.cell (p := ⟨bP, oP + 7, none⟩) hltP).trans pd1⟩
  have HOF := Lib.hid hOF
  have HSM := Lib.hid hSM
  have HOP := Lib.hid hOP
  have HS := Lib.hid hS
  have HBW : Hid (Below w.heap.size w w9) := Lib.hid (HW8.out.1.trans (b9.mono HW8.out.2.1))
  clear hA9 hX9 hQ9 hOP hOF hSM hS hx2 hx1 pc0 pc1 pc2 pd0 pd1 pd2 hxP hxQ hp9 hpi hlen9 HA8 HX8 HQ8
  go_wp2_with fail
  obtain ⟨⟨k0, k1, k2⟩, k3, k4, k5⟩ := HS.out _ (Below.refl _ w9)
  go_region_held3 (fun w' => (w'.cell? ⟨w5.heap.size, 0, none⟩ = some (.bool s5) ∧ w'.cell? ⟨w5.heap.size, 1, none⟩ = some (.slice A5 n5 c5) ∧ w'.cell? ⟨w5.heap.size, 2, none⟩ = some (.slice D5 m5 d5)) ∧
      w'.cell? ⟨bP, oP + 12, none⟩ = some (.int .i64 6) ∧ w'.cell? ⟨bP, oP + 14, none⟩ = some (.int .i64 1) ∧ w'.cell? ⟨bP, oP + 7, none⟩ = some (.int .i64 1)) (first | exact HS.out _ (Below.refl _ w9).drew | exact HS.out _ x1 | exact HS.out _ x2 | exact HS.out _ x3)
    (first
      | (go_at_call 37; (with_reducible refine (HOF.out _ ?hb1).mono ?_); (case hb1 => exact (Below.refl _ w9).drew); rintro _ v1 ⟨t1, E1, p1, q1, E2, p2, q2, rfl, hqof, bb1⟩; have x1 : Below w9.heap.size w9 v1 := Below.undrew bb1)
      | (go_at_call 40; (with_reducible refine (HSM.out _ x1 _ _ _ _ _ _ _ hqof).mono ?_); rintro _ v2 ⟨rfl, bb2⟩; have x2 := bb x1 bb2)
      | (go_at_call 15; (with_reducible refine (HOP.out _ x2).mono ?_); rintro _ v3 ⟨rfl, bb3⟩; have x3 := bb x2 bb3)
      | fail)
  all_goals
    go_wp2_with fail
    go_ret
    exact ⟨rfl, HBW.out.trans (x3.mono HBW.out.size)⟩

end Go.Proofs.YthpbaaanbimapaaGreatDoor

namespace Go.Proofs.YthpbaaanbimapaaGreatDoor
set_option maxRecDepth 100000
open Go.RowKit Go.WideShapes Go.ChangeShapes
set_option linter.unusedVariables false

theorem rat_ty : RatTy Tryz.prog 51 :=
  ⟨⟨_, _, _, Tryz.underlying51, rfl, rfl, rfl, by kernel_rfl, by kernel_rfl, by kernel_rfl, Tryz.underlying4, _, _, Tryz.underlying49, Tryz.underlying49, Tryz.underlying34, Tryz.underlying34, by kernel_rfl, by kernel_rfl⟩, by kernel_rfl⟩
theorem ins_ty : InsTy Tryz.prog 80 :=
  ⟨⟨_, _, _, _, Tryz.underlying80, rfl, rfl, rfl, rfl, by kernel_rfl, by kernel_rfl, by kernel_rfl, Tryz.underlying3, Tryz.underlying3, Tryz.underlying3, rat_ty⟩, by kernel_rfl⟩
section
variable {H : Type} {enc : TypeId × Value → H} {w : World} {base b0 : Nat} {held : Bool} {r : Reach} {v : Value} {d : DataW H} {p : List MemPlace}
theorem arg_rats (hv : Value.okWide Tryz.prog w r b0 71 v) (h : DataW.Trod enc Tryz.prog w base (fun _ => true) held 71 v d p) : ∃ A n c xs, v = .slice A n c ∧ SlR w A n c xs := by
  obtain ⟨A, n, c, rfl⟩ := okWide_slice Tryz.underlying71 hv
  obtain ⟨fuel, hf⟩ := h
  exact open_slr Tryz.underlying71 rat_ty (by simpa [Value.cells] using hf)
theorem arg_inss (hv : Value.okWide Tryz.prog w r b0 46 v) (h : DataW.Trod enc Tryz.prog w base (fun _ => true) held 46 v d p) : ∃ A n c xs, v = .slice A n c ∧ SlP w A n c xs := by
  obtain ⟨A, n, c, rfl⟩ := okWide_slice Tryz.underlying46 hv
  obtain ⟨fuel, hf⟩ := h
  exact open_slp Tryz.underlying46 ins_ty (by simpa [Value.cells] using hf)
theorem arg_words (hv : Value.okWide Tryz.prog w r b0 49 v) (h : DataW.Trod enc Tryz.prog w base (fun _ => true) held 49 v d p) : ∃ A n c z, v = .slice A n c ∧ Sl w A n c z ∧ n ≤ maxLen := by
  obtain ⟨A, n, c, rfl⟩ := okWide_slice Tryz.underlying49 hv
  obtain ⟨fuel, hf⟩ := h
  exact open_sl Tryz.underlying49 Tryz.underlying34 (by kernel_rfl) (by simpa [Value.cells] using hf)
theorem arg_rat (hv : Value.okWide Tryz.prog w r b0 51 v) (h : DataW.Trod enc Tryz.prog w base (fun _ => true) held 51 v d p) : ∃ q : RQ, v = .agg #[.bool q.s, .slice q.A q.n q.c, .slice q.A' q.n' q.c'] ∧ q.ok w := by
  obtain ⟨cs, rfl, hsz⟩ := okWide_struct Tryz.underlying51 hv
  obtain ⟨fuel, hf⟩ := h
  obtain ⟨q, e, ok⟩ := open_rq rat_ty (by simpa [Value.cells] using hf)
  obtain ⟨l⟩ := cs
  refine ⟨q, ?_, ok⟩
  have e2 : l = q.cells := by simpa using e
  rw [e2]
  rfl
theorem arg_ins (hv : Value.okWide Tryz.prog w r b0 80 v) (h : DataW.Trod enc Tryz.prog w base (fun _ => true) held 80 v d p) : ∃ q : RI, v = .agg #[.int .i64 q.op, .int .i64 q.a, .int .i64 q.b, .bool q.q.s, .slice q.q.A q.q.n q.q.c, .slice q.q.A' q.q.n' q.q.c'] ∧ q.ok w := by
  obtain ⟨cs, rfl, hsz⟩ := okWide_struct Tryz.underlying80 hv
  obtain ⟨fuel, hf⟩ := h
  obtain ⟨q, e, ok⟩ := open_ri ins_ty (by simpa [Value.cells] using hf)
  obtain ⟨l⟩ := cs
  refine ⟨q, ?_, ok⟩
  have e2 : l = q.cells := by simpa using e
  rw [e2]
  rfl
end

end Go.Proofs.YthpbaaanbimapaaGreatDoor

namespace Go.Proofs.YthpbaaanbimapaaGreatDoor
set_option maxRecDepth 100000
open Go.RowKit Go.Joins Go.WideShapes Go.ChangeShapes
set_option linter.unusedVariables false
set_option linter.unusedSimpArgs false

/-- what the walk is told of a scalar that came in: its rows of words -/
def InV (w : World) (x : SV) (xs ys : List Int) : Prop := Sl w x.A x.n x.c xs ∧ Sl w x.D x.m x.d ys ∧ x.n ≤ maxLen ∧ x.m ≤ maxLen ∧ (Lit.int .u64 x.u).wf = true ∧ (Lit.int .i64 x.f).wf = true
section
variable {H : Type} {enc : TypeId × Value → H} {w : World} {base b0 : Nat} {held : Bool} {r : Reach} {v : Value} {d : DataW H} {p : List MemPlace}
theorem arg_val (hv : Value.okWide Tryz.prog w r b0 53 v) (h : DataW.Trod enc Tryz.prog w base (fun _ => true) held 53 v d p) : ∃ (x : SV) (xs ys : List Int), v = .agg #[.bool x.s, .slice x.A x.n x.c, .slice x.D x.m x.d, .int .u64 x.u, .int .i64 x.f] ∧ InV w x xs ys := by
  obtain ⟨cs, rfl, hsz⟩ := okWide_struct Tryz.underlying53 hv
  obtain ⟨fuel, hf⟩ := h
  obtain ⟨xs, n, _, _, hl, hxl, hf⟩ := DataW.trod_struct Tryz.underlying53 hf
  rw [show Tryz.prog.cellsOf 53 = 5 by kernel_rfl] at hl
  obtain ⟨l⟩ := cs
  simp only [Value.cells] at hl hf
  match l, hl with
  | [v0, v1, v2, v3, v4], _ =>
    have g0 : DataW.trod enc Tryz.prog w base (fun _ => true) held n 51 (([v0, v1, v2, v3, v4].drop 0).take (Tryz.prog.cellsOf 51)) = xs[0]? := hf 0 _ rfl
    have g1 : DataW.trod enc Tryz.prog w base (fun _ => true) held n 34 (([v0, v1, v2, v3, v4].drop 3).take (Tryz.prog.cellsOf 34)) = xs[1]? := hf 1 _ rfl
    have g2 : DataW.trod enc Tryz.prog w base (fun _ => true) held n 3 (([v0, v1, v2, v3, v4].drop 4).take (Tryz.prog.cellsOf 3)) = xs[2]? := hf 2 _ rfl
    have hx : xs.length = 3 := hxl
    rw [List.getElem?_eq_getElem (by omega)] at g0 g1 g2
    simp only [show Tryz.prog.cellsOf 51 = 3 by kernel_rfl, show Tryz.prog.cellsOf 34 = 1 by kernel_rfl, show Tryz.prog.cellsOf 3 = 1 by kernel_rfl, List.drop_zero, List.take_succ_cons, List.take_zero, List.drop_succ_cons] at g0 g1 g2
    obtain ⟨q, eq_, o1, o2, o3, o4⟩ := open_rq rat_ty g0
    obtain ⟨u, e1, _, w1⟩ := DataW.trod_int Tryz.underlying34 g1
    obtain ⟨f, e2, _, w2⟩ := DataW.trod_int Tryz.underlying3 g2
    simp at e1 e2
    unfold RQ.cells at eq_
    simp at eq_
    obtain ⟨rfl, rfl, rfl⟩ := eq_
    subst e1 e2
    exact ⟨⟨q.s, q.A, q.n, q.c, q.A', q.n', q.c', u, f⟩, q.z, q.z', rfl, o1, o2, o3, o4, w1, w2⟩
theorem arg_mark (hv : Value.okWide Tryz.prog w r b0 63 v) (h : DataW.Trod enc Tryz.prog w base (fun _ => true) held 63 v d p) : ∃ (i a m o n : Int) (t : Bool) (e : Int), v = .agg #[.int .i64 i, .int .i64 a, .int .i64 m, .int .i64 o, .int .i64 n, .bool t, .int .i64 e] ∧ (Lit.int .i64 i).wf = true ∧ (Lit.int .i64 a).wf = true ∧ (Lit.int .i64 m).wf = true ∧ (Lit.int .i64 o).wf = true ∧ (Lit.int .i64 n).wf = true ∧ (Lit.int .i64 e).wf = true := by
  obtain ⟨cs, rfl, hsz⟩ := okWide_struct Tryz.underlying63 hv
  obtain ⟨fuel, hf⟩ := h
  obtain ⟨xs, n, _, _, hl, hxl, hf⟩ := DataW.trod_struct Tryz.underlying63 hf
  rw [show Tryz.prog.cellsOf 63 = 7 by kernel_rfl] at hl
  obtain ⟨l⟩ := cs
  simp only [Value.cells] at hl hf
  match l, hl with
  | [v0, v1, v2, v3, v4, v5, v6], _ =>
    have g0 : DataW.trod enc Tryz.prog w base (fun _ => true) held n 3 (([v0, v1, v2, v3, v4, v5, v6].drop 0).take (Tryz.prog.cellsOf 3)) = xs[0]? := hf 0 _ rfl
    have g1 : DataW.trod enc Tryz.prog w base (fun _ => true) held n 3 (([v0, v1, v2, v3, v4, v5, v6].drop 1).take (Tryz.prog.cellsOf 3)) = xs[1]? := hf 1 _ rfl
    have g2 : DataW.trod enc Tryz.prog w base (fun _ => true) held n 3 (([v0, v1, v2, v3, v4, v5, v6].drop 2).take (Tryz.prog.cellsOf 3)) = xs[2]? := hf 2 _ rfl
    have g3 : DataW.trod enc Tryz.prog w base (fun _ => true) held n 3 (([v0, v1, v2, v3, v4, v5, v6].drop 3).take (Tryz.prog.cellsOf 3)) = xs[3]? := hf 3 _ rfl
    have g4 : DataW.trod enc Tryz.prog w base (fun _ => true) held n 3 (([v0, v1, v2, v3, v4, v5, v6].drop 4).take (Tryz.prog.cellsOf 3)) = xs[4]? := hf 4 _ rfl
    have g5 : DataW.trod enc Tryz.prog w base (fun _ => true) held n 4 (([v0, v1, v2, v3, v4, v5, v6].drop 5).take (Tryz.prog.cellsOf 4)) = xs[5]? := hf 5 _ rfl
    have g6 : DataW.trod enc Tryz.prog w base (fun _ => true) held n 41 (([v0, v1, v2, v3, v4, v5, v6].drop 6).take (Tryz.prog.cellsOf 41)) = xs[6]? := hf 6 _ rfl
    have hx : xs.length = 7 := hxl
    rw [List.getElem?_eq_getElem (by omega)] at g0 g1 g2 g3 g4 g5 g6
    simp only [show Tryz.prog.cellsOf 4 = 1 by kernel_rfl, show Tryz.prog.cellsOf 41 = 1 by kernel_rfl, show Tryz.prog.cellsOf 3 = 1 by kernel_rfl, List.drop_zero, List.take_succ_cons, List.take_zero, List.drop_succ_cons] at g0 g1 g2 g3 g4 g5 g6
    obtain ⟨x0, e0, _, w0⟩ := DataW.trod_int Tryz.underlying3 g0
    obtain ⟨x1, e1, _, w1⟩ := DataW.trod_int Tryz.underlying3 g1
    obtain ⟨x2, e2, _, w2⟩ := DataW.trod_int Tryz.underlying3 g2
    obtain ⟨x3, e3, _, w3⟩ := DataW.trod_int Tryz.underlying3 g3
    obtain ⟨x4, e4, _, w4⟩ := DataW.trod_int Tryz.underlying3 g4
    obtain ⟨t, e5, _⟩ := DataW.trod_bool Tryz.underlying4 g5
    obtain ⟨x6, e6, _, w6⟩ := DataW.trod_int Tryz.underlying41 g6
    simp at e0 e1 e2 e3 e4 e5 e6
    subst e0 e1 e2 e3 e4 e5 e6
    exact ⟨x0, x1, x2, x3, x4, t, x6, rfl, w0, w1, w2, w3, w4, w6⟩
end

end Go.Proofs.YthpbaaanbimapaaGreatDoor
