/-
  What tangent.copied, clone, allRight, tooLong and tangent.tangent return. Conditions: the slices read as numbers of at most 64 words; the instruction fits.
-/
import Derived.Test.YtfhihapgjiaobaaGreatEvBAllB
import Derived.Test.YtfhihapgjiaobaaGreatTgSzAllB
namespace Go.Proofs.YtfhihapgjiaobaaGreat
set_option maxRecDepth 100000
open Go.RowKit
set_option linter.unusedVariables false
set_option linter.unusedSimpArgs false

theorem tg_copied {w : World} {A : Option Addr} {n c : Nat} {xs : List Int} (h : Sl w A n c xs) (hn : n ≤ 1000000) :
    Calls Tryz.prog 100 #[.slice A n c] w (RetSl xs w) := by
  obtain ⟨i0, hi, hz0, hz1, hz2⟩ := info_parts infoW
  have hlen := h.len
  by_cases h0 : n = 0
  · subst h0
    obtain rfl : xs = [] := List.eq_nil_of_length_eq_zero hlen.symm
    clear hlen h hn
    go_enter Tryz.func100, Tryz.ntmps100
    go_wp2_with (at_builtin; refine wpList_append_zero _ rfl _ _ 43 rfl 76 i0 Tryz.underlying43 hi A c rfl rfl ?_)
    go_ret
    exact ⟨none, 0, 0, rfl, Sl.nil _ _ _, Below.refl _ _⟩
  · obtain ⟨b, off, rfl, hlt, hc⟩ := h.2 (by omega)
    have hu := h.us
    have hnews : ∀ (j : Nat) (u : Value), (vs xs)[j]? = some u → w.cell? ((⟨b, off, none⟩ : Addr).add j) = some u := by
      intro j u hj
      have hjl : j < xs.length := by
        rcases Nat.lt_or_ge j xs.length with h9 | h9
        · exact h9
        · rw [List.getElem?_eq_none (by rw [vs_length]; omega)] at hj; cases hj
      have e1 : (⟨b, off, none⟩ : Addr).add j = ⟨b, off + j, none⟩ := by
        unfold Addr.add; split
        · rename_i h9; rw [h9, Nat.add_zero]
        · rfl
      rw [e1, hc j (by omega)]
      unfold vs at hj
      rw [List.getElem?_map, List.getElem?_eq_getElem hjl] at hj
      rw [List.getD_eq_getElem?_getD, List.getElem?_eq_getElem hjl]
      exact hj
    have HN := Lib.hid hnews
    clear hnews hc
    go_enter Tryz.func100, Tryz.ntmps100
    go_wp2_with (at_builtin; refine wpList_append_own _ rfl _ _ 43 rfl w.heap.size 76 i0 (.int .u64 0) 1 8 Tryz.underlying43 hi hz0 hz1 hz2 rfl (by decide) _ _ _ rfl (World.ownsRow_nil _ _ _ _) ⟨b, off, none⟩ n c (vs xs) rfl ?c0 ?c1 ?c2 ?c3 ?c4 ?c5 ?_)
    case c0 => rw [vs_length]; omega
    case c1 => exact HN.out
    case c2 => intro u hu; unfold vs at hu; obtain ⟨z, _, rfl⟩ := List.mem_map.1 hu; rfl
    case c3 => unfold maxLen; omega
    case c4 => omega
    case c5 => exact Nat.le_refl _
    intro v' w1 hown hgrow _
    have hown2 : Own 76 w.heap.size w1 v' xs := hown
    have hb1 : Below w.heap.size w w1 := (Below.refl _ w).grown hgrow (Nat.le_refl _) (fun k e => by cases e)
    have HO := Lib.hid hown2
    clear hown hown2 hgrow
    go_wp2_with fail
    go_ret
    exact retSl_own HO.out hu hb1


set_option maxRecDepth 100000 in
set_option maxHeartbeats 4000000 in
theorem tg_clone {w : World} {s : Bool} {A A' : Option Addr} {n n' c c' N : Nat} {X : Rat} (h : Q w s A n c A' n' c' X) (hX : Sz X N) (hN : N ≤ 1000) :
    Calls Tryz.prog 64 #[.agg #[.bool s, .slice A n c, .slice A' n' c']] w (RetQ X w) := by
  obtain ⟨V, hW, Ba, Br, hb0⟩ := boxes1 45 w #[.bool s, .slice A n c, .slice A' n' c'] #[.bool false, .slice none 0 0, .slice none 0 0]
  have l1 : n ≤ N := h.2.1.small hX.1
  have l2 : n' ≤ N := h.2.2.small hX.2
  have C1 := fun w1 (hb : Below V.heap.size V w1) => tg_copied (h.2.1.below (bb hb0 hb)) (by omega)
  have C2 := fun w1 (hb : Below V.heap.size V w1) => tg_copied (h.2.2.below (bb hb0 hb)) (by omega)
  have hs := h.1
  have hS : ∀ w', Below V.heap.size V w' → w'.cell? ⟨w.heap.size, 0, none⟩ = some (.bool s) ∧ w'.cell? ⟨w.heap.size, 1, none⟩ = some (.slice A n c) ∧ w'.cell? ⟨w.heap.size, 2, none⟩ = some (.slice A' n' c') := fun w' hb => (Ba.below' hb).three.1
  have HC1 := Lib.hid C1
  have HC2 := Lib.hid C2
  have HS := Lib.hid hS
  have HBa := Lib.hid Ba
  have HBr := Lib.hid Br
  have HW := Lib.hid hW
  have HQ := Lib.hid hs
  clear C1 C2 hS Ba Br hW h hX hs
  go_enter Tryz.func64, Tryz.ntmps64
  go_wp2_with fail
  rw [HW.out]
  obtain ⟨k0, k1, k2⟩ := HS.out _ (Below.refl _ V)
  go_region_held3 (fun w' => w'.cell? ⟨w.heap.size, 0, none⟩ = some (.bool s) ∧ w'.cell? ⟨w.heap.size, 1, none⟩ = some (.slice A n c) ∧ w'.cell? ⟨w.heap.size, 2, none⟩ = some (.slice A' n' c')) (first | exact HS.out _ (Below.refl _ V).drew | exact HS4.out | exact HS.out _ x2 | exact HS.out _ x1 | fail)
    (first
      | (go_at_call 100; (with_reducible refine (HC1.out _ ?hb1).mono ?_); (case hb1 => exact (Below.refl _ V).drew); rintro _ w1 ⟨A1, n1, c1, rfl, t1, b1⟩; have x1 : Below V.heap.size V w1 := Below.undrew b1)
      | (go_at_call 100; (with_reducible refine (HC2.out _ x1).mono ?_); rintro _ w2 ⟨A2, n2, c2, rfl, t2, b2⟩; have x2 : Below V.heap.size V w2 := bb x1 b2; have HS4 := Lib.hid ((HBa.out.below' x2).put3 (show w.heap.size ≠ w.heap.size + 1 by omega) (.bool s) (.slice A1 n1 c1) (.slice A2 n2 c2)).three.1; have B9 := HBr.out.below' x2; obtain ⟨⟨r0, r1, r2⟩, f0, f1, f2⟩ := B9.three))
  all_goals
    go_wp2_with fail
    refine bodyPost_ret (v := .agg #[.bool s, .slice A1 n1 c1, .slice A2 n2 c2]) (by simp [results, Tryz.results64, go_sem, r0, r1, r2]) rfl ?_
    have q3 : Q w2 s A1 n1 c1 A2 n2 c2 X := ⟨HQ.out, t1.below b2, t2⟩
    exact ⟨_, _, _, _, _, _, _, rfl, q3.put3 ⟨_, _, _, _, _, _, _, B9⟩, below_put3 (bb hb0 x2) (by omega) (Nat.le_refl _) _ _ _⟩


set_option maxHeartbeats 2000000 in
theorem tg_allRight {w : World} {A : Option Addr} {n c N : Nat} {xs : List RQ} (h : SlR w A n c xs) (hs : ∀ x ∈ xs, x.n ≤ N ∧ x.n' ≤ N) (hN : N ≤ 1000) (hn : n ≤ 65536) :
    Calls Tryz.prog 26 #[.slice A n c] w (RetBl (allR xs) w) := by
  have hlen : xs.length = n := h.1.1
  go_enter Tryz.func26, Tryz.ntmps26
  go_wp2_with fail
  go_loopw [7] (fun iv wr => ∃ k : Nat, k ≤ n ∧ iv = .int .i64 k ∧ Below w.heap.size w wr ∧ Hid (∀ i x, i < k → xs[i]? = some x → rightB x.s x.z x.z' = true)) (fun iv _ => n - mes iv)
  case atStart => exact ⟨0, by omega, rfl, Below.refl _ _, Lib.hid (fun i x hi => absurd hi (by omega))⟩
  case round =>
    obtain ⟨k, hk, rfl, hb, HF⟩ := hrel
    by_cases hk2 : k < n
    · obtain ⟨b0, off, x, rfl, hlt, hxk, hok, c0, c1, c2⟩ := (h.below hb).at_ hk2
      obtain ⟨hx1, hx2⟩ := hs x (mem_at hxk)
      have F := fun (w1 : World) (hb1 : Below wr.heap.size wr w1) => rat_right (s := x.s) (hok.1.below hb1) (hok.2.1.below hb1) hx1 hx2 hN
      obtain ⟨r, hr⟩ : ∃ r, rightB x.s x.z x.z' = r := ⟨_, rfl⟩
      simp only [hr] at F
      have HR := Lib.hid hr
      have HX := Lib.hid F
      clear F hok hx1 hx2 hr
      cases r
      case false =>
        have hno : allR xs = false := by
          unfold allR
          rw [Bool.eq_false_iff]
          intro hh
          have := List.all_eq_true.1 hh x (mem_at hxk)
          rw [HR.out] at this
          cases this
        rw [hno]
        clear hno
        go_wp2_with fail
        refine (HX.out _ (below_alloc _ _)).mono ?_
        rintro _ w2 ⟨rfl, b2⟩
        go_wp2_with fail
        go_ret
        exact ⟨rfl, bb (hb.alloc hb.size _) b2⟩
      case true =>
        go_wp2_with fail
        refine (HX.out _ (below_alloc _ _)).mono ?_
        rintro _ w2 ⟨rfl, b2⟩
        go_wp2_with fail
        go_roundw
        case rel => exact ⟨k + 1, by omega, by go_num, bb (hb.alloc hb.size _) b2, Lib.hid (fun i y hi hy => by
          rcases Nat.lt_or_eq_of_le (Nat.le_of_lt_succ hi) with h9 | h9
          · exact HF.out i y h9 hy
          · rw [h9, hxk] at hy; cases hy; exact HR.out)⟩
        case measure => simp [mes, intOf]; omega
    · obtain rfl : k = n := by omega
      have hyes : allR xs = true := List.all_eq_true.2 fun x hx => by
        obtain ⟨j, hj⟩ := List.mem_iff_getElem?.1 hx
        have hj2 : j < xs.length := by
          rcases Nat.lt_or_ge j xs.length with h9 | h9
          · exact h9
          · rw [List.getElem?_eq_none h9] at hj; cases hj
        exact HF.out j x (by omega) hj
      go_wp2_with fail
      go_ret
      exact ⟨by rw [hyes]; rfl, hb⟩



set_option maxHeartbeats 2000000 in
theorem tg_tooLong {w : World} {s : Bool} {A A' : Option Addr} {n n' c c' N : Nat} {X : Rat} (h : Q w s A n c A' n' c' X) (hX : Sz X N) (hN : N ≤ 40000) :
    Calls Tryz.prog 29 #[.agg #[.bool s, .slice A n c, .slice A' n' c']] w (RetBl (decide (4096 < bitsQ X)) w) := by
  obtain ⟨V, hW, Ba, hb0⟩ := box0 45 w #[.bool s, .slice A n c, .slice A' n' c']
  have K := pw_bits (h.below hb0) hX hN
  have e : decide (4096 < bitsQ X) = decide (max (blen X.num.natAbs : Int) (blen X.den) > 4096) := rfl
  rw [e]
  generalize max (blen X.num.natAbs : Int) (blen X.den) = t at *
  have HK := Lib.hid K
  have HW := Lib.hid hW
  clear K hW Ba h e
  go_enter Tryz.func29, Tryz.ntmps29
  go_wp2_with fail
  rw [HW.out]
  with_reducible refine HK.out.mono ?_
  rintro _ w1 ⟨rfl, b1⟩
  go_wp2_with fail
  go_ret
  exact ⟨by simp, bb hb0 b1⟩

set_option maxRecDepth 100000 in
set_option maxHeartbeats 4000000 in
theorem tg_in {w : World} {A B C : Option Addr} {n c m d l f : Nat} {v ts ds : List Rat} {q : RQ} {sy : Bool} {Ay Dy : Option Addr} {ny cy my dy : Nat} {Y : Rat} {i : Nat} {b : Int} (hy : Q w sy Ay ny cy Dy my dy Y) (zy : Sz Y 64) (hv : SlQ w A n c v) (ht : SlQ w B m d ts) (hd : SlQ w C l f ds) (zv : AllSz 64 v) (zt : AllSz 64 ts) (zd : AllSz 64 ds) (hn : n ≤ 65536) (hm : m ≤ 65536) (hl : l ≤ 65536) (hdi : i < l) :
    Calls Tryz.prog 28 #[.agg #[.int .i64 1, .int .i64 (i : Int), .int .i64 b, .bool q.s, .slice q.A q.n q.c, .slice q.A' q.n' q.c'], .agg #[.bool sy, .slice Ay ny cy, .slice Dy my dy], .slice A n c, .slice B m d, .slice C l f] w (RetQE (ds.getD i 0) 0 w) := by
  obtain ⟨g_di, o_di, s_di, A_di, n_di, c_di, D_di, m_di, d_di, rfl, l_di, k0_di, k1_di, k2_di, q_di⟩ := hd.at_ hdi
  have z_di : Sz (ds.getD i 0) 64 := zd.at_ (by have := hd.len; omega)
  obtain ⟨V, hW, Bx, By, Br, hb0⟩ := boxes633 52 45 w #[.int .i64 1, .int .i64 (i : Int), .int .i64 b, .bool q.s, .slice q.A q.n q.c, .slice q.A' q.n' q.c'] #[.bool sy, .slice Ay ny cy, .slice Dy my dy] #[.bool false, .slice none 0 0, .slice none 0 0]
  have hz := hb0.size
  have lx_di : g_di < w.heap.size + 1 := by omega
  have ly_di : g_di < w.heap.size + 1 + 1 := by omega
  generalize ds.getD i 0 = X_di at *
  have K1 := fun (w1 : World) (hb : Below V.heap.size V w1) => tg_clone (q_di.below (bb hb0 hb)) z_di (by omega)
  have HK1 := Lib.hid K1
  have HBr := Lib.hid Br
  have HW := Lib.hid hW
  clear K1 Bx By Br hW hv ht hd zv zt zd hy q_di
  go_enter Tryz.func28, Tryz.ntmps28
  go_wp2_with fail
  rw [HW.out]
  with_reducible refine (HK1.out _ (Below.refl _ V)).mono ?_
  rintro _ w1 ⟨s1, A1, n1, c1, D1, m1, d1, rfl, q1, b1⟩
  have x1 : Below V.heap.size V w1 := b1
  have B9 := HBr.out.below' x1
  obtain ⟨⟨r0, r1, r2⟩, f0, f1, f2⟩ := B9.three
  go_wp2_with fail
  refine bodyPost_ret (v := .tuple #[.agg #[.bool s1, .slice A1 n1 c1, .slice D1 m1 d1], .int .i64 0]) (by simp [results, Tryz.results28, go_sem, r0, r1, r2]) rfl ?_
  exact ⟨_, _, _, _, _, _, _, rfl, q1.put3 ⟨_, _, _, _, _, _, _, B9⟩, below_put3 (bb hb0 x1) (by omega) (Nat.le_refl _) _ _ _⟩

set_option maxRecDepth 100000 in
set_option maxHeartbeats 4000000 in
theorem tg_const {w : World} {A B C : Option Addr} {n c m d l f : Nat} {v ts ds : List Rat} {q : RQ} {sy : Bool} {Ay Dy : Option Addr} {ny cy my dy : Nat} {Y : Rat} {a b : Int} (hy : Q w sy Ay ny cy Dy my dy Y) (zy : Sz Y 64) (hv : SlQ w A n c v) (ht : SlQ w B m d ts) (hd : SlQ w C l f ds) (zv : AllSz 64 v) (zt : AllSz 64 ts) (zd : AllSz 64 ds) (hn : n ≤ 65536) (hm : m ≤ 65536) (hl : l ≤ 65536) :
    Calls Tryz.prog 28 #[.agg #[.int .i64 2, .int .i64 a, .int .i64 b, .bool q.s, .slice q.A q.n q.c, .slice q.A' q.n' q.c'], .agg #[.bool sy, .slice Ay ny cy, .slice Dy my dy], .slice A n c, .slice B m d, .slice C l f] w (RetQE ((0 : Int) : Rat) 0 w) := by
  obtain ⟨V, hW, Bx, By, Br, hb0⟩ := boxes633 52 45 w #[.int .i64 2, .int .i64 a, .int .i64 b, .bool q.s, .slice q.A q.n q.c, .slice q.A' q.n' q.c'] #[.bool sy, .slice Ay ny cy, .slice Dy my dy] #[.bool false, .slice none 0 0, .slice none 0 0]
  have hz := hb0.size
  have K1 := fun (w1 : World) (hb : Below V.heap.size V w1) => rat_of 0 (by omega) (by omega) w1
  have HK1 := Lib.hid K1
  have HBr := Lib.hid Br
  have HW := Lib.hid hW
  clear K1 Bx By Br hW hv ht hd zv zt zd hy
  go_enter Tryz.func28, Tryz.ntmps28
  go_wp2_with fail
  rw [HW.out]
  with_reducible refine (HK1.out _ (Below.refl _ V)).mono ?_
  rintro _ w1 ⟨s1, A1, n1, c1, D1, m1, d1, rfl, q1, b1⟩
  have x1 : Below V.heap.size V w1 := b1
  have B9 := HBr.out.below' x1
  obtain ⟨⟨r0, r1, r2⟩, f0, f1, f2⟩ := B9.three
  go_wp2_with fail
  refine bodyPost_ret (v := .tuple #[.agg #[.bool s1, .slice A1 n1 c1, .slice D1 m1 d1], .int .i64 0]) (by simp [results, Tryz.results28, go_sem, r0, r1, r2]) rfl ?_
  exact ⟨_, _, _, _, _, _, _, rfl, q1.put3 ⟨_, _, _, _, _, _, _, B9⟩, below_put3 (bb hb0 x1) (by omega) (Nat.le_refl _) _ _ _⟩

set_option maxRecDepth 100000 in
set_option maxHeartbeats 4000000 in
theorem tg_neg {w : World} {A B C : Option Addr} {n c m d l f : Nat} {v ts ds : List Rat} {q : RQ} {sy : Bool} {Ay Dy : Option Addr} {ny cy my dy : Nat} {Y : Rat} {i : Nat} {b : Int} (hy : Q w sy Ay ny cy Dy my dy Y) (zy : Sz Y 64) (hv : SlQ w A n c v) (ht : SlQ w B m d ts) (hd : SlQ w C l f ds) (zv : AllSz 64 v) (zt : AllSz 64 ts) (zd : AllSz 64 ds) (hn : n ≤ 65536) (hm : m ≤ 65536) (hl : l ≤ 65536) (hta : i < m) :
    Calls Tryz.prog 28 #[.agg #[.int .i64 3, .int .i64 (i : Int), .int .i64 b, .bool q.s, .slice q.A q.n q.c, .slice q.A' q.n' q.c'], .agg #[.bool sy, .slice Ay ny cy, .slice Dy my dy], .slice A n c, .slice B m d, .slice C l f] w (RetQE (-(ts.getD i 0)) 0 w) := by
  obtain ⟨g_ta, o_ta, s_ta, A_ta, n_ta, c_ta, D_ta, m_ta, d_ta, rfl, l_ta, k0_ta, k1_ta, k2_ta, q_ta⟩ := ht.at_ hta
  have z_ta : Sz (ts.getD i 0) 64 := zt.at_ (by have := ht.len; omega)
  obtain ⟨V, hW, Bx, By, Br, hb0⟩ := boxes633 52 45 w #[.int .i64 3, .int .i64 (i : Int), .int .i64 b, .bool q.s, .slice q.A q.n q.c, .slice q.A' q.n' q.c'] #[.bool sy, .slice Ay ny cy, .slice Dy my dy] #[.bool false, .slice none 0 0, .slice none 0 0]
  have hz := hb0.size
  have lx_ta : g_ta < w.heap.size + 1 := by omega
  have ly_ta : g_ta < w.heap.size + 1 + 1 := by omega
  generalize ts.getD i 0 = X_ta at *
  have K1 := fun (w1 : World) (hb : Below V.heap.size V w1) => rat_negE (q_ta.below (bb hb0 hb)) z_ta (by omega)
  have HK1 := Lib.hid K1
  have HBr := Lib.hid Br
  have HW := Lib.hid hW
  clear K1 Bx By Br hW hv ht hd zv zt zd hy q_ta
  go_enter Tryz.func28, Tryz.ntmps28
  go_wp2_with fail
  rw [HW.out]
  with_reducible refine (HK1.out _ (Below.refl _ V)).mono ?_
  rintro _ w1 ⟨s1, A1, n1, c1, D1, m1, d1, rfl, q1, b1⟩
  have x1 : Below V.heap.size V w1 := b1
  have B9 := HBr.out.below' x1
  obtain ⟨⟨r0, r1, r2⟩, f0, f1, f2⟩ := B9.three
  go_wp2_with fail
  refine bodyPost_ret (v := .tuple #[.agg #[.bool s1, .slice A1 n1 c1, .slice D1 m1 d1], .int .i64 0]) (by simp [results, Tryz.results28, go_sem, r0, r1, r2]) rfl ?_
  exact ⟨_, _, _, _, _, _, _, rfl, q1.put3 ⟨_, _, _, _, _, _, _, B9⟩, below_put3 (bb hb0 x1) (by omega) (Nat.le_refl _) _ _ _⟩

set_option maxRecDepth 100000 in
set_option maxHeartbeats 4000000 in
theorem tg_add {w : World} {A B C : Option Addr} {n c m d l f : Nat} {v ts ds : List Rat} {q : RQ} {sy : Bool} {Ay Dy : Option Addr} {ny cy my dy : Nat} {Y : Rat} {i j : Nat} (hy : Q w sy Ay ny cy Dy my dy Y) (zy : Sz Y 64) (hv : SlQ w A n c v) (ht : SlQ w B m d ts) (hd : SlQ w C l f ds) (zv : AllSz 64 v) (zt : AllSz 64 ts) (zd : AllSz 64 ds) (hn : n ≤ 65536) (hm : m ≤ 65536) (hl : l ≤ 65536) (hta : i < m) (htb : j < m) :
    Calls Tryz.prog 28 #[.agg #[.int .i64 4, .int .i64 (i : Int), .int .i64 (j : Int), .bool q.s, .slice q.A q.n q.c, .slice q.A' q.n' q.c'], .agg #[.bool sy, .slice Ay ny cy, .slice Dy my dy], .slice A n c, .slice B m d, .slice C l f] w (RetQE (ts.getD i 0 + ts.getD j 0) 0 w) := by
  obtain ⟨g_ta, o_ta, s_ta, A_ta, n_ta, c_ta, D_ta, m_ta, d_ta, rfl, l_ta, k0_ta, k1_ta, k2_ta, q_ta⟩ := ht.at_ hta
  obtain ⟨g_tb, o_tb, s_tb, A_tb, n_tb, c_tb, D_tb, m_tb, d_tb, e_tb, l_tb, k0_tb, k1_tb, k2_tb, q_tb⟩ := ht.at_ htb
  injection e_tb with e_tb
  injection e_tb with e1 e2
  subst e1 e2
  clear l_tb
  have z_ta : Sz (ts.getD i 0) 64 := zt.at_ (by have := ht.len; omega)
  have z_tb : Sz (ts.getD j 0) 64 := zt.at_ (by have := ht.len; omega)
  obtain ⟨V, hW, Bx, By, Br, hb0⟩ := boxes633 52 45 w #[.int .i64 4, .int .i64 (i : Int), .int .i64 (j : Int), .bool q.s, .slice q.A q.n q.c, .slice q.A' q.n' q.c'] #[.bool sy, .slice Ay ny cy, .slice Dy my dy] #[.bool false, .slice none 0 0, .slice none 0 0]
  have hz := hb0.size
  have hS : ∀ w', Below V.heap.size V w' → w'.cell? ⟨w.heap.size, 1, none⟩ = some (.int .i64 (i : Int)) ∧ w'.cell? ⟨w.heap.size, 2, none⟩ = some (.int .i64 (j : Int)) ∧ w'.cell? ⟨g_ta, o_ta + i * 3, none⟩ = some (.bool s_ta) ∧ w'.cell? ⟨g_ta, o_ta + i * 3 + 1, none⟩ = some (.slice A_ta n_ta c_ta) ∧ w'.cell? ⟨g_ta, o_ta + i * 3 + 2, none⟩ = some (.slice D_ta m_ta d_ta) ∧ w'.cell? ⟨g_ta, o_ta + j * 3, none⟩ = some (.bool s_tb) ∧ w'.cell? ⟨g_ta, o_ta + j * 3 + 1, none⟩ = some (.slice A_tb n_tb c_tb) ∧ w'.cell? ⟨g_ta, o_ta + j * 3 + 2, none⟩ = some (.slice D_tb m_tb d_tb) := fun w' hb => ⟨(Bx.below' hb).six.1.2.1, (Bx.below' hb).six.1.2.2.1, ((bb hb0 hb).cell (p := ⟨g_ta, o_ta + i * 3, none⟩) l_ta).trans k0_ta, ((bb hb0 hb).cell (p := ⟨g_ta, o_ta + i * 3 + 1, none⟩) l_ta).trans k1_ta, ((bb hb0 hb).cell (p := ⟨g_ta, o_ta + i * 3 + 2, none⟩) l_ta).trans k2_ta, ((bb hb0 hb).cell (p := ⟨g_ta, o_ta + j * 3, none⟩) l_ta).trans k0_tb, ((bb hb0 hb).cell (p := ⟨g_ta, o_ta + j * 3 + 1, none⟩) l_ta).trans k1_tb, ((bb hb0 hb).cell (p := ⟨g_ta, o_ta + j * 3 + 2, none⟩) l_ta).trans k2_tb⟩
  have hP : ∀ (w' : World) (x0 x1 x2 : Value), Below V.heap.size V w' → (fun w' : World => w'.cell? ⟨w.heap.size, 1, none⟩ = some (.int .i64 (i : Int)) ∧ w'.cell? ⟨w.heap.size, 2, none⟩ = some (.int .i64 (j : Int)) ∧ w'.cell? ⟨g_ta, o_ta + i * 3, none⟩ = some (.bool s_ta) ∧ w'.cell? ⟨g_ta, o_ta + i * 3 + 1, none⟩ = some (.slice A_ta n_ta c_ta) ∧ w'.cell? ⟨g_ta, o_ta + i * 3 + 2, none⟩ = some (.slice D_ta m_ta d_ta) ∧ w'.cell? ⟨g_ta, o_ta + j * 3, none⟩ = some (.bool s_tb) ∧ w'.cell? ⟨g_ta, o_ta + j * 3 + 1, none⟩ = some (.slice A_tb n_tb c_tb) ∧ w'.cell? ⟨g_ta, o_ta + j * 3 + 2, none⟩ = some (.slice D_tb m_tb d_tb)) (put3 w' (w.heap.size + 1 + 1) x0 x1 x2) := fun w' x0 x1 x2 hb => by
    obtain ⟨p0, p1, p2, p3, p4, p5, p6, p7⟩ := hS w' hb
    have hlx : w.heap.size < w'.heap.size := (Bx.below' hb).lt
    have hly : w.heap.size + 1 < w'.heap.size := (By.below' hb).lt
    have hl_ta : g_ta < w'.heap.size := Nat.lt_of_lt_of_le l_ta (Nat.le_trans hz hb.size)
    exact ⟨(cell_put3 (by omega) hlx).trans p0, (cell_put3 (by omega) hlx).trans p1, (cell_put3 (by omega) hl_ta).trans p2, (cell_put3 (by omega) hl_ta).trans p3, (cell_put3 (by omega) hl_ta).trans p4, (cell_put3 (by omega) hl_ta).trans p5, (cell_put3 (by omega) hl_ta).trans p6, (cell_put3 (by omega) hl_ta).trans p7⟩
  simp only [put3] at hP
  generalize ts.getD i 0 = X_ta at *
  generalize ts.getD j 0 = X_tb at *
  have K1 := fun (w1 : World) (hb : Below V.heap.size V w1) => rat_add (q_ta.below (bb hb0 hb)) (q_tb.below (bb hb0 hb)) z_ta z_tb (by omega)
  have HK1 := Lib.hid K1
  have HS := Lib.hid hS
  have HP := Lib.hid hP
  have HBr := Lib.hid Br
  have HW := Lib.hid hW
  clear K1 hS hP Bx By Br hW hv ht hd zv zt zd hy q_ta q_tb k0_ta k1_ta k2_ta k0_tb k1_tb k2_tb
  go_enter Tryz.func28, Tryz.ntmps28
  go_wp2_with fail
  rw [HW.out]
  obtain ⟨p0, p1, p2, p3, p4, p5, p6, p7⟩ := HS.out _ (Below.refl _ V)
  go_region_held3 (fun w' => w'.cell? ⟨w.heap.size, 1, none⟩ = some (.int .i64 (i : Int)) ∧ w'.cell? ⟨w.heap.size, 2, none⟩ = some (.int .i64 (j : Int)) ∧ w'.cell? ⟨g_ta, o_ta + i * 3, none⟩ = some (.bool s_ta) ∧ w'.cell? ⟨g_ta, o_ta + i * 3 + 1, none⟩ = some (.slice A_ta n_ta c_ta) ∧ w'.cell? ⟨g_ta, o_ta + i * 3 + 2, none⟩ = some (.slice D_ta m_ta d_ta) ∧ w'.cell? ⟨g_ta, o_ta + j * 3, none⟩ = some (.bool s_tb) ∧ w'.cell? ⟨g_ta, o_ta + j * 3 + 1, none⟩ = some (.slice A_tb n_tb c_tb) ∧ w'.cell? ⟨g_ta, o_ta + j * 3 + 2, none⟩ = some (.slice D_tb m_tb d_tb)) (first | with_reducible exact HS.out _ (Below.refl _ V).drew | with_reducible exact HS4.out | with_reducible exact HS.out _ x1 | fail)
    (first
      | (go_at_call 18; (with_reducible refine (HK1.out _ ?hb1).mono ?_); (case hb1 => exact (Below.refl _ V).drew); rintro _ w1 ⟨s1, A1, n1, c1, D1, m1, d1, rfl, q1, b1⟩; have x1 : Below V.heap.size V w1 := Below.undrew b1; have HS4 := Lib.hid (HP.out w1 (.bool s1) (.slice A1 n1 c1) (.slice D1 m1 d1) x1); have B9 := HBr.out.below' x1; obtain ⟨⟨r0, r1, r2⟩, f0, f1, f2⟩ := B9.three))
  all_goals
    go_wp2_with fail
    refine bodyPost_ret (v := .tuple #[.agg #[.bool s1, .slice A1 n1 c1, .slice D1 m1 d1], .int .i64 0]) (by simp [results, Tryz.results28, go_sem, r0, r1, r2]) rfl ?_
    exact ⟨_, _, _, _, _, _, _, rfl, q1.put3 ⟨_, _, _, _, _, _, _, B9⟩, below_put3 (bb hb0 x1) (by omega) (Nat.le_refl _) _ _ _⟩

set_option maxRecDepth 100000 in
set_option maxHeartbeats 4000000 in
theorem tg_sub {w : World} {A B C : Option Addr} {n c m d l f : Nat} {v ts ds : List Rat} {q : RQ} {sy : Bool} {Ay Dy : Option Addr} {ny cy my dy : Nat} {Y : Rat} {i j : Nat} (hy : Q w sy Ay ny cy Dy my dy Y) (zy : Sz Y 64) (hv : SlQ w A n c v) (ht : SlQ w B m d ts) (hd : SlQ w C l f ds) (zv : AllSz 64 v) (zt : AllSz 64 ts) (zd : AllSz 64 ds) (hn : n ≤ 65536) (hm : m ≤ 65536) (hl : l ≤ 65536) (hta : i < m) (htb : j < m) :
    Calls Tryz.prog 28 #[.agg #[.int .i64 5, .int .i64 (i : Int), .int .i64 (j : Int), .bool q.s, .slice q.A q.n q.c, .slice q.A' q.n' q.c'], .agg #[.bool sy, .slice Ay ny cy, .slice Dy my dy], .slice A n c, .slice B m d, .slice C l f] w (RetQE (ts.getD i 0 - ts.getD j 0) 0 w) := by
  obtain ⟨g_ta, o_ta, s_ta, A_ta, n_ta, c_ta, D_ta, m_ta, d_ta, rfl, l_ta, k0_ta, k1_ta, k2_ta, q_ta⟩ := ht.at_ hta
  obtain ⟨g_tb, o_tb, s_tb, A_tb, n_tb, c_tb, D_tb, m_tb, d_tb, e_tb, l_tb, k0_tb, k1_tb, k2_tb, q_tb⟩ := ht.at_ htb
  injection e_tb with e_tb
  injection e_tb with e1 e2
  subst e1 e2
  clear l_tb
  have z_ta : Sz (ts.getD i 0) 64 := zt.at_ (by have := ht.len; omega)
  have z_tb : Sz (ts.getD j 0) 64 := zt.at_ (by have := ht.len; omega)
  obtain ⟨V, hW, Bx, By, Br, hb0⟩ := boxes633 52 45 w #[.int .i64 5, .int .i64 (i : Int), .int .i64 (j : Int), .bool q.s, .slice q.A q.n q.c, .slice q.A' q.n' q.c'] #[.bool sy, .slice Ay ny cy, .slice Dy my dy] #[.bool false, .slice none 0 0, .slice none 0 0]
  have hz := hb0.size
  have hS : ∀ w', Below V.heap.size V w' → w'.cell? ⟨w.heap.size, 1, none⟩ = some (.int .i64 (i : Int)) ∧ w'.cell? ⟨w.heap.size, 2, none⟩ = some (.int .i64 (j : Int)) ∧ w'.cell? ⟨g_ta, o_ta + i * 3, none⟩ = some (.bool s_ta) ∧ w'.cell? ⟨g_ta, o_ta + i * 3 + 1, none⟩ = some (.slice A_ta n_ta c_ta) ∧ w'.cell? ⟨g_ta, o_ta + i * 3 + 2, none⟩ = some (.slice D_ta m_ta d_ta) ∧ w'.cell? ⟨g_ta, o_ta + j * 3, none⟩ = some (.bool s_tb) ∧ w'.cell? ⟨g_ta, o_ta + j * 3 + 1, none⟩ = some (.slice A_tb n_tb c_tb) ∧ w'.cell? ⟨g_ta, o_ta + j * 3 + 2, none⟩ = some (.slice D_tb m_tb d_tb) := fun w' hb => ⟨(Bx.below' hb).six.1.2.1, (Bx.below' hb).six.1.2.2.1, ((bb hb0 hb).cell (p := ⟨g_ta, o_ta + i * 3, none⟩) l_ta).trans k0_ta, ((bb hb0 hb).cell (p := ⟨g_ta, o_ta + i * 3 + 1, none⟩) l_ta).trans k1_ta, ((bb hb0 hb).cell (p := ⟨g_ta, o_ta + i * 3 + 2, none⟩) l_ta).trans k2_ta, ((bb hb0 hb).cell (p := ⟨g_ta, o_ta + j * 3, none⟩) l_ta).trans k0_tb, ((bb hb0 hb).cell (p := ⟨g_ta, o_ta + j * 3 + 1, none⟩) l_ta).trans k1_tb, ((bb hb0 hb).cell (p := ⟨g_ta, o_ta + j * 3 + 2, none⟩) l_ta).trans k2_tb⟩
  have hP : ∀ (w' : World) (x0 x1 x2 : Value), Below V.heap.size V w' → (fun w' : World => w'.cell? ⟨w.heap.size, 1, none⟩ = some (.int .i64 (i : Int)) ∧ w'.cell? ⟨w.heap.size, 2, none⟩ = some (.int .i64 (j : Int)) ∧ w'.cell? ⟨g_ta, o_ta + i * 3, none⟩ = some (.bool s_ta) ∧ w'.cell? ⟨g_ta, o_ta + i * 3 + 1, none⟩ = some (.slice A_ta n_ta c_ta) ∧ w'.cell? ⟨g_ta, o_ta + i * 3 + 2, none⟩ = some (.slice D_ta m_ta d_ta) ∧ w'.cell? ⟨g_ta, o_ta + j * 3, none⟩ = some (.bool s_tb) ∧ w'.cell? ⟨g_ta, o_ta + j * 3 + 1, none⟩ = some (.slice A_tb n_tb c_tb) ∧ w'.cell? ⟨g_ta, o_ta + j * 3 + 2, none⟩ = some (.slice D_tb m_tb d_tb)) (put3 w' (w.heap.size + 1 + 1) x0 x1 x2) := fun w' x0 x1 x2 hb => by
    obtain ⟨p0, p1, p2, p3, p4, p5, p6, p7⟩ := hS w' hb
    have hlx : w.heap.size < w'.heap.size := (Bx.below' hb).lt
    have hly : w.heap.size + 1 < w'.heap.size := (By.below' hb).lt
    have hl_ta : g_ta < w'.heap.size := Nat.lt_of_lt_of_le l_ta (Nat.le_trans hz hb.size)
    exact ⟨(cell_put3 (by omega) hlx).trans p0, (cell_put3 (by omega) hlx).trans p1, (cell_put3 (by omega) hl_ta).trans p2, (cell_put3 (by omega) hl_ta).trans p3, (cell_put3 (by omega) hl_ta).trans p4, (cell_put3 (by omega) hl_ta).trans p5, (cell_put3 (by omega) hl_ta).trans p6, (cell_put3 (by omega) hl_ta).trans p7⟩
  simp only [put3] at hP
  generalize ts.getD i 0 = X_ta at *
  generalize ts.getD j 0 = X_tb at *
  have K1 := fun (w1 : World) (hb : Below V.heap.size V w1) => rat_sub (q_ta.below (bb hb0 hb)) (q_tb.below (bb hb0 hb)) z_ta z_tb (by omega)
  have HK1 := Lib.hid K1
  have HS := Lib.hid hS
  have HP := Lib.hid hP
  have HBr := Lib.hid Br
  have HW := Lib.hid hW
  clear K1 hS hP Bx By Br hW hv ht hd zv zt zd hy q_ta q_tb k0_ta k1_ta k2_ta k0_tb k1_tb k2_tb
  go_enter Tryz.func28, Tryz.ntmps28
  go_wp2_with fail
  rw [HW.out]
  obtain ⟨p0, p1, p2, p3, p4, p5, p6, p7⟩ := HS.out _ (Below.refl _ V)
  go_region_held3 (fun w' => w'.cell? ⟨w.heap.size, 1, none⟩ = some (.int .i64 (i : Int)) ∧ w'.cell? ⟨w.heap.size, 2, none⟩ = some (.int .i64 (j : Int)) ∧ w'.cell? ⟨g_ta, o_ta + i * 3, none⟩ = some (.bool s_ta) ∧ w'.cell? ⟨g_ta, o_ta + i * 3 + 1, none⟩ = some (.slice A_ta n_ta c_ta) ∧ w'.cell? ⟨g_ta, o_ta + i * 3 + 2, none⟩ = some (.slice D_ta m_ta d_ta) ∧ w'.cell? ⟨g_ta, o_ta + j * 3, none⟩ = some (.bool s_tb) ∧ w'.cell? ⟨g_ta, o_ta + j * 3 + 1, none⟩ = some (.slice A_tb n_tb c_tb) ∧ w'.cell? ⟨g_ta, o_ta + j * 3 + 2, none⟩ = some (.slice D_tb m_tb d_tb)) (first | with_reducible exact HS.out _ (Below.refl _ V).drew | with_reducible exact HS4.out | with_reducible exact HS.out _ x1 | fail)
    (first
      | (go_at_call 67; (with_reducible refine (HK1.out _ ?hb1).mono ?_); (case hb1 => exact (Below.refl _ V).drew); rintro _ w1 ⟨s1, A1, n1, c1, D1, m1, d1, rfl, q1, b1⟩; have x1 : Below V.heap.size V w1 := Below.undrew b1; have HS4 := Lib.hid (HP.out w1 (.bool s1) (.slice A1 n1 c1) (.slice D1 m1 d1) x1); have B9 := HBr.out.below' x1; obtain ⟨⟨r0, r1, r2⟩, f0, f1, f2⟩ := B9.three))
  all_goals
    go_wp2_with fail
    refine bodyPost_ret (v := .tuple #[.agg #[.bool s1, .slice A1 n1 c1, .slice D1 m1 d1], .int .i64 0]) (by simp [results, Tryz.results28, go_sem, r0, r1, r2]) rfl ?_
    exact ⟨_, _, _, _, _, _, _, rfl, q1.put3 ⟨_, _, _, _, _, _, _, B9⟩, below_put3 (bb hb0 x1) (by omega) (Nat.le_refl _) _ _ _⟩

set_option maxRecDepth 100000 in
set_option maxHeartbeats 4000000 in
theorem tg_mul {w : World} {A B C : Option Addr} {n c m d l f : Nat} {v ts ds : List Rat} {q : RQ} {sy : Bool} {Ay Dy : Option Addr} {ny cy my dy : Nat} {Y : Rat} {i j : Nat} (hy : Q w sy Ay ny cy Dy my dy Y) (zy : Sz Y 64) (hv : SlQ w A n c v) (ht : SlQ w B m d ts) (hd : SlQ w C l f ds) (zv : AllSz 64 v) (zt : AllSz 64 ts) (zd : AllSz 64 ds) (hn : n ≤ 65536) (hm : m ≤ 65536) (hl : l ≤ 65536) (hta : i < m) (htb : j < m) (hva : i < n) (hvb : j < n) :
    Calls Tryz.prog 28 #[.agg #[.int .i64 6, .int .i64 (i : Int), .int .i64 (j : Int), .bool q.s, .slice q.A q.n q.c, .slice q.A' q.n' q.c'], .agg #[.bool sy, .slice Ay ny cy, .slice Dy my dy], .slice A n c, .slice B m d, .slice C l f] w (RetQE (ts.getD i 0 * v.getD j 0 + v.getD i 0 * ts.getD j 0) 0 w) := by
  obtain ⟨g_ta, o_ta, s_ta, A_ta, n_ta, c_ta, D_ta, m_ta, d_ta, rfl, l_ta, k0_ta, k1_ta, k2_ta, q_ta⟩ := ht.at_ hta
  obtain ⟨g_tb, o_tb, s_tb, A_tb, n_tb, c_tb, D_tb, m_tb, d_tb, e_tb, l_tb, k0_tb, k1_tb, k2_tb, q_tb⟩ := ht.at_ htb
  injection e_tb with e_tb
  injection e_tb with e1 e2
  subst e1 e2
  clear l_tb
  obtain ⟨g_va, o_va, s_va, A_va, n_va, c_va, D_va, m_va, d_va, rfl, l_va, k0_va, k1_va, k2_va, q_va⟩ := hv.at_ hva
  obtain ⟨g_vb, o_vb, s_vb, A_vb, n_vb, c_vb, D_vb, m_vb, d_vb, e_vb, l_vb, k0_vb, k1_vb, k2_vb, q_vb⟩ := hv.at_ hvb
  injection e_vb with e_vb
  injection e_vb with e1 e2
  subst e1 e2
  clear l_vb
  have z_ta : Sz (ts.getD i 0) 64 := zt.at_ (by have := ht.len; omega)
  have z_tb : Sz (ts.getD j 0) 64 := zt.at_ (by have := ht.len; omega)
  have z_va : Sz (v.getD i 0) 64 := zv.at_ (by have := hv.len; omega)
  have z_vb : Sz (v.getD j 0) 64 := zv.at_ (by have := hv.len; omega)
  obtain ⟨V, hW, Bx, By, Br, hb0⟩ := boxes633 52 45 w #[.int .i64 6, .int .i64 (i : Int), .int .i64 (j : Int), .bool q.s, .slice q.A q.n q.c, .slice q.A' q.n' q.c'] #[.bool sy, .slice Ay ny cy, .slice Dy my dy] #[.bool false, .slice none 0 0, .slice none 0 0]
  have hz := hb0.size
  have hS : ∀ w', Below V.heap.size V w' → w'.cell? ⟨w.heap.size, 1, none⟩ = some (.int .i64 (i : Int)) ∧ w'.cell? ⟨w.heap.size, 2, none⟩ = some (.int .i64 (j : Int)) ∧ w'.cell? ⟨g_ta, o_ta + i * 3, none⟩ = some (.bool s_ta) ∧ w'.cell? ⟨g_ta, o_ta + i * 3 + 1, none⟩ = some (.slice A_ta n_ta c_ta) ∧ w'.cell? ⟨g_ta, o_ta + i * 3 + 2, none⟩ = some (.slice D_ta m_ta d_ta) ∧ w'.cell? ⟨g_ta, o_ta + j * 3, none⟩ = some (.bool s_tb) ∧ w'.cell? ⟨g_ta, o_ta + j * 3 + 1, none⟩ = some (.slice A_tb n_tb c_tb) ∧ w'.cell? ⟨g_ta, o_ta + j * 3 + 2, none⟩ = some (.slice D_tb m_tb d_tb) ∧ w'.cell? ⟨g_va, o_va + i * 3, none⟩ = some (.bool s_va) ∧ w'.cell? ⟨g_va, o_va + i * 3 + 1, none⟩ = some (.slice A_va n_va c_va) ∧ w'.cell? ⟨g_va, o_va + i * 3 + 2, none⟩ = some (.slice D_va m_va d_va) ∧ w'.cell? ⟨g_va, o_va + j * 3, none⟩ = some (.bool s_vb) ∧ w'.cell? ⟨g_va, o_va + j * 3 + 1, none⟩ = some (.slice A_vb n_vb c_vb) ∧ w'.cell? ⟨g_va, o_va + j * 3 + 2, none⟩ = some (.slice D_vb m_vb d_vb) := fun w' hb => ⟨(Bx.below' hb).six.1.2.1, (Bx.below' hb).six.1.2.2.1, ((bb hb0 hb).cell (p := ⟨g_ta, o_ta + i * 3, none⟩) l_ta).trans k0_ta, ((bb hb0 hb).cell (p := ⟨g_ta, o_ta + i * 3 + 1, none⟩) l_ta).trans k1_ta, ((bb hb0 hb).cell (p := ⟨g_ta, o_ta + i * 3 + 2, none⟩) l_ta).trans k2_ta, ((bb hb0 hb).cell (p := ⟨g_ta, o_ta + j * 3, none⟩) l_ta).trans k0_tb, ((bb hb0 hb).cell (p := ⟨g_ta, o_ta + j * 3 + 1, none⟩) l_ta).trans k1_tb, ((bb hb0 hb).cell (p := ⟨g_ta, o_ta + j * 3 + 2, none⟩) l_ta).trans k2_tb, ((bb hb0 hb).cell (p := ⟨g_va, o_va + i * 3, none⟩) l_va).trans k0_va, ((bb hb0 hb).cell (p := ⟨g_va, o_va + i * 3 + 1, none⟩) l_va).trans k1_va, ((bb hb0 hb).cell (p := ⟨g_va, o_va + i * 3 + 2, none⟩) l_va).trans k2_va, ((bb hb0 hb).cell (p := ⟨g_va, o_va + j * 3, none⟩) l_va).trans k0_vb, ((bb hb0 hb).cell (p := ⟨g_va, o_va + j * 3 + 1, none⟩) l_va).trans k1_vb, ((bb hb0 hb).cell (p := ⟨g_va, o_va + j * 3 + 2, none⟩) l_va).trans k2_vb⟩
  have hP : ∀ (w' : World) (x0 x1 x2 : Value), Below V.heap.size V w' → (fun w' : World => w'.cell? ⟨w.heap.size, 1, none⟩ = some (.int .i64 (i : Int)) ∧ w'.cell? ⟨w.heap.size, 2, none⟩ = some (.int .i64 (j : Int)) ∧ w'.cell? ⟨g_ta, o_ta + i * 3, none⟩ = some (.bool s_ta) ∧ w'.cell? ⟨g_ta, o_ta + i * 3 + 1, none⟩ = some (.slice A_ta n_ta c_ta) ∧ w'.cell? ⟨g_ta, o_ta + i * 3 + 2, none⟩ = some (.slice D_ta m_ta d_ta) ∧ w'.cell? ⟨g_ta, o_ta + j * 3, none⟩ = some (.bool s_tb) ∧ w'.cell? ⟨g_ta, o_ta + j * 3 + 1, none⟩ = some (.slice A_tb n_tb c_tb) ∧ w'.cell? ⟨g_ta, o_ta + j * 3 + 2, none⟩ = some (.slice D_tb m_tb d_tb) ∧ w'.cell? ⟨g_va, o_va + i * 3, none⟩ = some (.bool s_va) ∧ w'.cell? ⟨g_va, o_va + i * 3 + 1, none⟩ = some (.slice A_va n_va c_va) ∧ w'.cell? ⟨g_va, o_va + i * 3 + 2, none⟩ = some (.slice D_va m_va d_va) ∧ w'.cell? ⟨g_va, o_va + j * 3, none⟩ = some (.bool s_vb) ∧ w'.cell? ⟨g_va, o_va + j * 3 + 1, none⟩ = some (.slice A_vb n_vb c_vb) ∧ w'.cell? ⟨g_va, o_va + j * 3 + 2, none⟩ = some (.slice D_vb m_vb d_vb)) (put3 w' (w.heap.size + 1 + 1) x0 x1 x2) := fun w' x0 x1 x2 hb => by
    obtain ⟨p0, p1, p2, p3, p4, p5, p6, p7, p8, p9, p10, p11, p12, p13⟩ := hS w' hb
    have hlx : w.heap.size < w'.heap.size := (Bx.below' hb).lt
    have hly : w.heap.size + 1 < w'.heap.size := (By.below' hb).lt
    have hl_ta : g_ta < w'.heap.size := Nat.lt_of_lt_of_le l_ta (Nat.le_trans hz hb.size)
    have hl_va : g_va < w'.heap.size := Nat.lt_of_lt_of_le l_va (Nat.le_trans hz hb.size)
    exact ⟨(cell_put3 (by omega) hlx).trans p0, (cell_put3 (by omega) hlx).trans p1, (cell_put3 (by omega) hl_ta).trans p2, (cell_put3 (by omega) hl_ta).trans p3, (cell_put3 (by omega) hl_ta).trans p4, (cell_put3 (by omega) hl_ta).trans p5, (cell_put3 (by omega) hl_ta).trans p6, (cell_put3 (by omega) hl_ta).trans p7, (cell_put3 (by omega) hl_va).trans p8, (cell_put3 (by omega) hl_va).trans p9, (cell_put3 (by omega) hl_va).trans p10, (cell_put3 (by omega) hl_va).trans p11, (cell_put3 (by omega) hl_va).trans p12, (cell_put3 (by omega) hl_va).trans p13⟩
  simp only [put3] at hP
  generalize ts.getD i 0 = X_ta at *
  generalize ts.getD j 0 = X_tb at *
  generalize v.getD i 0 = X_va at *
  generalize v.getD j 0 = X_vb at *
  have K1 := fun (w1 : World) (hb : Below V.heap.size V w1) => rat_mul (q_ta.below (bb hb0 hb)) (q_vb.below (bb hb0 hb)) z_ta z_vb (by omega)
  have HK1 := Lib.hid K1
  have K2 := fun (w1 : World) (hb : Below V.heap.size V w1) => rat_mul (q_va.below (bb hb0 hb)) (q_tb.below (bb hb0 hb)) z_va z_tb (by omega)
  have HK2 := Lib.hid K2
  have HS := Lib.hid hS
  have HP := Lib.hid hP
  have HBr := Lib.hid Br
  have HW := Lib.hid hW
  clear K1 K2 hS hP Bx By Br hW hv ht hd zv zt zd hy q_ta q_tb q_va q_vb k0_ta k1_ta k2_ta k0_tb k1_tb k2_tb k0_va k1_va k2_va k0_vb k1_vb k2_vb
  go_enter Tryz.func28, Tryz.ntmps28
  go_wp2_with fail
  rw [HW.out]
  obtain ⟨p0, p1, p2, p3, p4, p5, p6, p7, p8, p9, p10, p11, p12, p13⟩ := HS.out _ (Below.refl _ V)
  go_region_held3 (fun w' => w'.cell? ⟨w.heap.size, 1, none⟩ = some (.int .i64 (i : Int)) ∧ w'.cell? ⟨w.heap.size, 2, none⟩ = some (.int .i64 (j : Int)) ∧ w'.cell? ⟨g_ta, o_ta + i * 3, none⟩ = some (.bool s_ta) ∧ w'.cell? ⟨g_ta, o_ta + i * 3 + 1, none⟩ = some (.slice A_ta n_ta c_ta) ∧ w'.cell? ⟨g_ta, o_ta + i * 3 + 2, none⟩ = some (.slice D_ta m_ta d_ta) ∧ w'.cell? ⟨g_ta, o_ta + j * 3, none⟩ = some (.bool s_tb) ∧ w'.cell? ⟨g_ta, o_ta + j * 3 + 1, none⟩ = some (.slice A_tb n_tb c_tb) ∧ w'.cell? ⟨g_ta, o_ta + j * 3 + 2, none⟩ = some (.slice D_tb m_tb d_tb) ∧ w'.cell? ⟨g_va, o_va + i * 3, none⟩ = some (.bool s_va) ∧ w'.cell? ⟨g_va, o_va + i * 3 + 1, none⟩ = some (.slice A_va n_va c_va) ∧ w'.cell? ⟨g_va, o_va + i * 3 + 2, none⟩ = some (.slice D_va m_va d_va) ∧ w'.cell? ⟨g_va, o_va + j * 3, none⟩ = some (.bool s_vb) ∧ w'.cell? ⟨g_va, o_va + j * 3 + 1, none⟩ = some (.slice A_vb n_vb c_vb) ∧ w'.cell? ⟨g_va, o_va + j * 3 + 2, none⟩ = some (.slice D_vb m_vb d_vb)) (first | with_reducible exact HS.out _ (Below.refl _ V).drew | with_reducible exact HS4.out | with_reducible exact HS.out _ x3 | with_reducible exact HS.out _ x2 | with_reducible exact HS.out _ x1 | fail)
    (first
      | (go_at_call 19; (with_reducible refine (HK1.out _ ?hb1).mono ?_); (case hb1 => exact (Below.refl _ V).drew); rintro _ w1 ⟨s1, A1, n1, c1, D1, m1, d1, rfl, q1, b1⟩; have x1 : Below V.heap.size V w1 := Below.undrew b1)
      | (go_at_call 19; (with_reducible refine (HK2.out _ x1).mono ?_); rintro _ w2 ⟨s2, A2, n2, c2, D2, m2, d2, rfl, q2, b2⟩; have x2 : Below V.heap.size V w2 := bb x1 b2)
      | (go_at_call 18; (with_reducible refine (rat_add (q1.below b2) q2 (z_ta.mul z_vb) (z_va.mul z_tb) (by omega)).mono ?_); rintro _ w3 ⟨s3, A3, n3, c3, D3, m3, d3, rfl, q3, b3⟩; have x3 : Below V.heap.size V w3 := bb x2 b3; have HS4 := Lib.hid (HP.out w3 (.bool s3) (.slice A3 n3 c3) (.slice D3 m3 d3) x3); have B9 := HBr.out.below' x3; obtain ⟨⟨r0, r1, r2⟩, f0, f1, f2⟩ := B9.three))
  all_goals
    go_wp2_with fail
    refine bodyPost_ret (v := .tuple #[.agg #[.bool s3, .slice A3 n3 c3, .slice D3 m3 d3], .int .i64 0]) (by simp [results, Tryz.results28, go_sem, r0, r1, r2]) rfl ?_
    exact ⟨_, _, _, _, _, _, _, rfl, q3.put3 ⟨_, _, _, _, _, _, _, B9⟩, below_put3 (bb hb0 x3) (by omega) (Nat.le_refl _) _ _ _⟩

set_option maxRecDepth 100000 in
set_option maxHeartbeats 4000000 in
theorem tg_div {w : World} {A B C : Option Addr} {n c m d l f : Nat} {v ts ds : List Rat} {q : RQ} {sy : Bool} {Ay Dy : Option Addr} {ny cy my dy : Nat} {Y : Rat} {i j : Nat} (hy : Q w sy Ay ny cy Dy my dy Y) (zy : Sz Y 64) (hv : SlQ w A n c v) (ht : SlQ w B m d ts) (hd : SlQ w C l f ds) (zv : AllSz 64 v) (zt : AllSz 64 ts) (zd : AllSz 64 ds) (hn : n ≤ 65536) (hm : m ≤ 65536) (hl : l ≤ 65536) (hta : i < m) (htb : j < m) (hvb : j < n) (h0 : v.getD j 0 ≠ 0) :
    Calls Tryz.prog 28 #[.agg #[.int .i64 7, .int .i64 (i : Int), .int .i64 (j : Int), .bool q.s, .slice q.A q.n q.c, .slice q.A' q.n' q.c'], .agg #[.bool sy, .slice Ay ny cy, .slice Dy my dy], .slice A n c, .slice B m d, .slice C l f] w (RetQE ((ts.getD i 0 - Y * ts.getD j 0) / v.getD j 0) 0 w) := by
  obtain ⟨g_ta, o_ta, s_ta, A_ta, n_ta, c_ta, D_ta, m_ta, d_ta, rfl, l_ta, k0_ta, k1_ta, k2_ta, q_ta⟩ := ht.at_ hta
  obtain ⟨g_tb, o_tb, s_tb, A_tb, n_tb, c_tb, D_tb, m_tb, d_tb, e_tb, l_tb, k0_tb, k1_tb, k2_tb, q_tb⟩ := ht.at_ htb
  injection e_tb with e_tb
  injection e_tb with e1 e2
  subst e1 e2
  clear l_tb
  obtain ⟨g_vb, o_vb, s_vb, A_vb, n_vb, c_vb, D_vb, m_vb, d_vb, rfl, l_vb, k0_vb, k1_vb, k2_vb, q_vb⟩ := hv.at_ hvb
  have z_ta : Sz (ts.getD i 0) 64 := zt.at_ (by have := ht.len; omega)
  have z_tb : Sz (ts.getD j 0) 64 := zt.at_ (by have := ht.len; omega)
  have z_vb : Sz (v.getD j 0) 64 := zv.at_ (by have := hv.len; omega)
  obtain ⟨V, hW, Bx, By, Br, hb0⟩ := boxes633 52 45 w #[.int .i64 7, .int .i64 (i : Int), .int .i64 (j : Int), .bool q.s, .slice q.A q.n q.c, .slice q.A' q.n' q.c'] #[.bool sy, .slice Ay ny cy, .slice Dy my dy] #[.bool false, .slice none 0 0, .slice none 0 0]
  have hz := hb0.size
  have hS : ∀ w', Below V.heap.size V w' → w'.cell? ⟨w.heap.size, 1, none⟩ = some (.int .i64 (i : Int)) ∧ w'.cell? ⟨w.heap.size, 2, none⟩ = some (.int .i64 (j : Int)) ∧ w'.cell? ⟨w.heap.size + 1, 0, none⟩ = some (.bool sy) ∧ w'.cell? ⟨w.heap.size + 1, 1, none⟩ = some (.slice Ay ny cy) ∧ w'.cell? ⟨w.heap.size + 1, 2, none⟩ = some (.slice Dy my dy) ∧ w'.cell? ⟨g_ta, o_ta + i * 3, none⟩ = some (.bool s_ta) ∧ w'.cell? ⟨g_ta, o_ta + i * 3 + 1, none⟩ = some (.slice A_ta n_ta c_ta) ∧ w'.cell? ⟨g_ta, o_ta + i * 3 + 2, none⟩ = some (.slice D_ta m_ta d_ta) ∧ w'.cell? ⟨g_ta, o_ta + j * 3, none⟩ = some (.bool s_tb) ∧ w'.cell? ⟨g_ta, o_ta + j * 3 + 1, none⟩ = some (.slice A_tb n_tb c_tb) ∧ w'.cell? ⟨g_ta, o_ta + j * 3 + 2, none⟩ = some (.slice D_tb m_tb d_tb) ∧ w'.cell? ⟨g_vb, o_vb + j * 3, none⟩ = some (.bool s_vb) ∧ w'.cell? ⟨g_vb, o_vb + j * 3 + 1, none⟩ = some (.slice A_vb n_vb c_vb) ∧ w'.cell? ⟨g_vb, o_vb + j * 3 + 2, none⟩ = some (.slice D_vb m_vb d_vb) := fun w' hb => ⟨(Bx.below' hb).six.1.2.1, (Bx.below' hb).six.1.2.2.1, (By.below' hb).three.1.1, (By.below' hb).three.1.2.1, (By.below' hb).three.1.2.2, ((bb hb0 hb).cell (p := ⟨g_ta, o_ta + i * 3, none⟩) l_ta).trans k0_ta, ((bb hb0 hb).cell (p := ⟨g_ta, o_ta + i * 3 + 1, none⟩) l_ta).trans k1_ta, ((bb hb0 hb).cell (p := ⟨g_ta, o_ta + i * 3 + 2, none⟩) l_ta).trans k2_ta, ((bb hb0 hb).cell (p := ⟨g_ta, o_ta + j * 3, none⟩) l_ta).trans k0_tb, ((bb hb0 hb).cell (p := ⟨g_ta, o_ta + j * 3 + 1, none⟩) l_ta).trans k1_tb, ((bb hb0 hb).cell (p := ⟨g_ta, o_ta + j * 3 + 2, none⟩) l_ta).trans k2_tb, ((bb hb0 hb).cell (p := ⟨g_vb, o_vb + j * 3, none⟩) l_vb).trans k0_vb, ((bb hb0 hb).cell (p := ⟨g_vb, o_vb + j * 3 + 1, none⟩) l_vb).trans k1_vb, ((bb hb0 hb).cell (p := ⟨g_vb, o_vb + j * 3 + 2, none⟩) l_vb).trans k2_vb⟩
  have hP : ∀ (w' : World) (x0 x1 x2 : Value), Below V.heap.size V w' → (fun w' : World => w'.cell? ⟨w.heap.size, 1, none⟩ = some (.int .i64 (i : Int)) ∧ w'.cell? ⟨w.heap.size, 2, none⟩ = some (.int .i64 (j : Int)) ∧ w'.cell? ⟨w.heap.size + 1, 0, none⟩ = some (.bool sy) ∧ w'.cell? ⟨w.heap.size + 1, 1, none⟩ = some (.slice Ay ny cy) ∧ w'.cell? ⟨w.heap.size + 1, 2, none⟩ = some (.slice Dy my dy) ∧ w'.cell? ⟨g_ta, o_ta + i * 3, none⟩ = some (.bool s_ta) ∧ w'.cell? ⟨g_ta, o_ta + i * 3 + 1, none⟩ = some (.slice A_ta n_ta c_ta) ∧ w'.cell? ⟨g_ta, o_ta + i * 3 + 2, none⟩ = some (.slice D_ta m_ta d_ta) ∧ w'.cell? ⟨g_ta, o_ta + j * 3, none⟩ = some (.bool s_tb) ∧ w'.cell? ⟨g_ta, o_ta + j * 3 + 1, none⟩ = some (.slice A_tb n_tb c_tb) ∧ w'.cell? ⟨g_ta, o_ta + j * 3 + 2, none⟩ = some (.slice D_tb m_tb d_tb) ∧ w'.cell? ⟨g_vb, o_vb + j * 3, none⟩ = some (.bool s_vb) ∧ w'.cell? ⟨g_vb, o_vb + j * 3 + 1, none⟩ = some (.slice A_vb n_vb c_vb) ∧ w'.cell? ⟨g_vb, o_vb + j * 3 + 2, none⟩ = some (.slice D_vb m_vb d_vb)) (put3 w' (w.heap.size + 1 + 1) x0 x1 x2) := fun w' x0 x1 x2 hb => by
    obtain ⟨p0, p1, p2, p3, p4, p5, p6, p7, p8, p9, p10, p11, p12, p13⟩ := hS w' hb
    have hlx : w.heap.size < w'.heap.size := (Bx.below' hb).lt
    have hly : w.heap.size + 1 < w'.heap.size := (By.below' hb).lt
    have hl_ta : g_ta < w'.heap.size := Nat.lt_of_lt_of_le l_ta (Nat.le_trans hz hb.size)
    have hl_vb : g_vb < w'.heap.size := Nat.lt_of_lt_of_le l_vb (Nat.le_trans hz hb.size)
    exact ⟨(cell_put3 (by omega) hlx).trans p0, (cell_put3 (by omega) hlx).trans p1, (cell_put3 (by omega) hly).trans p2, (cell_put3 (by omega) hly).trans p3, (cell_put3 (by omega) hly).trans p4, (cell_put3 (by omega) hl_ta).trans p5, (cell_put3 (by omega) hl_ta).trans p6, (cell_put3 (by omega) hl_ta).trans p7, (cell_put3 (by omega) hl_ta).trans p8, (cell_put3 (by omega) hl_ta).trans p9, (cell_put3 (by omega) hl_ta).trans p10, (cell_put3 (by omega) hl_vb).trans p11, (cell_put3 (by omega) hl_vb).trans p12, (cell_put3 (by omega) hl_vb).trans p13⟩
  simp only [put3] at hP
  generalize ts.getD i 0 = X_ta at *
  generalize ts.getD j 0 = X_tb at *
  generalize v.getD j 0 = X_vb at *
  have K1 := fun (w1 : World) (hb : Below V.heap.size V w1) => rat_mul (hy.below (bb hb0 hb)) (q_tb.below (bb hb0 hb)) zy z_tb (by omega)
  have HK1 := Lib.hid K1
  have H_ta := Lib.hid (fun (w1 : World) (hb : Below V.heap.size V w1) => q_ta.below (bb hb0 hb))
  have H_vb := Lib.hid (fun (w1 : World) (hb : Below V.heap.size V w1) => q_vb.below (bb hb0 hb))
  have HS := Lib.hid hS
  have HP := Lib.hid hP
  have HBr := Lib.hid Br
  have HW := Lib.hid hW
  clear K1 hS hP Bx By Br hW hv ht hd zv zt zd hy q_ta q_tb q_vb k0_ta k1_ta k2_ta k0_tb k1_tb k2_tb k0_vb k1_vb k2_vb
  go_enter Tryz.func28, Tryz.ntmps28
  go_wp2_with fail
  rw [HW.out]
  obtain ⟨p0, p1, p2, p3, p4, p5, p6, p7, p8, p9, p10, p11, p12, p13⟩ := HS.out _ (Below.refl _ V)
  go_region_held3 (fun w' => w'.cell? ⟨w.heap.size, 1, none⟩ = some (.int .i64 (i : Int)) ∧ w'.cell? ⟨w.heap.size, 2, none⟩ = some (.int .i64 (j : Int)) ∧ w'.cell? ⟨w.heap.size + 1, 0, none⟩ = some (.bool sy) ∧ w'.cell? ⟨w.heap.size + 1, 1, none⟩ = some (.slice Ay ny cy) ∧ w'.cell? ⟨w.heap.size + 1, 2, none⟩ = some (.slice Dy my dy) ∧ w'.cell? ⟨g_ta, o_ta + i * 3, none⟩ = some (.bool s_ta) ∧ w'.cell? ⟨g_ta, o_ta + i * 3 + 1, none⟩ = some (.slice A_ta n_ta c_ta) ∧ w'.cell? ⟨g_ta, o_ta + i * 3 + 2, none⟩ = some (.slice D_ta m_ta d_ta) ∧ w'.cell? ⟨g_ta, o_ta + j * 3, none⟩ = some (.bool s_tb) ∧ w'.cell? ⟨g_ta, o_ta + j * 3 + 1, none⟩ = some (.slice A_tb n_tb c_tb) ∧ w'.cell? ⟨g_ta, o_ta + j * 3 + 2, none⟩ = some (.slice D_tb m_tb d_tb) ∧ w'.cell? ⟨g_vb, o_vb + j * 3, none⟩ = some (.bool s_vb) ∧ w'.cell? ⟨g_vb, o_vb + j * 3 + 1, none⟩ = some (.slice A_vb n_vb c_vb) ∧ w'.cell? ⟨g_vb, o_vb + j * 3 + 2, none⟩ = some (.slice D_vb m_vb d_vb)) (first | with_reducible exact HS.out _ (Below.refl _ V).drew | with_reducible exact HS4.out | with_reducible exact HS.out _ x3 | with_reducible exact HS.out _ x2 | with_reducible exact HS.out _ x1 | fail)
    (first
      | (go_at_call 19; (with_reducible refine (HK1.out _ ?hb1).mono ?_); (case hb1 => exact (Below.refl _ V).drew); rintro _ w1 ⟨s1, A1, n1, c1, D1, m1, d1, rfl, q1, b1⟩; have x1 : Below V.heap.size V w1 := Below.undrew b1)
      | (go_at_call 67; (with_reducible refine (rat_sub (N := 128) (H_ta.out _ x1) q1 (z_ta.mono (by omega)) (zy.mul z_tb) (by omega)).mono ?_); rintro _ w2 ⟨s2, A2, n2, c2, D2, m2, d2, rfl, q2, b2⟩; have x2 : Below V.heap.size V w2 := bb x1 b2)
      | (go_at_call 68; (with_reducible refine (rat_div (N := 193) q2 (H_vb.out _ x2) ((z_ta.sub (zy.mul z_tb)).mono (by omega)) (z_vb.mono (by omega)) (by omega) h0).mono ?_); rintro _ w3 ⟨s3, A3, n3, c3, D3, m3, d3, rfl, q3, b3⟩; have x3 : Below V.heap.size V w3 := bb x2 b3; have HS4 := Lib.hid (HP.out w3 (.bool s3) (.slice A3 n3 c3) (.slice D3 m3 d3) x3); have B9 := HBr.out.below' x3; obtain ⟨⟨r0, r1, r2⟩, f0, f1, f2⟩ := B9.three))
  all_goals
    go_wp2_with fail
    refine bodyPost_ret (v := .tuple #[.agg #[.bool s3, .slice A3 n3 c3, .slice D3 m3 d3], .int .i64 0]) (by simp [results, Tryz.results28, go_sem, r0, r1, r2]) rfl ?_
    exact ⟨_, _, _, _, _, _, _, rfl, q3.put3 ⟨_, _, _, _, _, _, _, B9⟩, below_put3 (bb hb0 x3) (by omega) (Nat.le_refl _) _ _ _⟩

set_option maxRecDepth 100000 in
set_option maxHeartbeats 4000000 in
theorem tg_div_no {w : World} {A B C : Option Addr} {n c m d l f : Nat} {v ts ds : List Rat} {q : RQ} {sy : Bool} {Ay Dy : Option Addr} {ny cy my dy : Nat} {Y : Rat} {i j : Nat} (hy : Q w sy Ay ny cy Dy my dy Y) (zy : Sz Y 64) (hv : SlQ w A n c v) (ht : SlQ w B m d ts) (hd : SlQ w C l f ds) (zv : AllSz 64 v) (zt : AllSz 64 ts) (zd : AllSz 64 ds) (hn : n ≤ 65536) (hm : m ≤ 65536) (hl : l ≤ 65536) (hta : i < m) (htb : j < m) (hvb : j < n) (h0 : v.getD j 0 = 0) :
    Calls Tryz.prog 28 #[.agg #[.int .i64 7, .int .i64 (i : Int), .int .i64 (j : Int), .bool q.s, .slice q.A q.n q.c, .slice q.A' q.n' q.c'], .agg #[.bool sy, .slice Ay ny cy, .slice Dy my dy], .slice A n c, .slice B m d, .slice C l f] w (RetNo 4 w) := by
  obtain ⟨g_ta, o_ta, s_ta, A_ta, n_ta, c_ta, D_ta, m_ta, d_ta, rfl, l_ta, k0_ta, k1_ta, k2_ta, q_ta⟩ := ht.at_ hta
  obtain ⟨g_tb, o_tb, s_tb, A_tb, n_tb, c_tb, D_tb, m_tb, d_tb, e_tb, l_tb, k0_tb, k1_tb, k2_tb, q_tb⟩ := ht.at_ htb
  injection e_tb with e_tb
  injection e_tb with e1 e2
  subst e1 e2
  clear l_tb
  obtain ⟨g_vb, o_vb, s_vb, A_vb, n_vb, c_vb, D_vb, m_vb, d_vb, rfl, l_vb, k0_vb, k1_vb, k2_vb, q_vb⟩ := hv.at_ hvb
  have z_ta : Sz (ts.getD i 0) 64 := zt.at_ (by have := ht.len; omega)
  have z_tb : Sz (ts.getD j 0) 64 := zt.at_ (by have := ht.len; omega)
  have z_vb : Sz (v.getD j 0) 64 := zv.at_ (by have := hv.len; omega)
  obtain ⟨V, hW, Bx, By, Br, hb0⟩ := boxes633 52 45 w #[.int .i64 7, .int .i64 (i : Int), .int .i64 (j : Int), .bool q.s, .slice q.A q.n q.c, .slice q.A' q.n' q.c'] #[.bool sy, .slice Ay ny cy, .slice Dy my dy] #[.bool false, .slice none 0 0, .slice none 0 0]
  have hz := hb0.size
  have hS : ∀ w', Below V.heap.size V w' → w'.cell? ⟨w.heap.size, 1, none⟩ = some (.int .i64 (i : Int)) ∧ w'.cell? ⟨w.heap.size, 2, none⟩ = some (.int .i64 (j : Int)) ∧ w'.cell? ⟨w.heap.size + 1, 0, none⟩ = some (.bool sy) ∧ w'.cell? ⟨w.heap.size + 1, 1, none⟩ = some (.slice Ay ny cy) ∧ w'.cell? ⟨w.heap.size + 1, 2, none⟩ = some (.slice Dy my dy) ∧ w'.cell? ⟨g_ta, o_ta + i * 3, none⟩ = some (.bool s_ta) ∧ w'.cell? ⟨g_ta, o_ta + i * 3 + 1, none⟩ = some (.slice A_ta n_ta c_ta) ∧ w'.cell? ⟨g_ta, o_ta + i * 3 + 2, none⟩ = some (.slice D_ta m_ta d_ta) ∧ w'.cell? ⟨g_ta, o_ta + j * 3, none⟩ = some (.bool s_tb) ∧ w'.cell? ⟨g_ta, o_ta + j * 3 + 1, none⟩ = some (.slice A_tb n_tb c_tb) ∧ w'.cell? ⟨g_ta, o_ta + j * 3 + 2, none⟩ = some (.slice D_tb m_tb d_tb) ∧ w'.cell? ⟨g_vb, o_vb + j * 3, none⟩ = some (.bool s_vb) ∧ w'.cell? ⟨g_vb, o_vb + j * 3 + 1, none⟩ = some (.slice A_vb n_vb c_vb) ∧ w'.cell? ⟨g_vb, o_vb + j * 3 + 2, none⟩ = some (.slice D_vb m_vb d_vb) := fun w' hb => ⟨(Bx.below' hb).six.1.2.1, (Bx.below' hb).six.1.2.2.1, (By.below' hb).three.1.1, (By.below' hb).three.1.2.1, (By.below' hb).three.1.2.2, ((bb hb0 hb).cell (p := ⟨g_ta, o_ta + i * 3, none⟩) l_ta).trans k0_ta, ((bb hb0 hb).cell (p := ⟨g_ta, o_ta + i * 3 + 1, none⟩) l_ta).trans k1_ta, ((bb hb0 hb).cell (p := ⟨g_ta, o_ta + i * 3 + 2, none⟩) l_ta).trans k2_ta, ((bb hb0 hb).cell (p := ⟨g_ta, o_ta + j * 3, none⟩) l_ta).trans k0_tb, ((bb hb0 hb).cell (p := ⟨g_ta, o_ta + j * 3 + 1, none⟩) l_ta).trans k1_tb, ((bb hb0 hb).cell (p := ⟨g_ta, o_ta + j * 3 + 2, none⟩) l_ta).trans k2_tb, ((bb hb0 hb).cell (p := ⟨g_vb, o_vb + j * 3, none⟩) l_vb).trans k0_vb, ((bb hb0 hb).cell (p := ⟨g_vb, o_vb + j * 3 + 1, none⟩) l_vb).trans k1_vb, ((bb hb0 hb).cell (p := ⟨g_vb, o_vb + j * 3 + 2, none⟩) l_vb).trans k2_vb⟩
  have hP : ∀ (w' : World) (x0 x1 x2 : Value), Below V.heap.size V w' → (fun w' : World => w'.cell? ⟨w.heap.size, 1, none⟩ = some (.int .i64 (i : Int)) ∧ w'.cell? ⟨w.heap.size, 2, none⟩ = some (.int .i64 (j : Int)) ∧ w'.cell? ⟨w.heap.size + 1, 0, none⟩ = some (.bool sy) ∧ w'.cell? ⟨w.heap.size + 1, 1, none⟩ = some (.slice Ay ny cy) ∧ w'.cell? ⟨w.heap.size + 1, 2, none⟩ = some (.slice Dy my dy) ∧ w'.cell? ⟨g_ta, o_ta + i * 3, none⟩ = some (.bool s_ta) ∧ w'.cell? ⟨g_ta, o_ta + i * 3 + 1, none⟩ = some (.slice A_ta n_ta c_ta) ∧ w'.cell? ⟨g_ta, o_ta + i * 3 + 2, none⟩ = some (.slice D_ta m_ta d_ta) ∧ w'.cell? ⟨g_ta, o_ta + j * 3, none⟩ = some (.bool s_tb) ∧ w'.cell? ⟨g_ta, o_ta + j * 3 + 1, none⟩ = some (.slice A_tb n_tb c_tb) ∧ w'.cell? ⟨g_ta, o_ta + j * 3 + 2, none⟩ = some (.slice D_tb m_tb d_tb) ∧ w'.cell? ⟨g_vb, o_vb + j * 3, none⟩ = some (.bool s_vb) ∧ w'.cell? ⟨g_vb, o_vb + j * 3 + 1, none⟩ = some (.slice A_vb n_vb c_vb) ∧ w'.cell? ⟨g_vb, o_vb + j * 3 + 2, none⟩ = some (.slice D_vb m_vb d_vb)) (put3 w' (w.heap.size + 1 + 1) x0 x1 x2) := fun w' x0 x1 x2 hb => by
    obtain ⟨p0, p1, p2, p3, p4, p5, p6, p7, p8, p9, p10, p11, p12, p13⟩ := hS w' hb
    have hlx : w.heap.size < w'.heap.size := (Bx.below' hb).lt
    have hly : w.heap.size + 1 < w'.heap.size := (By.below' hb).lt
    have hl_ta : g_ta < w'.heap.size := Nat.lt_of_lt_of_le l_ta (Nat.le_trans hz hb.size)
    have hl_vb : g_vb < w'.heap.size := Nat.lt_of_lt_of_le l_vb (Nat.le_trans hz hb.size)
    exact ⟨(cell_put3 (by omega) hlx).trans p0, (cell_put3 (by omega) hlx).trans p1, (cell_put3 (by omega) hly).trans p2, (cell_put3 (by omega) hly).trans p3, (cell_put3 (by omega) hly).trans p4, (cell_put3 (by omega) hl_ta).trans p5, (cell_put3 (by omega) hl_ta).trans p6, (cell_put3 (by omega) hl_ta).trans p7, (cell_put3 (by omega) hl_ta).trans p8, (cell_put3 (by omega) hl_ta).trans p9, (cell_put3 (by omega) hl_ta).trans p10, (cell_put3 (by omega) hl_vb).trans p11, (cell_put3 (by omega) hl_vb).trans p12, (cell_put3 (by omega) hl_vb).trans p13⟩
  simp only [put3] at hP
  generalize ts.getD i 0 = X_ta at *
  generalize ts.getD j 0 = X_tb at *
  generalize v.getD j 0 = X_vb at *
  have K1 := fun (w1 : World) (hb : Below V.heap.size V w1) => rat_mul (hy.below (bb hb0 hb)) (q_tb.below (bb hb0 hb)) zy z_tb (by omega)
  have HK1 := Lib.hid K1
  have H_ta := Lib.hid (fun (w1 : World) (hb : Below V.heap.size V w1) => q_ta.below (bb hb0 hb))
  have H_vb := Lib.hid (fun (w1 : World) (hb : Below V.heap.size V w1) => q_vb.below (bb hb0 hb))
  have HS := Lib.hid hS
  have HP := Lib.hid hP
  have HBr := Lib.hid Br
  have HW := Lib.hid hW
  clear K1 hS hP Bx By Br hW hv ht hd zv zt zd hy q_ta q_tb q_vb k0_ta k1_ta k2_ta k0_tb k1_tb k2_tb k0_vb k1_vb k2_vb
  go_enter Tryz.func28, Tryz.ntmps28
  go_wp2_with fail
  rw [HW.out]
  obtain ⟨p0, p1, p2, p3, p4, p5, p6, p7, p8, p9, p10, p11, p12, p13⟩ := HS.out _ (Below.refl _ V)
  go_region_held3 (fun w' => w'.cell? ⟨w.heap.size, 1, none⟩ = some (.int .i64 (i : Int)) ∧ w'.cell? ⟨w.heap.size, 2, none⟩ = some (.int .i64 (j : Int)) ∧ w'.cell? ⟨w.heap.size + 1, 0, none⟩ = some (.bool sy) ∧ w'.cell? ⟨w.heap.size + 1, 1, none⟩ = some (.slice Ay ny cy) ∧ w'.cell? ⟨w.heap.size + 1, 2, none⟩ = some (.slice Dy my dy) ∧ w'.cell? ⟨g_ta, o_ta + i * 3, none⟩ = some (.bool s_ta) ∧ w'.cell? ⟨g_ta, o_ta + i * 3 + 1, none⟩ = some (.slice A_ta n_ta c_ta) ∧ w'.cell? ⟨g_ta, o_ta + i * 3 + 2, none⟩ = some (.slice D_ta m_ta d_ta) ∧ w'.cell? ⟨g_ta, o_ta + j * 3, none⟩ = some (.bool s_tb) ∧ w'.cell? ⟨g_ta, o_ta + j * 3 + 1, none⟩ = some (.slice A_tb n_tb c_tb) ∧ w'.cell? ⟨g_ta, o_ta + j * 3 + 2, none⟩ = some (.slice D_tb m_tb d_tb) ∧ w'.cell? ⟨g_vb, o_vb + j * 3, none⟩ = some (.bool s_vb) ∧ w'.cell? ⟨g_vb, o_vb + j * 3 + 1, none⟩ = some (.slice A_vb n_vb c_vb) ∧ w'.cell? ⟨g_vb, o_vb + j * 3 + 2, none⟩ = some (.slice D_vb m_vb d_vb)) (first | with_reducible exact HS.out _ (Below.refl _ V).drew | with_reducible exact HS4.out | with_reducible exact HS.out _ x3 | with_reducible exact HS.out _ x2 | with_reducible exact HS.out _ x1 | fail)
    (first
      | (go_at_call 19; (with_reducible refine (HK1.out _ ?hb1).mono ?_); (case hb1 => exact (Below.refl _ V).drew); rintro _ w1 ⟨s1, A1, n1, c1, D1, m1, d1, rfl, q1, b1⟩; have x1 : Below V.heap.size V w1 := Below.undrew b1)
      | (go_at_call 67; (with_reducible refine (rat_sub (N := 128) (H_ta.out _ x1) q1 (z_ta.mono (by omega)) (zy.mul z_tb) (by omega)).mono ?_); rintro _ w2 ⟨s2, A2, n2, c2, D2, m2, d2, rfl, q2, b2⟩; have x2 : Below V.heap.size V w2 := bb x1 b2)
      | (go_at_call 68; (with_reducible refine (rat_div_zero (N := 193) q2 (H_vb.out _ x2) ((z_ta.sub (zy.mul z_tb)).mono (by omega)) (z_vb.mono (by omega)) (by omega) h0).mono ?_); rintro _ w3 ⟨rfl, b3⟩; have x3 : Below V.heap.size V w3 := bb x2 b3; have HS4 := Lib.hid (HP.out w3 (.bool false) (.slice none 0 0) (.slice none 0 0) x3); have B9 := HBr.out.below' x3; obtain ⟨⟨r0, r1, r2⟩, f0, f1, f2⟩ := B9.three))
  all_goals
    go_wp2_with fail
    refine bodyPost_ret (v := .tuple #[.agg #[.bool false, .slice none 0 0, .slice none 0 0], .int .i64 4]) (by simp [results, Tryz.results28, go_sem, r0, r1, r2]) rfl ?_
    exact ⟨rfl, below_put3 (bb hb0 x3) (by omega) (Nat.le_refl _) _ _ _⟩

set_option maxRecDepth 100000 in
set_option maxHeartbeats 4000000 in
theorem tg_sqrt {w : World} {A B C : Option Addr} {n c m d l f : Nat} {v ts ds : List Rat} {q : RQ} {sy : Bool} {Ay Dy : Option Addr} {ny cy my dy : Nat} {Y : Rat} {i : Nat} {b : Int} (hy : Q w sy Ay ny cy Dy my dy Y) (zy : Sz Y 64) (hv : SlQ w A n c v) (ht : SlQ w B m d ts) (hd : SlQ w C l f ds) (zv : AllSz 64 v) (zt : AllSz 64 ts) (zd : AllSz 64 ds) (hn : n ≤ 65536) (hm : m ≤ 65536) (hl : l ≤ 65536) (hta : i < m) (h0 : Y + Y ≠ 0) :
    Calls Tryz.prog 28 #[.agg #[.int .i64 8, .int .i64 (i : Int), .int .i64 b, .bool q.s, .slice q.A q.n q.c, .slice q.A' q.n' q.c'], .agg #[.bool sy, .slice Ay ny cy, .slice Dy my dy], .slice A n c, .slice B m d, .slice C l f] w (RetQE (ts.getD i 0 / (Y + Y)) 0 w) := by
  obtain ⟨g_ta, o_ta, s_ta, A_ta, n_ta, c_ta, D_ta, m_ta, d_ta, rfl, l_ta, k0_ta, k1_ta, k2_ta, q_ta⟩ := ht.at_ hta
  have z_ta : Sz (ts.getD i 0) 64 := zt.at_ (by have := ht.len; omega)
  obtain ⟨V, hW, Bx, By, Br, hb0⟩ := boxes633 52 45 w #[.int .i64 8, .int .i64 (i : Int), .int .i64 b, .bool q.s, .slice q.A q.n q.c, .slice q.A' q.n' q.c'] #[.bool sy, .slice Ay ny cy, .slice Dy my dy] #[.bool false, .slice none 0 0, .slice none 0 0]
  have hz := hb0.size
  have hS : ∀ w', Below V.heap.size V w' → w'.cell? ⟨w.heap.size, 1, none⟩ = some (.int .i64 (i : Int)) ∧ w'.cell? ⟨w.heap.size + 1, 0, none⟩ = some (.bool sy) ∧ w'.cell? ⟨w.heap.size + 1, 1, none⟩ = some (.slice Ay ny cy) ∧ w'.cell? ⟨w.heap.size + 1, 2, none⟩ = some (.slice Dy my dy) ∧ w'.cell? ⟨g_ta, o_ta + i * 3, none⟩ = some (.bool s_ta) ∧ w'.cell? ⟨g_ta, o_ta + i * 3 + 1, none⟩ = some (.slice A_ta n_ta c_ta) ∧ w'.cell? ⟨g_ta, o_ta + i * 3 + 2, none⟩ = some (.slice D_ta m_ta d_ta) := fun w' hb => ⟨(Bx.below' hb).six.1.2.1, (By.below' hb).three.1.1, (By.below' hb).three.1.2.1, (By.below' hb).three.1.2.2, ((bb hb0 hb).cell (p := ⟨g_ta, o_ta + i * 3, none⟩) l_ta).trans k0_ta, ((bb hb0 hb).cell (p := ⟨g_ta, o_ta + i * 3 + 1, none⟩) l_ta).trans k1_ta, ((bb hb0 hb).cell (p := ⟨g_ta, o_ta + i * 3 + 2, none⟩) l_ta).trans k2_ta⟩
  have hP : ∀ (w' : World) (x0 x1 x2 : Value), Below V.heap.size V w' → (fun w' : World => w'.cell? ⟨w.heap.size, 1, none⟩ = some (.int .i64 (i : Int)) ∧ w'.cell? ⟨w.heap.size + 1, 0, none⟩ = some (.bool sy) ∧ w'.cell? ⟨w.heap.size + 1, 1, none⟩ = some (.slice Ay ny cy) ∧ w'.cell? ⟨w.heap.size + 1, 2, none⟩ = some (.slice Dy my dy) ∧ w'.cell? ⟨g_ta, o_ta + i * 3, none⟩ = some (.bool s_ta) ∧ w'.cell? ⟨g_ta, o_ta + i * 3 + 1, none⟩ = some (.slice A_ta n_ta c_ta) ∧ w'.cell? ⟨g_ta, o_ta + i * 3 + 2, none⟩ = some (.slice D_ta m_ta d_ta)) (put3 w' (w.heap.size + 1 + 1) x0 x1 x2) := fun w' x0 x1 x2 hb => by
    obtain ⟨p0, p1, p2, p3, p4, p5, p6⟩ := hS w' hb
    have hlx : w.heap.size < w'.heap.size := (Bx.below' hb).lt
    have hly : w.heap.size + 1 < w'.heap.size := (By.below' hb).lt
    have hl_ta : g_ta < w'.heap.size := Nat.lt_of_lt_of_le l_ta (Nat.le_trans hz hb.size)
    exact ⟨(cell_put3 (by omega) hlx).trans p0, (cell_put3 (by omega) hly).trans p1, (cell_put3 (by omega) hly).trans p2, (cell_put3 (by omega) hly).trans p3, (cell_put3 (by omega) hl_ta).trans p4, (cell_put3 (by omega) hl_ta).trans p5, (cell_put3 (by omega) hl_ta).trans p6⟩
  simp only [put3] at hP
  generalize ts.getD i 0 = X_ta at *
  have K1 := fun (w1 : World) (hb : Below V.heap.size V w1) => rat_add (hy.below (bb hb0 hb)) (hy.below (bb hb0 hb)) zy zy (by omega)
  have HK1 := Lib.hid K1
  have H_ta := Lib.hid (fun (w1 : World) (hb : Below V.heap.size V w1) => q_ta.below (bb hb0 hb))
  have HS := Lib.hid hS
  have HP := Lib.hid hP
  have HBr := Lib.hid Br
  have HW := Lib.hid hW
  clear K1 hS hP Bx By Br hW hv ht hd zv zt zd hy q_ta k0_ta k1_ta k2_ta
  go_enter Tryz.func28, Tryz.ntmps28
  go_wp2_with fail
  rw [HW.out]
  obtain ⟨p0, p1, p2, p3, p4, p5, p6⟩ := HS.out _ (Below.refl _ V)
  go_region_held3 (fun w' => w'.cell? ⟨w.heap.size, 1, none⟩ = some (.int .i64 (i : Int)) ∧ w'.cell? ⟨w.heap.size + 1, 0, none⟩ = some (.bool sy) ∧ w'.cell? ⟨w.heap.size + 1, 1, none⟩ = some (.slice Ay ny cy) ∧ w'.cell? ⟨w.heap.size + 1, 2, none⟩ = some (.slice Dy my dy) ∧ w'.cell? ⟨g_ta, o_ta + i * 3, none⟩ = some (.bool s_ta) ∧ w'.cell? ⟨g_ta, o_ta + i * 3 + 1, none⟩ = some (.slice A_ta n_ta c_ta) ∧ w'.cell? ⟨g_ta, o_ta + i * 3 + 2, none⟩ = some (.slice D_ta m_ta d_ta)) (first | with_reducible exact HS.out _ (Below.refl _ V).drew | with_reducible exact HS4.out | with_reducible exact HS.out _ x2 | with_reducible exact HS.out _ x1 | fail)
    (first
      | (go_at_call 18; (with_reducible refine (HK1.out _ ?hb1).mono ?_); (case hb1 => exact (Below.refl _ V).drew); rintro _ w1 ⟨s1, A1, n1, c1, D1, m1, d1, rfl, q1, b1⟩; have x1 : Below V.heap.size V w1 := Below.undrew b1)
      | (go_at_call 68; (with_reducible refine (rat_div (N := 129) (H_ta.out _ x1) q1 (z_ta.mono (by omega)) (zy.add zy) (by omega) h0).mono ?_); rintro _ w2 ⟨s2, A2, n2, c2, D2, m2, d2, rfl, q2, b2⟩; have x2 : Below V.heap.size V w2 := bb x1 b2; have HS4 := Lib.hid (HP.out w2 (.bool s2) (.slice A2 n2 c2) (.slice D2 m2 d2) x2); have B9 := HBr.out.below' x2; obtain ⟨⟨r0, r1, r2⟩, f0, f1, f2⟩ := B9.three))
  all_goals
    go_wp2_with fail
    refine bodyPost_ret (v := .tuple #[.agg #[.bool s2, .slice A2 n2 c2, .slice D2 m2 d2], .int .i64 0]) (by simp [results, Tryz.results28, go_sem, r0, r1, r2]) rfl ?_
    exact ⟨_, _, _, _, _, _, _, rfl, q2.put3 ⟨_, _, _, _, _, _, _, B9⟩, below_put3 (bb hb0 x2) (by omega) (Nat.le_refl _) _ _ _⟩

set_option maxRecDepth 100000 in
set_option maxHeartbeats 4000000 in
theorem tg_sqrt_no {w : World} {A B C : Option Addr} {n c m d l f : Nat} {v ts ds : List Rat} {q : RQ} {sy : Bool} {Ay Dy : Option Addr} {ny cy my dy : Nat} {Y : Rat} {i : Nat} {b : Int} (hy : Q w sy Ay ny cy Dy my dy Y) (zy : Sz Y 64) (hv : SlQ w A n c v) (ht : SlQ w B m d ts) (hd : SlQ w C l f ds) (zv : AllSz 64 v) (zt : AllSz 64 ts) (zd : AllSz 64 ds) (hn : n ≤ 65536) (hm : m ≤ 65536) (hl : l ≤ 65536) (hta : i < m) (h0 : Y + Y = 0) :
    Calls Tryz.prog 28 #[.agg #[.int .i64 8, .int .i64 (i : Int), .int .i64 b, .bool q.s, .slice q.A q.n q.c, .slice q.A' q.n' q.c'], .agg #[.bool sy, .slice Ay ny cy, .slice Dy my dy], .slice A n c, .slice B m d, .slice C l f] w (RetNo 4 w) := by
  obtain ⟨g_ta, o_ta, s_ta, A_ta, n_ta, c_ta, D_ta, m_ta, d_ta, rfl, l_ta, k0_ta, k1_ta, k2_ta, q_ta⟩ := ht.at_ hta
  have z_ta : Sz (ts.getD i 0) 64 := zt.at_ (by have := ht.len; omega)
  obtain ⟨V, hW, Bx, By, Br, hb0⟩ := boxes633 52 45 w #[.int .i64 8, .int .i64 (i : Int), .int .i64 b, .bool q.s, .slice q.A q.n q.c, .slice q.A' q.n' q.c'] #[.bool sy, .slice Ay ny cy, .slice Dy my dy] #[.bool false, .slice none 0 0, .slice none 0 0]
  have hz := hb0.size
  have hS : ∀ w', Below V.heap.size V w' → w'.cell? ⟨w.heap.size, 1, none⟩ = some (.int .i64 (i : Int)) ∧ w'.cell? ⟨w.heap.size + 1, 0, none⟩ = some (.bool sy) ∧ w'.cell? ⟨w.heap.size + 1, 1, none⟩ = some (.slice Ay ny cy) ∧ w'.cell? ⟨w.heap.size + 1, 2, none⟩ = some (.slice Dy my dy) ∧ w'.cell? ⟨g_ta, o_ta + i * 3, none⟩ = some (.bool s_ta) ∧ w'.cell? ⟨g_ta, o_ta + i * 3 + 1, none⟩ = some (.slice A_ta n_ta c_ta) ∧ w'.cell? ⟨g_ta, o_ta + i * 3 + 2, none⟩ = some (.slice D_ta m_ta d_ta) := fun w' hb => ⟨(Bx.below' hb).six.1.2.1, (By.below' hb).three.1.1, (By.below' hb).three.1.2.1, (By.below' hb).three.1.2.2, ((bb hb0 hb).cell (p := ⟨g_ta, o_ta + i * 3, none⟩) l_ta).trans k0_ta, ((bb hb0 hb).cell (p := ⟨g_ta, o_ta + i * 3 + 1, none⟩) l_ta).trans k1_ta, ((bb hb0 hb).cell (p := ⟨g_ta, o_ta + i * 3 + 2, none⟩) l_ta).trans k2_ta⟩
  have hP : ∀ (w' : World) (x0 x1 x2 : Value), Below V.heap.size V w' → (fun w' : World => w'.cell? ⟨w.heap.size, 1, none⟩ = some (.int .i64 (i : Int)) ∧ w'.cell? ⟨w.heap.size + 1, 0, none⟩ = some (.bool sy) ∧ w'.cell? ⟨w.heap.size + 1, 1, none⟩ = some (.slice Ay ny cy) ∧ w'.cell? ⟨w.heap.size + 1, 2, none⟩ = some (.slice Dy my dy) ∧ w'.cell? ⟨g_ta, o_ta + i * 3, none⟩ = some (.bool s_ta) ∧ w'.cell? ⟨g_ta, o_ta + i * 3 + 1, none⟩ = some (.slice A_ta n_ta c_ta) ∧ w'.cell? ⟨g_ta, o_ta + i * 3 + 2, none⟩ = some (.slice D_ta m_ta d_ta)) (put3 w' (w.heap.size + 1 + 1) x0 x1 x2) := fun w' x0 x1 x2 hb => by
    obtain ⟨p0, p1, p2, p3, p4, p5, p6⟩ := hS w' hb
    have hlx : w.heap.size < w'.heap.size := (Bx.below' hb).lt
    have hly : w.heap.size + 1 < w'.heap.size := (By.below' hb).lt
    have hl_ta : g_ta < w'.heap.size := Nat.lt_of_lt_of_le l_ta (Nat.le_trans hz hb.size)
    exact ⟨(cell_put3 (by omega) hlx).trans p0, (cell_put3 (by omega) hly).trans p1, (cell_put3 (by omega) hly).trans p2, (cell_put3 (by omega) hly).trans p3, (cell_put3 (by omega) hl_ta).trans p4, (cell_put3 (by omega) hl_ta).trans p5, (cell_put3 (by omega) hl_ta).trans p6⟩
  simp only [put3] at hP
  generalize ts.getD i 0 = X_ta at *
  have K1 := fun (w1 : World) (hb : Below V.heap.size V w1) => rat_add (hy.below (bb hb0 hb)) (hy.below (bb hb0 hb)) zy zy (by omega)
  have HK1 := Lib.hid K1
  have H_ta := Lib.hid (fun (w1 : World) (hb : Below V.heap.size V w1) => q_ta.below (bb hb0 hb))
  have HS := Lib.hid hS
  have HP := Lib.hid hP
  have HBr := Lib.hid Br
  have HW := Lib.hid hW
  clear K1 hS hP Bx By Br hW hv ht hd zv zt zd hy q_ta k0_ta k1_ta k2_ta
  go_enter Tryz.func28, Tryz.ntmps28
  go_wp2_with fail
  rw [HW.out]
  obtain ⟨p0, p1, p2, p3, p4, p5, p6⟩ := HS.out _ (Below.refl _ V)
  go_region_held3 (fun w' => w'.cell? ⟨w.heap.size, 1, none⟩ = some (.int .i64 (i : Int)) ∧ w'.cell? ⟨w.heap.size + 1, 0, none⟩ = some (.bool sy) ∧ w'.cell? ⟨w.heap.size + 1, 1, none⟩ = some (.slice Ay ny cy) ∧ w'.cell? ⟨w.heap.size + 1, 2, none⟩ = some (.slice Dy my dy) ∧ w'.cell? ⟨g_ta, o_ta + i * 3, none⟩ = some (.bool s_ta) ∧ w'.cell? ⟨g_ta, o_ta + i * 3 + 1, none⟩ = some (.slice A_ta n_ta c_ta) ∧ w'.cell? ⟨g_ta, o_ta + i * 3 + 2, none⟩ = some (.slice D_ta m_ta d_ta)) (first | with_reducible exact HS.out _ (Below.refl _ V).drew | with_reducible exact HS4.out | with_reducible exact HS.out _ x2 | with_reducible exact HS.out _ x1 | fail)
    (first
      | (go_at_call 18; (with_reducible refine (HK1.out _ ?hb1).mono ?_); (case hb1 => exact (Below.refl _ V).drew); rintro _ w1 ⟨s1, A1, n1, c1, D1, m1, d1, rfl, q1, b1⟩; have x1 : Below V.heap.size V w1 := Below.undrew b1)
      | (go_at_call 68; (with_reducible refine (rat_div_zero (N := 129) (H_ta.out _ x1) q1 (z_ta.mono (by omega)) (zy.add zy) (by omega) h0).mono ?_); rintro _ w2 ⟨rfl, b2⟩; have x2 : Below V.heap.size V w2 := bb x1 b2; have HS4 := Lib.hid (HP.out w2 (.bool false) (.slice none 0 0) (.slice none 0 0) x2); have B9 := HBr.out.below' x2; obtain ⟨⟨r0, r1, r2⟩, f0, f1, f2⟩ := B9.three))
  all_goals
    go_wp2_with fail
    refine bodyPost_ret (v := .tuple #[.agg #[.bool false, .slice none 0 0, .slice none 0 0], .int .i64 4]) (by simp [results, Tryz.results28, go_sem, r0, r1, r2]) rfl ?_
    exact ⟨rfl, below_put3 (bb hb0 x2) (by omega) (Nat.le_refl _) _ _ _⟩

set_option maxRecDepth 100000 in
set_option maxHeartbeats 4000000 in
theorem tg_exp {w : World} {A B C : Option Addr} {n c m d l f : Nat} {v ts ds : List Rat} {q : RQ} {sy : Bool} {Ay Dy : Option Addr} {ny cy my dy : Nat} {Y : Rat} {i : Nat} {b : Int} (hy : Q w sy Ay ny cy Dy my dy Y) (zy : Sz Y 64) (hv : SlQ w A n c v) (ht : SlQ w B m d ts) (hd : SlQ w C l f ds) (zv : AllSz 64 v) (zt : AllSz 64 ts) (zd : AllSz 64 ds) (hn : n ≤ 65536) (hm : m ≤ 65536) (hl : l ≤ 65536) (hta : i < m) :
    Calls Tryz.prog 28 #[.agg #[.int .i64 9, .int .i64 (i : Int), .int .i64 b, .bool q.s, .slice q.A q.n q.c, .slice q.A' q.n' q.c'], .agg #[.bool sy, .slice Ay ny cy, .slice Dy my dy], .slice A n c, .slice B m d, .slice C l f] w (RetQE (ts.getD i 0 * Y) 0 w) := by
  obtain ⟨g_ta, o_ta, s_ta, A_ta, n_ta, c_ta, D_ta, m_ta, d_ta, rfl, l_ta, k0_ta, k1_ta, k2_ta, q_ta⟩ := ht.at_ hta
  have z_ta : Sz (ts.getD i 0) 64 := zt.at_ (by have := ht.len; omega)
  obtain ⟨V, hW, Bx, By, Br, hb0⟩ := boxes633 52 45 w #[.int .i64 9, .int .i64 (i : Int), .int .i64 b, .bool q.s, .slice q.A q.n q.c, .slice q.A' q.n' q.c'] #[.bool sy, .slice Ay ny cy, .slice Dy my dy] #[.bool false, .slice none 0 0, .slice none 0 0]
  have hz := hb0.size
  have hS : ∀ w', Below V.heap.size V w' → w'.cell? ⟨w.heap.size, 1, none⟩ = some (.int .i64 (i : Int)) ∧ w'.cell? ⟨w.heap.size + 1, 0, none⟩ = some (.bool sy) ∧ w'.cell? ⟨w.heap.size + 1, 1, none⟩ = some (.slice Ay ny cy) ∧ w'.cell? ⟨w.heap.size + 1, 2, none⟩ = some (.slice Dy my dy) ∧ w'.cell? ⟨g_ta, o_ta + i * 3, none⟩ = some (.bool s_ta) ∧ w'.cell? ⟨g_ta, o_ta + i * 3 + 1, none⟩ = some (.slice A_ta n_ta c_ta) ∧ w'.cell? ⟨g_ta, o_ta + i * 3 + 2, none⟩ = some (.slice D_ta m_ta d_ta) := fun w' hb => ⟨(Bx.below' hb).six.1.2.1, (By.below' hb).three.1.1, (By.below' hb).three.1.2.1, (By.below' hb).three.1.2.2, ((bb hb0 hb).cell (p := ⟨g_ta, o_ta + i * 3, none⟩) l_ta).trans k0_ta, ((bb hb0 hb).cell (p := ⟨g_ta, o_ta + i * 3 + 1, none⟩) l_ta).trans k1_ta, ((bb hb0 hb).cell (p := ⟨g_ta, o_ta + i * 3 + 2, none⟩) l_ta).trans k2_ta⟩
  have hP : ∀ (w' : World) (x0 x1 x2 : Value), Below V.heap.size V w' → (fun w' : World => w'.cell? ⟨w.heap.size, 1, none⟩ = some (.int .i64 (i : Int)) ∧ w'.cell? ⟨w.heap.size + 1, 0, none⟩ = some (.bool sy) ∧ w'.cell? ⟨w.heap.size + 1, 1, none⟩ = some (.slice Ay ny cy) ∧ w'.cell? ⟨w.heap.size + 1, 2, none⟩ = some (.slice Dy my dy) ∧ w'.cell? ⟨g_ta, o_ta + i * 3, none⟩ = some (.bool s_ta) ∧ w'.cell? ⟨g_ta, o_ta + i * 3 + 1, none⟩ = some (.slice A_ta n_ta c_ta) ∧ w'.cell? ⟨g_ta, o_ta + i * 3 + 2, none⟩ = some (.slice D_ta m_ta d_ta)) (put3 w' (w.heap.size + 1 + 1) x0 x1 x2) := fun w' x0 x1 x2 hb => by
    obtain ⟨p0, p1, p2, p3, p4, p5, p6⟩ := hS w' hb
    have hlx : w.heap.size < w'.heap.size := (Bx.below' hb).lt
    have hly : w.heap.size + 1 < w'.heap.size := (By.below' hb).lt
    have hl_ta : g_ta < w'.heap.size := Nat.lt_of_lt_of_le l_ta (Nat.le_trans hz hb.size)
    exact ⟨(cell_put3 (by omega) hlx).trans p0, (cell_put3 (by omega) hly).trans p1, (cell_put3 (by omega) hly).trans p2, (cell_put3 (by omega) hly).trans p3, (cell_put3 (by omega) hl_ta).trans p4, (cell_put3 (by omega) hl_ta).trans p5, (cell_put3 (by omega) hl_ta).trans p6⟩
  simp only [put3] at hP
  generalize ts.getD i 0 = X_ta at *
  have K1 := fun (w1 : World) (hb : Below V.heap.size V w1) => rat_mul (q_ta.below (bb hb0 hb)) (hy.below (bb hb0 hb)) z_ta zy (by omega)
  have HK1 := Lib.hid K1
  have HS := Lib.hid hS
  have HP := Lib.hid hP
  have HBr := Lib.hid Br
  have HW := Lib.hid hW
  clear K1 hS hP Bx By Br hW hv ht hd zv zt zd hy q_ta k0_ta k1_ta k2_ta
  go_enter Tryz.func28, Tryz.ntmps28
  go_wp2_with fail
  rw [HW.out]
  obtain ⟨p0, p1, p2, p3, p4, p5, p6⟩ := HS.out _ (Below.refl _ V)
  go_region_held3 (fun w' => w'.cell? ⟨w.heap.size, 1, none⟩ = some (.int .i64 (i : Int)) ∧ w'.cell? ⟨w.heap.size + 1, 0, none⟩ = some (.bool sy) ∧ w'.cell? ⟨w.heap.size + 1, 1, none⟩ = some (.slice Ay ny cy) ∧ w'.cell? ⟨w.heap.size + 1, 2, none⟩ = some (.slice Dy my dy) ∧ w'.cell? ⟨g_ta, o_ta + i * 3, none⟩ = some (.bool s_ta) ∧ w'.cell? ⟨g_ta, o_ta + i * 3 + 1, none⟩ = some (.slice A_ta n_ta c_ta) ∧ w'.cell? ⟨g_ta, o_ta + i * 3 + 2, none⟩ = some (.slice D_ta m_ta d_ta)) (first | with_reducible exact HS.out _ (Below.refl _ V).drew | with_reducible exact HS4.out | with_reducible exact HS.out _ x1 | fail)
    (first
      | (go_at_call 19; (with_reducible refine (HK1.out _ ?hb1).mono ?_); (case hb1 => exact (Below.refl _ V).drew); rintro _ w1 ⟨s1, A1, n1, c1, D1, m1, d1, rfl, q1, b1⟩; have x1 : Below V.heap.size V w1 := Below.undrew b1; have HS4 := Lib.hid (HP.out w1 (.bool s1) (.slice A1 n1 c1) (.slice D1 m1 d1) x1); have B9 := HBr.out.below' x1; obtain ⟨⟨r0, r1, r2⟩, f0, f1, f2⟩ := B9.three))
  all_goals
    go_wp2_with fail
    refine bodyPost_ret (v := .tuple #[.agg #[.bool s1, .slice A1 n1 c1, .slice D1 m1 d1], .int .i64 0]) (by simp [results, Tryz.results28, go_sem, r0, r1, r2]) rfl ?_
    exact ⟨_, _, _, _, _, _, _, rfl, q1.put3 ⟨_, _, _, _, _, _, _, B9⟩, below_put3 (bb hb0 x1) (by omega) (Nat.le_refl _) _ _ _⟩

set_option maxRecDepth 100000 in
set_option maxHeartbeats 4000000 in
theorem tg_log {w : World} {A B C : Option Addr} {n c m d l f : Nat} {v ts ds : List Rat} {q : RQ} {sy : Bool} {Ay Dy : Option Addr} {ny cy my dy : Nat} {Y : Rat} {i : Nat} {b : Int} (hy : Q w sy Ay ny cy Dy my dy Y) (zy : Sz Y 64) (hv : SlQ w A n c v) (ht : SlQ w B m d ts) (hd : SlQ w C l f ds) (zv : AllSz 64 v) (zt : AllSz 64 ts) (zd : AllSz 64 ds) (hn : n ≤ 65536) (hm : m ≤ 65536) (hl : l ≤ 65536) (hta : i < m) (hva : i < n) (h0 : v.getD i 0 ≠ 0) :
    Calls Tryz.prog 28 #[.agg #[.int .i64 10, .int .i64 (i : Int), .int .i64 b, .bool q.s, .slice q.A q.n q.c, .slice q.A' q.n' q.c'], .agg #[.bool sy, .slice Ay ny cy, .slice Dy my dy], .slice A n c, .slice B m d, .slice C l f] w (RetQE (ts.getD i 0 / v.getD i 0) 0 w) := by
  obtain ⟨g_ta, o_ta, s_ta, A_ta, n_ta, c_ta, D_ta, m_ta, d_ta, rfl, l_ta, k0_ta, k1_ta, k2_ta, q_ta⟩ := ht.at_ hta
  obtain ⟨g_va, o_va, s_va, A_va, n_va, c_va, D_va, m_va, d_va, rfl, l_va, k0_va, k1_va, k2_va, q_va⟩ := hv.at_ hva
  have z_ta : Sz (ts.getD i 0) 64 := zt.at_ (by have := ht.len; omega)
  have z_va : Sz (v.getD i 0) 64 := zv.at_ (by have := hv.len; omega)
  obtain ⟨V, hW, Bx, By, Br, hb0⟩ := boxes633 52 45 w #[.int .i64 10, .int .i64 (i : Int), .int .i64 b, .bool q.s, .slice q.A q.n q.c, .slice q.A' q.n' q.c'] #[.bool sy, .slice Ay ny cy, .slice Dy my dy] #[.bool false, .slice none 0 0, .slice none 0 0]
  have hz := hb0.size
  have hS : ∀ w', Below V.heap.size V w' → w'.cell? ⟨w.heap.size, 1, none⟩ = some (.int .i64 (i : Int)) ∧ w'.cell? ⟨g_ta, o_ta + i * 3, none⟩ = some (.bool s_ta) ∧ w'.cell? ⟨g_ta, o_ta + i * 3 + 1, none⟩ = some (.slice A_ta n_ta c_ta) ∧ w'.cell? ⟨g_ta, o_ta + i * 3 + 2, none⟩ = some (.slice D_ta m_ta d_ta) ∧ w'.cell? ⟨g_va, o_va + i * 3, none⟩ = some (.bool s_va) ∧ w'.cell? ⟨g_va, o_va + i * 3 + 1, none⟩ = some (.slice A_va n_va c_va) ∧ w'.cell? ⟨g_va, o_va + i * 3 + 2, none⟩ = some (.slice D_va m_va d_va) := fun w' hb => ⟨(Bx.below' hb).six.1.2.1, ((bb hb0 hb).cell (p := ⟨g_ta, o_ta + i * 3, none⟩) l_ta).trans k0_ta, ((bb hb0 hb).cell (p := ⟨g_ta, o_ta + i * 3 + 1, none⟩) l_ta).trans k1_ta, ((bb hb0 hb).cell (p := ⟨g_ta, o_ta + i * 3 + 2, none⟩) l_ta).trans k2_ta, ((bb hb0 hb).cell (p := ⟨g_va, o_va + i * 3, none⟩) l_va).trans k0_va, ((bb hb0 hb).cell (p := ⟨g_va, o_va + i * 3 + 1, none⟩) l_va).trans k1_va, ((bb hb0 hb).cell (p := ⟨g_va, o_va + i * 3 + 2, none⟩) l_va).trans k2_va⟩
  have hP : ∀ (w' : World) (x0 x1 x2 : Value), Below V.heap.size V w' → (fun w' : World => w'.cell? ⟨w.heap.size, 1, none⟩ = some (.int .i64 (i : Int)) ∧ w'.cell? ⟨g_ta, o_ta + i * 3, none⟩ = some (.bool s_ta) ∧ w'.cell? ⟨g_ta, o_ta + i * 3 + 1, none⟩ = some (.slice A_ta n_ta c_ta) ∧ w'.cell? ⟨g_ta, o_ta + i * 3 + 2, none⟩ = some (.slice D_ta m_ta d_ta) ∧ w'.cell? ⟨g_va, o_va + i * 3, none⟩ = some (.bool s_va) ∧ w'.cell? ⟨g_va, o_va + i * 3 + 1, none⟩ = some (.slice A_va n_va c_va) ∧ w'.cell? ⟨g_va, o_va + i * 3 + 2, none⟩ = some (.slice D_va m_va d_va)) (put3 w' (w.heap.size + 1 + 1) x0 x1 x2) := fun w' x0 x1 x2 hb => by
    obtain ⟨p0, p1, p2, p3, p4, p5, p6⟩ := hS w' hb
    have hlx : w.heap.size < w'.heap.size := (Bx.below' hb).lt
    have hly : w.heap.size + 1 < w'.heap.size := (By.below' hb).lt
    have hl_ta : g_ta < w'.heap.size := Nat.lt_of_lt_of_le l_ta (Nat.le_trans hz hb.size)
    have hl_va : g_va < w'.heap.size := Nat.lt_of_lt_of_le l_va (Nat.le_trans hz hb.size)
    exact ⟨(cell_put3 (by omega) hlx).trans p0, (cell_put3 (by omega) hl_ta).trans p1, (cell_put3 (by omega) hl_ta).trans p2, (cell_put3 (by omega) hl_ta).trans p3, (cell_put3 (by omega) hl_va).trans p4, (cell_put3 (by omega) hl_va).trans p5, (cell_put3 (by omega) hl_va).trans p6⟩
  simp only [put3] at hP
  generalize ts.getD i 0 = X_ta at *
  generalize v.getD i 0 = X_va at *
  have K1 := fun (w1 : World) (hb : Below V.heap.size V w1) => rat_div (q_ta.below (bb hb0 hb)) (q_va.below (bb hb0 hb)) z_ta z_va (by omega) h0
  have HK1 := Lib.hid K1
  have HS := Lib.hid hS
  have HP := Lib.hid hP
  have HBr := Lib.hid Br
  have HW := Lib.hid hW
  clear K1 hS hP Bx By Br hW hv ht hd zv zt zd hy q_ta q_va k0_ta k1_ta k2_ta k0_va k1_va k2_va
  go_enter Tryz.func28, Tryz.ntmps28
  go_wp2_with fail
  rw [HW.out]
  obtain ⟨p0, p1, p2, p3, p4, p5, p6⟩ := HS.out _ (Below.refl _ V)
  go_region_held3 (fun w' => w'.cell? ⟨w.heap.size, 1, none⟩ = some (.int .i64 (i : Int)) ∧ w'.cell? ⟨g_ta, o_ta + i * 3, none⟩ = some (.bool s_ta) ∧ w'.cell? ⟨g_ta, o_ta + i * 3 + 1, none⟩ = some (.slice A_ta n_ta c_ta) ∧ w'.cell? ⟨g_ta, o_ta + i * 3 + 2, none⟩ = some (.slice D_ta m_ta d_ta) ∧ w'.cell? ⟨g_va, o_va + i * 3, none⟩ = some (.bool s_va) ∧ w'.cell? ⟨g_va, o_va + i * 3 + 1, none⟩ = some (.slice A_va n_va c_va) ∧ w'.cell? ⟨g_va, o_va + i * 3 + 2, none⟩ = some (.slice D_va m_va d_va)) (first | with_reducible exact HS.out _ (Below.refl _ V).drew | with_reducible exact HS4.out | with_reducible exact HS.out _ x1 | fail)
    (first
      | (go_at_call 68; (with_reducible refine (HK1.out _ ?hb1).mono ?_); (case hb1 => exact (Below.refl _ V).drew); rintro _ w1 ⟨s1, A1, n1, c1, D1, m1, d1, rfl, q1, b1⟩; have x1 : Below V.heap.size V w1 := Below.undrew b1; have HS4 := Lib.hid (HP.out w1 (.bool s1) (.slice A1 n1 c1) (.slice D1 m1 d1) x1); have B9 := HBr.out.below' x1; obtain ⟨⟨r0, r1, r2⟩, f0, f1, f2⟩ := B9.three))
  all_goals
    go_wp2_with fail
    refine bodyPost_ret (v := .tuple #[.agg #[.bool s1, .slice A1 n1 c1, .slice D1 m1 d1], .int .i64 0]) (by simp [results, Tryz.results28, go_sem, r0, r1, r2]) rfl ?_
    exact ⟨_, _, _, _, _, _, _, rfl, q1.put3 ⟨_, _, _, _, _, _, _, B9⟩, below_put3 (bb hb0 x1) (by omega) (Nat.le_refl _) _ _ _⟩

set_option maxRecDepth 100000 in
set_option maxHeartbeats 4000000 in
theorem tg_log_no {w : World} {A B C : Option Addr} {n c m d l f : Nat} {v ts ds : List Rat} {q : RQ} {sy : Bool} {Ay Dy : Option Addr} {ny cy my dy : Nat} {Y : Rat} {i : Nat} {b : Int} (hy : Q w sy Ay ny cy Dy my dy Y) (zy : Sz Y 64) (hv : SlQ w A n c v) (ht : SlQ w B m d ts) (hd : SlQ w C l f ds) (zv : AllSz 64 v) (zt : AllSz 64 ts) (zd : AllSz 64 ds) (hn : n ≤ 65536) (hm : m ≤ 65536) (hl : l ≤ 65536) (hta : i < m) (hva : i < n) (h0 : v.getD i 0 = 0) :
    Calls Tryz.prog 28 #[.agg #[.int .i64 10, .int .i64 (i : Int), .int .i64 b, .bool q.s, .slice q.A q.n q.c, .slice q.A' q.n' q.c'], .agg #[.bool sy, .slice Ay ny cy, .slice Dy my dy], .slice A n c, .slice B m d, .slice C l f] w (RetNo 4 w) := by
  obtain ⟨g_ta, o_ta, s_ta, A_ta, n_ta, c_ta, D_ta, m_ta, d_ta, rfl, l_ta, k0_ta, k1_ta, k2_ta, q_ta⟩ := ht.at_ hta
  obtain ⟨g_va, o_va, s_va, A_va, n_va, c_va, D_va, m_va, d_va, rfl, l_va, k0_va, k1_va, k2_va, q_va⟩ := hv.at_ hva
  have z_ta : Sz (ts.getD i 0) 64 := zt.at_ (by have := ht.len; omega)
  have z_va : Sz (v.getD i 0) 64 := zv.at_ (by have := hv.len; omega)
  obtain ⟨V, hW, Bx, By, Br, hb0⟩ := boxes633 52 45 w #[.int .i64 10, .int .i64 (i : Int), .int .i64 b, .bool q.s, .slice q.A q.n q.c, .slice q.A' q.n' q.c'] #[.bool sy, .slice Ay ny cy, .slice Dy my dy] #[.bool false, .slice none 0 0, .slice none 0 0]
  have hz := hb0.size
  have hS : ∀ w', Below V.heap.size V w' → w'.cell? ⟨w.heap.size, 1, none⟩ = some (.int .i64 (i : Int)) ∧ w'.cell? ⟨g_ta, o_ta + i * 3, none⟩ = some (.bool s_ta) ∧ w'.cell? ⟨g_ta, o_ta + i * 3 + 1, none⟩ = some (.slice A_ta n_ta c_ta) ∧ w'.cell? ⟨g_ta, o_ta + i * 3 + 2, none⟩ = some (.slice D_ta m_ta d_ta) ∧ w'.cell? ⟨g_va, o_va + i * 3, none⟩ = some (.bool s_va) ∧ w'.cell? ⟨g_va, o_va + i * 3 + 1, none⟩ = some (.slice A_va n_va c_va) ∧ w'.cell? ⟨g_va, o_va + i * 3 + 2, none⟩ = some (.slice D_va m_va d_va) := fun w' hb => ⟨(Bx.below' hb).six.1.2.1, ((bb hb0 hb).cell (p := ⟨g_ta, o_ta + i * 3, none⟩) l_ta).trans k0_ta, ((bb hb0 hb).cell (p := ⟨g_ta, o_ta + i * 3 + 1, none⟩) l_ta).trans k1_ta, ((bb hb0 hb).cell (p := ⟨g_ta, o_ta + i * 3 + 2, none⟩) l_ta).trans k2_ta, ((bb hb0 hb).cell (p := ⟨g_va, o_va + i * 3, none⟩) l_va).trans k0_va, ((bb hb0 hb).cell (p := ⟨g_va, o_va + i * 3 + 1, none⟩) l_va).trans k1_va, ((bb hb0 hb).cell (p := ⟨g_va, o_va + i * 3 + 2, none⟩) l_va).trans k2_va⟩
  have hP : ∀ (w' : World) (x0 x1 x2 : Value), Below V.heap.size V w' → (fun w' : World => w'.cell? ⟨w.heap.size, 1, none⟩ = some (.int .i64 (i : Int)) ∧ w'.cell? ⟨g_ta, o_ta + i * 3, none⟩ = some (.bool s_ta) ∧ w'.cell? ⟨g_ta, o_ta + i * 3 + 1, none⟩ = some (.slice A_ta n_ta c_ta) ∧ w'.cell? ⟨g_ta, o_ta + i * 3 + 2, none⟩ = some (.slice D_ta m_ta d_ta) ∧ w'.cell? ⟨g_va, o_va + i * 3, none⟩ = some (.bool s_va) ∧ w'.cell? ⟨g_va, o_va + i * 3 + 1, none⟩ = some (.slice A_va n_va c_va) ∧ w'.cell? ⟨g_va, o_va + i * 3 + 2, none⟩ = some (.slice D_va m_va d_va)) (put3 w' (w.heap.size + 1 + 1) x0 x1 x2) := fun w' x0 x1 x2 hb => by
    obtain ⟨p0, p1, p2, p3, p4, p5, p6⟩ := hS w' hb
    have hlx : w.heap.size < w'.heap.size := (Bx.below' hb).lt
    have hly : w.heap.size + 1 < w'.heap.size := (By.below' hb).lt
    have hl_ta : g_ta < w'.heap.size := Nat.lt_of_lt_of_le l_ta (Nat.le_trans hz hb.size)
    have hl_va : g_va < w'.heap.size := Nat.lt_of_lt_of_le l_va (Nat.le_trans hz hb.size)
    exact ⟨(cell_put3 (by omega) hlx).trans p0, (cell_put3 (by omega) hl_ta).trans p1, (cell_put3 (by omega) hl_ta).trans p2, (cell_put3 (by omega) hl_ta).trans p3, (cell_put3 (by omega) hl_va).trans p4, (cell_put3 (by omega) hl_va).trans p5, (cell_put3 (by omega) hl_va).trans p6⟩
  simp only [put3] at hP
  generalize ts.getD i 0 = X_ta at *
  generalize v.getD i 0 = X_va at *
  have K1 := fun (w1 : World) (hb : Below V.heap.size V w1) => rat_div_zero (q_ta.below (bb hb0 hb)) (q_va.below (bb hb0 hb)) z_ta z_va (by omega) h0
  have HK1 := Lib.hid K1
  have HS := Lib.hid hS
  have HP := Lib.hid hP
  have HBr := Lib.hid Br
  have HW := Lib.hid hW
  clear K1 hS hP Bx By Br hW hv ht hd zv zt zd hy q_ta q_va k0_ta k1_ta k2_ta k0_va k1_va k2_va
  go_enter Tryz.func28, Tryz.ntmps28
  go_wp2_with fail
  rw [HW.out]
  obtain ⟨p0, p1, p2, p3, p4, p5, p6⟩ := HS.out _ (Below.refl _ V)
  go_region_held3 (fun w' => w'.cell? ⟨w.heap.size, 1, none⟩ = some (.int .i64 (i : Int)) ∧ w'.cell? ⟨g_ta, o_ta + i * 3, none⟩ = some (.bool s_ta) ∧ w'.cell? ⟨g_ta, o_ta + i * 3 + 1, none⟩ = some (.slice A_ta n_ta c_ta) ∧ w'.cell? ⟨g_ta, o_ta + i * 3 + 2, none⟩ = some (.slice D_ta m_ta d_ta) ∧ w'.cell? ⟨g_va, o_va + i * 3, none⟩ = some (.bool s_va) ∧ w'.cell? ⟨g_va, o_va + i * 3 + 1, none⟩ = some (.slice A_va n_va c_va) ∧ w'.cell? ⟨g_va, o_va + i * 3 + 2, none⟩ = some (.slice D_va m_va d_va)) (first | with_reducible exact HS.out _ (Below.refl _ V).drew | with_reducible exact HS4.out | with_reducible exact HS.out _ x1 | fail)
    (first
      | (go_at_call 68; (with_reducible refine (HK1.out _ ?hb1).mono ?_); (case hb1 => exact (Below.refl _ V).drew); rintro _ w1 ⟨rfl, b1⟩; have x1 : Below V.heap.size V w1 := Below.undrew b1; have HS4 := Lib.hid (HP.out w1 (.bool false) (.slice none 0 0) (.slice none 0 0) x1); have B9 := HBr.out.below' x1; obtain ⟨⟨r0, r1, r2⟩, f0, f1, f2⟩ := B9.three))
  all_goals
    go_wp2_with fail
    refine bodyPost_ret (v := .tuple #[.agg #[.bool false, .slice none 0 0, .slice none 0 0], .int .i64 4]) (by simp [results, Tryz.results28, go_sem, r0, r1, r2]) rfl ?_
    exact ⟨rfl, below_put3 (bb hb0 x1) (by omega) (Nat.le_refl _) _ _ _⟩

end Go.Proofs.YtfhihapgjiaobaaGreat
