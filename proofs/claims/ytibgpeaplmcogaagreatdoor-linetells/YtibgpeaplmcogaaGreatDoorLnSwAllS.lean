/-
  Where the listed variables read as the row says, the cells of the variable names hold the names of the Ops. Condition: the row's own premise on the listed variables.
-/
import Derived.Test.YtibgpeaplmcogaaGreatDoorLnSmAllS
import Derived.Test.YtibgpeaplmcogaaGreatDoorLnTrAllS
import Derived.Test.YtibgpeaplmcogaaGreatDoorRows
import Derived.LaidMore
import Derived.Lay
namespace Go.Proofs.YtibgpeaplmcogaaGreatDoor
set_option maxRecDepth 100000
open Go.RowKit Go.Maps
set_option linter.unusedVariables false
set_option linter.unusedSimpArgs false

/-- the name of an Op -/
def wdS (op : Int) : ByteArray := if 0 ≤ op ∧ op < 11 then nmS op.toNat else ⟨#[]⟩
theorem wdS_yes {op : Int} (h : 0 ≤ op ∧ op < 11) : wdS op = nmS op.toNat := if_pos h
theorem wdS_no {op : Int} (h : ¬ (0 ≤ op ∧ op < 11)) : wdS op = ⟨#[]⟩ := if_neg h
theorem wdS_size (op : Int) : (wdS op).size ≤ 5 := by
  by_cases h : 0 ≤ op ∧ op < 11
  · have h9 : op = 0 ∨ op = 1 ∨ op = 2 ∨ op = 3 ∨ op = 4 ∨ op = 5 ∨ op = 6 ∨ op = 7 ∨ op = 8 ∨ op = 9 ∨ op = 10 := by omega
    rcases h9 with rfl | rfl | rfl | rfl | rfl | rfl | rfl | rfl | rfl | rfl | rfl <;> decide +kernel
  · rw [wdS_no h]; decide
theorem line_wordI (op : Int) (w : World) (hN : Nam w) : Calls Tryz.prog 20 #[.int .i64 op] w fun e w' => e = .returned (.string (wdS op)) ∧ w = w' := by
  by_cases h : 0 ≤ op ∧ op < 11
  · rw [wdS_yes h]
    have H := line_word (r := op.toNat) (by omega) w hN
    rw [show ((op.toNat : Nat) : Int) = op by omega] at H
    exact H
  · rw [wdS_no h]
    exact line_word_no h w
set_option maxRecDepth 100000 in
set_option maxHeartbeats 4000000 in
theorem ref_word (op : Int) (w : World) : Calls Tryz.prog 21 #[.int .i64 op] w fun e w' => e = .returned (.string (wdS op)) ∧ Below w.heap.size w w' := by
  by_cases h : 0 ≤ op ∧ op < 11
  · have h9 : op = 0 ∨ op = 1 ∨ op = 2 ∨ op = 3 ∨ op = 4 ∨ op = 5 ∨ op = 6 ∨ op = 7 ∨ op = 8 ∨ op = 9 ∨ op = 10 := by omega
    clear h
    rcases h9 with rfl | rfl | rfl | rfl | rfl | rfl | rfl | rfl | rfl | rfl | rfl
    all_goals
      go_enter Tryz.func21, Tryz.ntmps21
      go_wp2_with fail
      go_ret
      exact ⟨rfl, below_alloc _ _⟩
  · rw [wdS_no h]
    have h9 : op < 0 ∨ (¬ op < 0 ∧ 10 < op) := by omega
    clear h
    rcases h9 with h9 | ⟨h9, h8⟩
    all_goals
      go_enter Tryz.func21, Tryz.ntmps21
      go_wp2_with fail
      go_ret
      exact ⟨rfl, below_alloc _ _⟩

theorem itoa_size {n : Int} (h : I64 n) {s : ByteArray} (hs : by_ s = Lib.itoa n) : s.size ≤ 401 := by
  obtain ⟨h1, h2⟩ := h
  by_cases hz : n < 0
  · have h9 : (txt n.natAbs).length ≤ 20 * 20 := txt_len (words20 (small64 (by omega))) (by omega)
    rw [← by_length, hs, itoa_neg hz, List.length_cons]
    omega
  · have h9 : (txt n.toNat).length ≤ 20 * 20 := txt_len (words20 (small64 (by omega))) (by omega)
    rw [← by_length, hs, itoa_pos hz]
    omega
theorem txtQ_size {X : Rat} (h : Sz X 20) {s : ByteArray} (hs : by_ s = txtQ X) : s.size ≤ 802 := by
  have h1 : (txt X.num.natAbs).length ≤ 20 * 20 := txt_len (words20 h.1) (by omega)
  have h2 : (txt X.den).length ≤ 20 * 20 := txt_len (words20 h.2) (by omega)
  rw [← by_length, hs]
  unfold txtQ
  simp only [List.length_append]
  split <;> split <;> simp <;> omega
/-- what an instruction is as a text; t: the text of its number -/
def shw (op a b : Int) (t : List UInt8) : List UInt8 := if arity op < 0 then [63] else if op = 2 then by_ (wdS 2) ++ (32 :: t) else by_ (wdS op) ++ (32 :: (Lib.itoa a ++ (if arity op = 2 then 32 :: Lib.itoa b else [])))
theorem sc_itoaS {n : Int} (h : I64 n) (w : World) (hp : Pw w) : Calls Tryz.prog 48 #[.int .i64 n] w (RetS (Lib.itoa n) w) := by
  refine (sc_itoa h w hp).mono ?_
  rintro _ _ ⟨rfl, hb⟩
  exact ⟨_, rfl, by unfold by_; simp, hb⟩

theorem opsI_one {op a b : Int} (h : arity op = 1) : opsI op a b = [a] := by unfold opsI; rw [if_pos h]
theorem opsI_two {op a b : Int} (h : arity op = 2) : opsI op a b = [a, b] := by unfold opsI; rw [if_neg (by omega), if_pos h]
theorem one_ok {a : Int} (ha : I64 a) : ∀ z, z ∈ [a] → I64 z := by
  intro z hz
  rw [List.mem_singleton.1 hz]; exact ha
theorem two_ok {a b : Int} (ha : I64 a) (hb : I64 b) : ∀ z, z ∈ [a, b] → I64 z := by
  intro z hz
  rcases List.mem_cons.1 hz with h | h
  · rw [h]; exact ha
  · rw [List.mem_singleton.1 h]; exact hb
/-- two strings one behind the other -/
theorem cat {s t : ByteArray} {k l : Nat} (h : s.size ≤ k) (h' : t.size ≤ l) (hk : k ≤ 1000000 := by omega) (hl : l ≤ 1000000 := by omega) (w : World) : (Op.stringOp .add s t).run Tryz.prog w = .ok (.string (s ++ t)) w := run_string_add_sum w s t (by omega)
theorem cat_size {s t : ByteArray} {k l : Nat} (h : s.size ≤ k) (h' : t.size ≤ l) : (s ++ t).size ≤ k + l := by rw [ByteArray.size_append]; omega
def shwTo (zs : List Int) : Nat → List UInt8
  | 0 => []
  | k + 1 => shwTo zs k ++ (32 :: Lib.itoa (zs.getD k 0))
theorem shw_one {op a b : Int} {t : List UInt8} (h : arity op = 1) (h2 : op ≠ 2) : shw op a b t = by_ (wdS op) ++ shwTo (opsI op a b) (opsI op a b).length := by
  unfold shw opsI
  rw [h, if_neg (by decide), if_neg h2, if_neg (by decide), if_pos rfl, List.append_nil]
  rfl
theorem shw_two {op a b : Int} {t : List UInt8} (h : arity op = 2) (h2 : op ≠ 2) : shw op a b t = by_ (wdS op) ++ shwTo (opsI op a b) (opsI op a b).length := by
  unfold shw opsI
  rw [h, if_neg (by decide), if_neg h2, if_pos rfl, if_neg (by decide), if_pos rfl]
  show _ = _ ++ (([] ++ (32 :: Lib.itoa a)) ++ (32 :: Lib.itoa b))
  simp

set_option maxRecDepth 100000 in
set_option maxHeartbeats 4000000 in
theorem line_show {w : World} {op a b : Int} {q : RQ} (ha : I64 a) (hb : I64 b) {t : List UInt8} (h2 : op = 2 → ∃ X, Q w q.s q.A q.n q.c q.A' q.n' q.c' X ∧ Sz X 20 ∧ t = txtQ X) (hN : Nam w) (hP : Pw w) :
    Calls Tryz.prog 24 #[.agg #[.int .i64 op, .int .i64 a, .int .i64 b, .bool q.s, .slice q.A q.n q.c, .slice q.A' q.n' q.c']] w (RetS (shw op a b t) w) := by
  obtain ⟨V, hW, Bx, hb0⟩ := box0 27 w #[.int .i64 op, .int .i64 a, .int .i64 b, .bool q.s, .slice q.A q.n q.c, .slice q.A' q.n' q.c']
  have hS : ∀ w', Below V.heap.size V w' → w'.cell? ⟨w.heap.size, 0, none⟩ = some (.int .i64 op) ∧ w'.cell? ⟨w.heap.size, 1, none⟩ = some (.int .i64 a) ∧ w'.cell? ⟨w.heap.size, 2, none⟩ = some (.int .i64 b) ∧ w'.cell? ⟨w.heap.size, 3, none⟩ = some (.bool q.s) ∧ w'.cell? ⟨w.heap.size, 4, none⟩ = some (.slice q.A q.n q.c) ∧ w'.cell? ⟨w.heap.size, 5, none⟩ = some (.slice q.A' q.n' q.c') := fun w' hb9 => (Bx.below' hb9).six.1
  have HS := Lib.hid hS
  have HW := Lib.hid hW
  clear hS hW Bx
  have AR := Lib.hid (fun (w1 : World) => line_arity op w1)
  have WD := Lib.hid (fun (w1 : World) (hb9 : Below V.heap.size V w1) => line_wordI op w1 (hN.below (bb hb0 hb9)))
  have IA := Lib.hid (fun (w1 : World) (hb9 : Below V.heap.size V w1) => sc_itoaS ha w1 (hP.below (bb hb0 hb9)))
  have OP := Lib.hid (fun (w1 : World) => line_operands (op := op) (q := q) ha hb w1)
  have hsz := wdS_size op
  rcases ar_cases op with ⟨c, d⟩ | ⟨c, d1, d2⟩ | ⟨c, d1, d2⟩ | ⟨c, d1, d2⟩
  case inl =>
    rw [c] at AR
    rcases d with rfl | rfl
    · have HE := Lib.hid (show shw 1 a b t = by_ (wdS 1) ++ (32 :: (Lib.itoa a ++ [])) from rfl)
      have HZ := Lib.hid (fun (s : ByteArray) (hs : by_ s = Lib.itoa a) => itoa_size ha hs)
      generalize wdS 1 = s1 at *
      generalize Lib.itoa a = l1 at *
      generalize shw 1 a b t = l0 at *
      obtain ⟨k0, k1, k2, k3, k4, k5⟩ := HS.out _ (Below.refl _ V)
      have hc1 := cat (k := 5) (l := 1) (t := ⟨#[32]⟩) hsz (Nat.le_refl 1)
      have hz1 := Lib.hid (cat_size (k := 5) (l := 1) (t := ⟨#[32]⟩) hsz (Nat.le_refl 1))
      clear c OP h2
      go_enter Tryz.func24, Tryz.ntmps24
      go_wp2_with fail
      rw [HW.out]
      with_reducible refine (AR.out _).mono ?_
      rintro _ _ ⟨rfl, rfl⟩
      go_wp2_with fail
      go_region_held3 (fun w' => w'.cell? ⟨w.heap.size, 0, none⟩ = some (.int .i64 1) ∧ w'.cell? ⟨w.heap.size, 1, none⟩ = some (.int .i64 a) ∧ w'.cell? ⟨w.heap.size, 2, none⟩ = some (.int .i64 b) ∧ w'.cell? ⟨w.heap.size, 3, none⟩ = some (.bool q.s) ∧ w'.cell? ⟨w.heap.size, 4, none⟩ = some (.slice q.A q.n q.c) ∧ w'.cell? ⟨w.heap.size, 5, none⟩ = some (.slice q.A' q.n' q.c')) (first | with_reducible exact HS.out _ (Below.refl _ V).drew | with_reducible exact HS.out _ x2 | fail)
        (first
          | (go_at_call 20; (with_reducible refine (WD.out _ ?hb1).mono ?_); (case hb1 => exact (Below.refl _ V).drew); rintro _ _ ⟨rfl, rfl⟩)
          | (go_at_call 48; (with_reducible refine (IA.out _ ?hb2).mono ?_); (case hb2 => exact (Below.refl _ V).drew); rintro _ w2 ⟨t2, rfl, e2, b2⟩; have z2 := HZ.out _ e2; have hc2 := cat (l := 1000) hz1.out (Nat.le_trans z2 (by omega)); have HE2 := Lib.hid e2; clear e2; have x2 : Below V.heap.size V w2 := Below.undrew b2))
      all_goals
        go_wp2_with fail
        go_ret
        refine ⟨_, rfl, ?_, bb hb0 x2⟩
        rw [HE.out, by_append, by_append, HE2.out, List.append_nil, List.append_assoc]
        rfl
    · obtain ⟨X, hQ, hX, rfl⟩ := h2 rfl
      have HE := Lib.hid (show shw 2 a b (txtQ X) = by_ (wdS 2) ++ (32 :: txtQ X) from rfl)
      have HZ := Lib.hid (fun (s : ByteArray) (hs : by_ s = txtQ X) => txtQ_size hX hs)
      have PS := Lib.hid (fun (w1 : World) (hb9 : Below V.heap.size V w1) => pw_show (hQ.below (bb hb0 hb9)) hX)
      generalize wdS 2 = s1 at *
      generalize shw 2 a b (txtQ X) = l0 at *
      generalize txtQ X = l1 at *
      obtain ⟨k0, k1, k2, k3, k4, k5⟩ := HS.out _ (Below.refl _ V)
      have hc1 := cat (k := 5) (l := 1) (t := ⟨#[32]⟩) hsz (Nat.le_refl 1)
      have hz1 := Lib.hid (cat_size (k := 5) (l := 1) (t := ⟨#[32]⟩) hsz (Nat.le_refl 1))
      clear c OP IA h2 hQ hX
      go_enter Tryz.func24, Tryz.ntmps24
      go_wp2_with fail
      rw [HW.out]
      with_reducible refine (AR.out _).mono ?_
      rintro _ _ ⟨rfl, rfl⟩
      go_wp2_with fail
      go_region_held3 (fun w' => w'.cell? ⟨w.heap.size, 0, none⟩ = some (.int .i64 2) ∧ w'.cell? ⟨w.heap.size, 1, none⟩ = some (.int .i64 a) ∧ w'.cell? ⟨w.heap.size, 2, none⟩ = some (.int .i64 b) ∧ w'.cell? ⟨w.heap.size, 3, none⟩ = some (.bool q.s) ∧ w'.cell? ⟨w.heap.size, 4, none⟩ = some (.slice q.A q.n q.c) ∧ w'.cell? ⟨w.heap.size, 5, none⟩ = some (.slice q.A' q.n' q.c')) (first | with_reducible exact HS.out _ (Below.refl _ V).drew | with_reducible exact HS.out _ x2 | fail)
        (first
          | (go_at_call 20; (with_reducible refine (WD.out _ ?hb1).mono ?_); (case hb1 => exact (Below.refl _ V).drew); rintro _ _ ⟨rfl, rfl⟩)
          | (go_at_call 47; (with_reducible refine (PS.out _ ?hb2).mono ?_); (case hb2 => exact (Below.refl _ V).drew); rintro _ w2 ⟨t2, rfl, e2, b2⟩; have z2 := HZ.out _ e2; have hc2 := cat (l := 1000) hz1.out (Nat.le_trans z2 (by omega)); have HE2 := Lib.hid e2; clear e2; have x2 : Below V.heap.size V w2 := Below.undrew b2))
      all_goals
        go_wp2_with fail
        go_ret
        refine ⟨_, rfl, ?_, bb hb0 x2⟩
        rw [HE.out, by_append, by_append, HE2.out, List.append_assoc]
        rfl
  case inr.inr.inr =>
    rw [c] at AR
    have HE := Lib.hid (show shw op a b t = [63] by unfold shw; rw [c]; rfl)
    rw [HE.out]
    go_enter Tryz.func24, Tryz.ntmps24
    go_wp2_with fail
    rw [HW.out]
    obtain ⟨k0, k1, k2, k3, k4, k5⟩ := HS.out _ (Below.refl _ V)
    go_wp2_with fail
    with_reducible refine (AR.out _).mono ?_
    rintro _ _ ⟨rfl, rfl⟩
    go_wp2_with fail
    go_ret
    exact ⟨_, rfl, rfl, hb0⟩
  all_goals
    have HE := Lib.hid (show shw op a b t = by_ (wdS op) ++ shwTo (opsI op a b) (opsI op a b).length by first | exact shw_one c d2 | exact shw_two c d2)
    obtain ⟨zs, hzs⟩ : ∃ zs, opsI op a b = zs := ⟨_, rfl⟩
    have HI := Lib.hid (show ∀ z, z ∈ zs → I64 z by
      rw [← hzs]
      first
        | (rw [opsI_one c]; exact one_ok ha)
        | (rw [opsI_two c]; exact two_ok ha hb))
    rw [hzs] at HE OP
    have IZ := Lib.hid (fun (z : Int) (hz : I64 z) (w1 : World) (hb9 : Below V.heap.size V w1) => sc_itoaS hz w1 (hP.below (bb hb0 hb9)))
    have HLN := Lib.hid (show zs.length ≤ 2 by
      rw [← hzs]
      first
        | (rw [opsI_one c]; exact Nat.le_succ 1)
        | (rw [opsI_two c]; exact Nat.le_refl 2))
    rw [c] at AR
    rw [HE.out]
    generalize wdS op = s1 at *
    clear hzs c IA HE h2
    go_enter Tryz.func24, Tryz.ntmps24
    go_wp2_with fail
    rw [HW.out]
    obtain ⟨k0, k1, k2, k3, k4, k5⟩ := HS.out _ (Below.refl _ V)
    go_wp2_with fail
    with_reducible refine (AR.out _).mono ?_
    rintro _ _ ⟨rfl, rfl⟩
    go_wp2_with fail
    with_reducible refine (WD.out _ (Below.refl _ V)).mono ?_
    rintro _ _ ⟨rfl, rfl⟩
    go_wp2_with fail
    with_reducible refine (OP.out _).mono ?_
    rintro _ w2 ⟨A2, n2, c2, rfl, z2, b2⟩
    have hn2 : zs.length = n2 := z2.1.1
    have hn3 : n2 ≤ 2 := by have := HLN.out; omega
    have HN2 := Lib.hid hn2
    rw [hn2]
    have HZ := Lib.hid z2
    clear z2 OP WD AR k0 k1 k2 k3 k4 k5 HS hn2
    go_wp2_with fail
    go_loopw [3, 41] (fun tv iv wr => ∃ (k : Nat) (s : ByteArray), k ≤ n2 ∧ tv = .string s ∧ s.size ≤ 5 + 402 * k ∧ iv = .int .i64 k ∧ Hid (by_ s = by_ s1 ++ shwTo zs k) ∧ Below w2.heap.size w2 wr) (fun _ iv _ => n2 - mes iv)
    case atStart => exact ⟨0, _, by omega, rfl, by omega, rfl, Lib.hid (by show _ = _ ++ []; rw [List.append_nil]), Below.refl _ _⟩
    case round =>
      obtain ⟨k, s, hk, rfl, hs, rfl, HB, hb9⟩ := hrel
      by_cases hk2 : k < n2
      · obtain ⟨g0, off, x, rfl, hlt, hx, hoi, c0⟩ := (HZ.out.below hb9).at_ hk2
        have IT := Lib.hid (IZ.out x (HI.out x (mem_at hx)) wr (bb b2 hb9))
        have ZT := Lib.hid (fun (s : ByteArray) (hs : by_ s = Lib.itoa x) => itoa_size (HI.out x (mem_at hx)) hs)
        have HST := Lib.hid (show shwTo zs (k + 1) = shwTo zs k ++ (32 :: Lib.itoa x) by
          show shwTo zs k ++ (32 :: Lib.itoa (zs.getD k 0)) = _
          rw [List.getD, hx]; rfl)
        clear hx hoi
        go_wp2_with fail
        with_reducible refine IT.out.mono ?_
        rintro _ w5 ⟨t5, rfl, e5, b5⟩
        have z5 := ZT.out _ e5
        go_wp2_with fail
        go_roundw
        case rel =>
          refine ⟨k + 1, _, by omega, rfl, ?_, by go_num, Lib.hid ?_, bb hb9 b5⟩
          · rw [ByteArray.size_append, ByteArray.size_append]
            show s.size + (1 + t5.size) ≤ _
            omega
          · rw [HST.out, by_append, by_append, e5, HB.out, List.append_assoc]
            rfl
        case measure => simp [mes, intOf]; omega
      · obtain rfl : k = n2 := by omega
        go_wp2_with fail
        go_ret
        exact ⟨_, rfl, by rw [HN2.out]; exact HB.out, bb hb0 (bb b2 hb9)⟩

set_option maxRecDepth 100000 in
set_option maxHeartbeats 4000000 in
theorem ref_show15 {w : World} {op a b : Int} {q : RQ} (ha : I64 a) (hb : I64 b) {t : List UInt8} (h2 : op = 2 → ∃ X, Q w q.s q.A q.n q.c q.A' q.n' q.c' X ∧ Sz X 20 ∧ t = txtQ X) :
    Calls Tryz.prog 25 #[.agg #[.int .i64 op, .int .i64 a, .int .i64 b, .bool q.s, .slice q.A q.n q.c, .slice q.A' q.n' q.c']] w (RetS (shw op a b t) w) := by
  obtain ⟨V, hW, Bx, hb0⟩ := box0 27 w #[.int .i64 op, .int .i64 a, .int .i64 b, .bool q.s, .slice q.A q.n q.c, .slice q.A' q.n' q.c']
  have hS : ∀ w', Below V.heap.size V w' → w'.cell? ⟨w.heap.size, 0, none⟩ = some (.int .i64 op) ∧ w'.cell? ⟨w.heap.size, 1, none⟩ = some (.int .i64 a) ∧ w'.cell? ⟨w.heap.size, 2, none⟩ = some (.int .i64 b) ∧ w'.cell? ⟨w.heap.size, 3, none⟩ = some (.bool q.s) ∧ w'.cell? ⟨w.heap.size, 4, none⟩ = some (.slice q.A q.n q.c) ∧ w'.cell? ⟨w.heap.size, 5, none⟩ = some (.slice q.A' q.n' q.c') := fun w' hb9 => (Bx.below' hb9).six.1
  have HS := Lib.hid hS
  have HW := Lib.hid hW
  clear hS hW Bx
  have AR := Lib.hid (fun (w1 : World) => ref_arity op w1)
  have WD := Lib.hid (fun (w1 : World) => ref_word op w1)
  have IA := Lib.hid (fun (w1 : World) => ref_int ha w1)
  have IB := Lib.hid (fun (w1 : World) => ref_int hb w1)
  have ZA := Lib.hid (fun (s : ByteArray) (hs : by_ s = Lib.itoa a) => itoa_size ha hs)
  have ZB := Lib.hid (fun (s : ByteArray) (hs : by_ s = Lib.itoa b) => itoa_size hb hs)
  have hsz := wdS_size op
  by_cases hneg : arity op = -1
  · have HE := Lib.hid (show shw op a b t = [63] by unfold shw; rw [hneg]; rfl)
    rw [hneg] at AR
    rw [HE.out]
    go_enter Tryz.func25, Tryz.ntmps25
    go_wp2_with fail
    rw [HW.out]
    obtain ⟨k0, k1, k2, k3, k4, k5⟩ := HS.out _ (Below.refl _ V)
    go_wp2_with fail
    with_reducible refine (AR.out _).mono ?_
    rintro _ _ ⟨rfl, rfl⟩
    go_wp2_with fail
    go_ret
    exact ⟨_, rfl, rfl, hb0⟩
  by_cases hop : op = 2
  · subst hop
    obtain ⟨X, hQ, hX, rfl⟩ := h2 rfl
    have HE := Lib.hid (show shw 2 a b (txtQ X) = by_ (⟨#[99, 111, 110, 115, 116, 32]⟩ : ByteArray) ++ txtQ X from rfl)
    have HZ := Lib.hid (fun (s : ByteArray) (hs : by_ s = txtQ X) => txtQ_size hX hs)
    have PS := Lib.hid (fun (w1 : World) (hb9 : Below V.heap.size V w1) => ref_pshow (hQ.below (bb hb0 hb9)) hX)
    rw [show arity 2 = 0 from rfl] at AR
    generalize shw 2 a b (txtQ X) = l0 at *
    generalize txtQ X = l1 at *
    clear h2 hQ hX
    go_enter Tryz.func25, Tryz.ntmps25
    go_wp2_with fail
    rw [HW.out]
    obtain ⟨k0, k1, k2, k3, k4, k5⟩ := HS.out _ (Below.refl _ V)
    go_wp2_with fail
    with_reducible refine (AR.out _).mono ?_
    rintro _ _ ⟨rfl, rfl⟩
    go_wp2_with fail
    with_reducible refine (PS.out _ (Below.refl _ V)).mono ?_
    rintro _ w2 ⟨t2, rfl, e2, b2⟩
    have z2 := HZ.out _ e2
    have HE2 := Lib.hid e2
    clear e2
    go_wp2_with fail
    go_ret
    refine ⟨_, rfl, ?_, bb hb0 b2⟩
    rw [HE.out, by_append, HE2.out]
  · obtain ⟨r, hr⟩ : ∃ r, arity op = r := ⟨_, rfl⟩
    have hrr : r = 0 ∨ r = 1 ∨ r = 2 := by
      rcases ar_cases op with ⟨c, d⟩ | ⟨c, d1, d2⟩ | ⟨c, d1, d2⟩ | ⟨c, d1, d2⟩ <;> omega
    have HE := Lib.hid (show shw op a b t = by_ (wdS op) ++ (32 :: (Lib.itoa a ++ (if r = 2 then 32 :: Lib.itoa b else []))) by
      unfold shw
      rw [hr, if_neg (by omega), if_neg hop])
    rw [HE.out]
    rw [hr] at AR
    generalize wdS op = s1 at *
    have hc1 := cat (k := 5) (l := 1) (t := ⟨#[32]⟩) hsz (Nat.le_refl 1)
    have hz1 := Lib.hid (cat_size (k := 5) (l := 1) (t := ⟨#[32]⟩) hsz (Nat.le_refl 1))
    clear HE hneg hr h2
    rcases hrr with rfl | rfl | rfl
    all_goals
      go_enter Tryz.func25, Tryz.ntmps25
      go_wp2_with fail
      rw [HW.out]
      obtain ⟨k0, k1, k2, k3, k4, k5⟩ := HS.out _ (Below.refl _ V)
      go_wp2_with fail
      with_reducible refine (AR.out _).mono ?_
      rintro _ _ ⟨rfl, rfl⟩
      go_wp2_with fail
      go_region_held3 (fun w' => w'.cell? ⟨w.heap.size, 0, none⟩ = some (.int .i64 op) ∧ w'.cell? ⟨w.heap.size, 1, none⟩ = some (.int .i64 a) ∧ w'.cell? ⟨w.heap.size, 2, none⟩ = some (.int .i64 b) ∧ w'.cell? ⟨w.heap.size, 3, none⟩ = some (.bool q.s) ∧ w'.cell? ⟨w.heap.size, 4, none⟩ = some (.slice q.A q.n q.c) ∧ w'.cell? ⟨w.heap.size, 5, none⟩ = some (.slice q.A' q.n' q.c')) (first | with_reducible exact HS.out _ (Below.refl _ V).drew | with_reducible exact HS.out _ x2 | with_reducible exact HS.out _ x1 | fail)
        (first
          | (go_at_call 21; (with_reducible refine (WD.out _).mono ?_); rintro _ w1 ⟨rfl, b1⟩; have x1 : Below V.heap.size V w1 := Below.undrew b1)
          | (go_at_call 51; (with_reducible refine (IA.out _).mono ?_); rintro _ w2 ⟨t2, rfl, e2, b2⟩; have z2 := ZA.out _ e2; have hc2 := cat (l := 1000) hz1.out (Nat.le_trans z2 (by omega)); have HE2 := Lib.hid e2; clear e2; have x2 : Below V.heap.size V w2 := bb x1 b2))
      all_goals
        obtain ⟨k0, k1, k2, k3, k4, k5⟩ := HS.out _ x2
        go_wp2_with fail
        with_reducible refine (AR.out _).mono ?_
        rintro _ _ ⟨rfl, rfl⟩
        go_wp2_with fail
        first
          | (go_ret
             refine ⟨_, rfl, ?_, bb hb0 x2⟩
             rw [by_append, by_append, HE2.out, List.append_assoc]
             first
               | rfl
               | (simp [by_]; done))
          | ((with_reducible refine (IB.out _).mono ?_)
             rintro _ w6 ⟨t6, rfl, e6, b6⟩
             have z6 := ZB.out _ e6
             have HE6 := Lib.hid e6
             clear e6
             go_wp2_with fail
             go_ret
             refine ⟨_, rfl, ?_, bb hb0 (bb x2 b6)⟩
             rw [by_append, by_append, by_append, by_append, HE2.out, HE6.out]
             simp [by_])

end Go.Proofs.YtibgpeaplmcogaaGreatDoor

namespace Go.Proofs.YtibgpeaplmcogaaGreatDoor
set_option maxRecDepth 100000
open Go.RowKit Go.Maps
set_option linter.unusedVariables false
set_option linter.unusedSimpArgs false

end Go.Proofs.YtibgpeaplmcogaaGreatDoor

namespace Go.Proofs.YtibgpeaplmcogaaGreatDoor
set_option maxRecDepth 100000
open Go.RowKit Go.Maps
set_option linter.unusedVariables false
set_option linter.unusedSimpArgs false

theorem ins_new (w : World) {op a b : Int} {q : RQ} (h : RI.ok w ⟨op, a, b, q⟩) : SlP (w.alloc (.cells #[.int .i64 op, .int .i64 a, .int .i64 b, .bool q.s, .slice q.A q.n q.c, .slice q.A' q.n' q.c'] 27)) (some ⟨w.heap.size, 0, none⟩) 1 1 [⟨op, a, b, q⟩] := by
  refine SlC.new w _ 27 [(⟨op, a, b, q⟩ : RI)] (fun x _ => rfl) rfl (fun y hy => ?_) (by unfold maxLen; simp)
  rw [List.mem_singleton.1 hy]
  exact RI.below h (below_alloc _ _)
theorem by_inj {s t : ByteArray} (h : by_ s = by_ t) : s = t := by
  obtain ⟨⟨s⟩⟩ := s
  obtain ⟨⟨t⟩⟩ := t
  unfold by_ at h
  simp at h
  rw [h]
theorem one_const {q : RQ} (h : progB ([(⟨2, 0, 0, q⟩ : RI)].map RI.pi) = true) : rightB q.s q.z q.z' = true := by
  have h1 := (progB_iff _).1 h
  exact fit_const (h1.1 0 Nat.zero_lt_one)

set_option maxRecDepth 100000 in
set_option maxHeartbeats 8000000 in
theorem lineTells_walk {w : World} {A : Option Addr} {n c : Nat} {xs : List RI} {op a b : Int} {q : RQ} (h : SlP w A n c xs) (hx : RI.ok w ⟨op, a, b, q⟩) (hN : Nam w) (hP : Pw w) :
    Calls Tryz.prog 3 #[.slice A n c, .agg #[.int .i64 op, .int .i64 a, .int .i64 b, .bool q.s, .slice q.A q.n q.c, .slice q.A' q.n' q.c']] w (RetBl true w) := by
  obtain ⟨V, hW, Bx, hb0⟩ := box0 27 w #[.int .i64 op, .int .i64 a, .int .i64 b, .bool q.s, .slice q.A q.n q.c, .slice q.A' q.n' q.c']
  have hS : ∀ w', Below V.heap.size V w' → w'.cell? ⟨w.heap.size, 0, none⟩ = some (.int .i64 op) ∧ w'.cell? ⟨w.heap.size, 1, none⟩ = some (.int .i64 a) ∧ w'.cell? ⟨w.heap.size, 2, none⟩ = some (.int .i64 b) ∧ w'.cell? ⟨w.heap.size, 3, none⟩ = some (.bool q.s) ∧ w'.cell? ⟨w.heap.size, 4, none⟩ = some (.slice q.A q.n q.c) ∧ w'.cell? ⟨w.heap.size, 5, none⟩ = some (.slice q.A' q.n' q.c') := fun w' hb9 => (Bx.below' hb9).six.1
  have hL : ∀ w', Below V.heap.size V w' → w.heap.size < w'.heap.size := fun w' hb => (Bx.below' hb).lt
  have HS := Lib.hid hS
  have HL := Lib.hid hL
  have HW := Lib.hid hW
  clear hS hW hL Bx
  have HSM := Lib.hid (fun (w1 : World) (hb9 : Below V.heap.size V w1) => same15 w1 (hN.below (bb hb0 hb9)))
  have MN := fun (w1 : World) (hb9 : Below V.heap.size V w1) => law_many (h.below (bb hb0 hb9))
  have M1 := fun (w1 : World) (hb9 : Below V.heap.size V w1) => law_many (ins_new w1 (RI.below hx (bb hb0 hb9)))
  obtain ⟨p, hp⟩ : ∃ p, manyB xs = p := ⟨_, rfl⟩
  obtain ⟨p1, hp1⟩ : ∃ p1, manyB [(⟨op, a, b, q⟩ : RI)] = p1 := ⟨_, rfl⟩
  rw [hp] at MN
  rw [hp1] at M1
  have HMN := Lib.hid MN
  have HM1 := Lib.hid M1
  clear MN M1
  cases p
  case true =>
    clear HM1 hp1 hp h hx
    go_enter Tryz.func3, Tryz.ntmps3
    go_wp2_with fail
    rw [HW.out]
    with_reducible refine (HMN.out _ (Below.refl _ V)).mono ?_
    rintro _ w1 ⟨rfl, b1⟩
    go_wp2_with fail
    with_reducible refine (HSM.out _ b1).mono ?_
    rintro _ w2 ⟨rfl, b2⟩
    go_wp2_with fail
    go_ret
    exact ⟨rfl, bb hb0 (bb b1 b2)⟩
  cases p1
  case true =>
    clear hp1 hp h hx
    go_enter Tryz.func3, Tryz.ntmps3
    go_wp2_with fail
    rw [HW.out]
    with_reducible refine (HMN.out _ (Below.refl _ V)).mono ?_
    rintro _ w1 ⟨rfl, b1⟩
    obtain ⟨k0, k1, k2, k3, k4, k5⟩ := HS.out _ b1
    go_wp2_with fail
    with_reducible refine (HM1.out _ b1).mono ?_
    rintro _ w2 ⟨rfl, b2⟩
    have x2 := bb b1 (bb (below_alloc _ _) b2)
    go_wp2_with fail
    with_reducible refine (HSM.out _ x2).mono ?_
    rintro _ w3 ⟨rfl, b3⟩
    go_wp2_with fail
    go_ret
    exact ⟨rfl, bb hb0 (bb x2 b3)⟩
  unfold manyB at hp hp1
  rw [Bool.or_eq_false_iff] at hp hp1
  have hs := anyI_short hp.1
  have hs9 : Shrt 1000 xs := fun x hx => by
    obtain ⟨h1, h2⟩ := hs x hx
    exact ⟨by omega, by omega⟩
  have hn : n ≤ 300 := by
    have h9 := of_decide_eq_false hp.2
    rw [h.1.1] at h9
    omega
  obtain ⟨hq1, hq2⟩ : q.n ≤ 8 ∧ q.n' ≤ 8 := anyI_short hp1.1 ⟨op, a, b, q⟩ (List.mem_singleton.2 rfl)
  obtain ⟨hi0, hi1, hi2, hiq⟩ : I64 op ∧ I64 a ∧ I64 b ∧ RQ.ok w q := hx
  have i2 : I64 2 := by unfold I64; omega
  have i0 : I64 0 := by unfold I64; omega
  clear hp hp1
  have RC := Lib.hid (fun (w1 : World) (hb9 : Below V.heap.size V w1) => ref_counts (h.below (bb hb0 hb9)) (by omega))
  have LR := Lib.hid (fun (w1 : World) (hb9 : Below V.heap.size V w1) => line_right (h.below (bb hb0 hb9)) hs9 (by omega) (by omega))
  have RR := Lib.hid (fun (w1 : World) (hb9 : Below V.heap.size V w1) => ref_right15 (h.below (bb hb0 hb9)) hs9 (by omega) (by omega))
  have LI := Lib.hid (fun (w1 : World) (hb9 : Below V.heap.size V w1) => line_inputs (h.below (bb hb0 hb9)) (by omega))
  have RI_ := Lib.hid (fun (w1 : World) (hb9 : Below V.heap.size V w1) => ref_inputs (h.below (bb hb0 hb9)) (by omega))
  have LC := Lib.hid (fun (w1 : World) (hb9 : Below V.heap.size V w1) => line_counts (h.below (bb hb0 hb9)) (by omega))
  have LF := Lib.hid (fun (w1 : World) (hb9 : Below V.heap.size V w1) => line_forms (h.below (bb hb0 hb9)) (by omega))
  clear h hs hs9
  generalize progB (xs.map RI.pi) = r0 at *
  generalize inputsTo (xs.map RI.pi) n = r1 at *
  generalize ((countTo hasOps (xs.map RI.pi) n : Nat) : Int) = r2 at *
  generalize ((countTo isF (xs.map RI.pi) n : Nat) : Int) = r3 at *
  have f0 : (r0 != r0) = false := by simp
  have f1 : (r1 != r1) = false := by simp
  have f2 : (r2 != r2) = false := by simp
  have f3 : (r3 != r3) = false := by simp
  have R2 := fun (w1 : World) (hb9 : Below V.heap.size V w1) => ref_right15 (N := 8) (ins_new w1 (op := 2) (a := 0) (b := 0) (q := q) ⟨i2, i0, i0, RQ.below hiq (bb hb0 hb9)⟩) (fun y hy => by rw [List.mem_singleton.1 hy]; exact ⟨hq1, hq2⟩) (by omega) (by omega)
  obtain ⟨r9, hr9⟩ : ∃ r9, progB ([(⟨2, 0, 0, q⟩ : RI)].map RI.pi) = r9 := ⟨_, rfl⟩
  rw [hr9] at R2
  have HR2 := Lib.hid R2
  clear R2
  by_cases hsm : op = 2 ∧ (q.n' = 0 ∨ r9 = false)
  · obtain ⟨rfl, hc⟩ := hsm
    have hc2 : q.n' = 0 ∨ (0 < q.n' ∧ r9 = false) := by
      rcases hc with h9 | h9
      · exact .inl h9
      · rcases Nat.eq_zero_or_pos q.n' with h8 | h8
        · exact .inl h8
        · exact .inr ⟨h8, h9⟩
    clear hc hr9 hiq i2 i0 hi0 hi1 hi2
    generalize q.n' = m at *
    rcases hc2 with rfl | ⟨hc, rfl⟩
    all_goals
      go_enter Tryz.func3, Tryz.ntmps3
      go_wp2_with fail
      rw [HW.out]
      with_reducible refine (HMN.out _ (Below.refl _ V)).mono ?_
      rintro _ w1 ⟨rfl, b1⟩
      obtain ⟨k0, k1, k2, k3, k4, k5⟩ := HS.out _ b1
      go_wp2_with fail
      with_reducible refine (HM1.out _ b1).mono ?_
      rintro _ w2 ⟨rfl, b2⟩
      have x2 := bb b1 (bb (below_alloc _ _) b2)
      clear k0 k1 k2 k3 k4 k5
      go_wp2_with fail
      with_reducible refine (RC.out _ x2).mono ?_
      rintro _ w3 ⟨rfl, b3⟩
      have x3 := bb x2 b3
      go_wp2_with fail
      with_reducible refine (LR.out _ x3).mono ?_
      rintro _ w4 ⟨rfl, b4⟩
      have x4 := bb x3 b4
      go_wp2_with fail
      with_reducible refine (RR.out _ x4).mono ?_
      rintro _ w5 ⟨rfl, b5⟩
      have x5 := bb x4 b5
      go_wp2_with fail
      with_reducible refine (LI.out _ x5).mono ?_
      rintro _ w6 ⟨rfl, b6⟩
      have x6 := bb x5 b6
      go_wp2_with fail
      with_reducible refine (RI_.out _ x6).mono ?_
      rintro _ w7 ⟨rfl, b7⟩
      have x7 := bb x6 b7
      go_wp2_with fail
      with_reducible refine (LC.out _ x7).mono ?_
      rintro _ w8 ⟨rfl, b8⟩
      have x8 := bb x7 b8
      go_wp2_with fail
      with_reducible refine (LF.out _ x8).mono ?_
      rintro _ w9 ⟨rfl, b9⟩
      have x9 := bb x8 b9
      obtain ⟨k0, k1, k2, k3, k4, k5⟩ := HS.out _ x9
      go_wp2_with fail
      first
        | ((with_reducible refine (HSM.out _ x9).mono ?_)
           rintro _ w10 ⟨rfl, b10⟩
           go_wp2_with fail
           go_ret
           exact ⟨rfl, bb hb0 (bb x9 b10)⟩)
        | ((with_reducible refine (HR2.out _ x9).mono ?_)
           rintro _ w10 ⟨rfl, b10⟩
           have x10 := bb x9 (bb (below_alloc _ _) b10)
           go_wp2_with fail
           with_reducible refine (HSM.out _ x10).mono ?_
           rintro _ w11 ⟨rfl, b11⟩
           go_wp2_with fail
           go_ret
           exact ⟨rfl, bb hb0 (bb x10 b11)⟩)
  have h2 : ∃ t, ∀ w1, Below V.heap.size V w1 → op = 2 → ∃ X, Q w1 q.s q.A q.n q.c q.A' q.n' q.c' X ∧ Sz X 20 ∧ t = txtQ X := by
    by_cases h9 : op = 2
    · have h8 : r9 = true := by
        cases r9
        · exact absurd ⟨h9, .inr rfl⟩ hsm
        · rfl
      obtain ⟨X, g1, g2, g3⟩ := right_Q (N := 20) hiq.1 hiq.2.1 (by omega) (by omega) (one_const (hr9.trans h8))
      exact ⟨txtQ X, fun w1 hb9 _ => ⟨X, g1.below (bb hb0 hb9), g2, rfl⟩⟩
    · exact ⟨[], fun _ _ h8 => absurd h8 h9⟩
  obtain ⟨t, ht⟩ := h2
  have hcc : ¬ op = 2 ∨ (op = 2 ∧ 0 < q.n' ∧ r9 = true) := by
    by_cases h9 : op = 2
    · refine .inr ⟨h9, Nat.pos_of_ne_zero fun h8 => hsm ⟨h9, .inl h8⟩, ?_⟩
      cases r9
      · exact absurd ⟨h9, .inr rfl⟩ hsm
      · rfl
    · exact .inl h9
  have LA := Lib.hid (fun (w1 : World) => line_arity op w1)
  have RA := Lib.hid (fun (w1 : World) => ref_arity op w1)
  have LW := Lib.hid (fun (w1 : World) (hb9 : Below V.heap.size V w1) => line_wordI op w1 (hN.below (bb hb0 hb9)))
  have RW := Lib.hid (fun (w1 : World) => ref_word op w1)
  have LO := Lib.hid (fun (w1 : World) => line_form op w1)
  have RO := Lib.hid (fun (w1 : World) => ref_form op w1)
  have SH := Lib.hid (fun (w1 : World) (hb9 : Below V.heap.size V w1) => line_show (q := q) hi1 hi2 (ht w1 hb9) (hN.below (bb hb0 hb9)) (hP.below (bb hb0 hb9)))
  have RS := Lib.hid (fun (w1 : World) (hb9 : Below V.heap.size V w1) => ref_show15 (q := q) hi1 hi2 (ht w1 hb9))
  generalize shw op a b t = sh at *
  generalize wdS op = wd at *
  generalize arity op = ar at *
  generalize isForm op = fo at *
  have f4 : (ar == ar) = true := by simp
  have f5 : (wd.toList == wd.toList) = true := by simp
  have f6 : (fo == fo) = true := by simp
  clear hsm hr9 ht hiq hi0 hi1 hi2 i2 i0
  rcases hcc with hc | ⟨rfl, hc, rfl⟩
  · go_enter Tryz.func3, Tryz.ntmps3
    go_wp2_with fail
    rw [HW.out]
    with_reducible refine (HMN.out _ (Below.refl _ V)).mono ?_
    rintro _ w1 ⟨rfl, b1⟩
    obtain ⟨k0, k1, k2, k3, k4, k5⟩ := HS.out _ b1
    go_wp2_with fail
    with_reducible refine (HM1.out _ b1).mono ?_
    rintro _ w2 ⟨rfl, b2⟩
    have x2 := bb b1 (bb (below_alloc _ _) b2)
    clear k0 k1 k2 k3 k4 k5
    go_wp2_with fail
    with_reducible refine (RC.out _ x2).mono ?_
    rintro _ w3 ⟨rfl, b3⟩
    have x3 := bb x2 b3
    go_wp2_with fail
    with_reducible refine (LR.out _ x3).mono ?_
    rintro _ w4 ⟨rfl, b4⟩
    have x4 := bb x3 b4
    go_wp2_with fail
    with_reducible refine (RR.out _ x4).mono ?_
    rintro _ w5 ⟨rfl, b5⟩
    have x5 := bb x4 b5
    go_wp2_with fail
    with_reducible refine (LI.out _ x5).mono ?_
    rintro _ w6 ⟨rfl, b6⟩
    have x6 := bb x5 b6
    go_wp2_with fail
    with_reducible refine (RI_.out _ x6).mono ?_
    rintro _ w7 ⟨rfl, b7⟩
    have x7 := bb x6 b7
    go_wp2_with fail
    with_reducible refine (LC.out _ x7).mono ?_
    rintro _ w8 ⟨rfl, b8⟩
    have x8 := bb x7 b8
    go_wp2_with fail
    with_reducible refine (LF.out _ x8).mono ?_
    rintro _ w9 ⟨rfl, b9⟩
    have x9 := bb x8 b9
    obtain ⟨k0, k1, k2, k3, k4, k5⟩ := HS.out _ x9
    go_wp2_with fail
    go_region_held3 (fun w' => w'.cell? ⟨w.heap.size, 0, none⟩ = some (.int .i64 op) ∧ w'.cell? ⟨w.heap.size, 1, none⟩ = some (.int .i64 a) ∧ w'.cell? ⟨w.heap.size, 2, none⟩ = some (.int .i64 b) ∧ w'.cell? ⟨w.heap.size, 3, none⟩ = some (.bool q.s) ∧ w'.cell? ⟨w.heap.size, 4, none⟩ = some (.slice q.A q.n q.c) ∧ w'.cell? ⟨w.heap.size, 5, none⟩ = some (.slice q.A' q.n' q.c')) (first | with_reducible exact HS.out _ x9.drew | with_reducible exact HS.out _ x13 | with_reducible exact HS.out _ x12 | with_reducible exact HS.out _ x11 | with_reducible exact HS.out _ x10 | fail)
      (first
        | (go_at_call 18; (with_reducible refine (LA.out _).mono ?_); rintro _ _ ⟨rfl, rfl⟩)
        | (go_at_call 19; (with_reducible refine (RA.out _).mono ?_); rintro _ _ ⟨rfl, rfl⟩)
        | (go_at_call 20; (with_reducible refine (LW.out _ ?hb1).mono ?_); (case hb1 => exact x9.drew); rintro _ _ ⟨rfl, rfl⟩)
        | (go_at_call 21; (with_reducible refine (RW.out _).mono ?_); rintro _ w10 ⟨rfl, b10⟩; have x10 : Below V.heap.size V w10 := bb x9 (Below.undrew b10))
        | (go_at_call 22; (with_reducible refine (LO.out _).mono ?_); rintro _ _ ⟨rfl, rfl⟩)
        | (go_at_call 23; (with_reducible refine (RO.out _).mono ?_); rintro _ _ ⟨rfl, rfl⟩)
        | (go_at_call 24; (with_reducible refine (SH.out _ x10).mono ?_); rintro _ w11 ⟨t11, rfl, e11, b11⟩; have x11 : Below V.heap.size V w11 := bb x10 b11)
        | (go_at_call 25; (with_reducible refine (RS.out _ x11).mono ?_); rintro _ w12 ⟨t12, rfl, e12, b12⟩; have x12 : Below V.heap.size V w12 := bb x11 b12; have f7 : (t11.toList == t12.toList) = true := by (rw [by_inj (e12.trans e11.symm)]; simp))
        | (go_at_call 10; (with_reducible refine (HSM.out _ x12).mono ?_); rintro _ w13 ⟨rfl, b13⟩; have x13 : Below V.heap.size V w13 := bb x12 b13))
    all_goals
      go_wp2_with fail
      go_ret
      exact ⟨rfl, bb hb0 x13⟩
  · go_enter Tryz.func3, Tryz.ntmps3
    go_wp2_with fail
    rw [HW.out]
    with_reducible refine (HMN.out _ (Below.refl _ V)).mono ?_
    rintro _ w1 ⟨rfl, b1⟩
    obtain ⟨k0, k1, k2, k3, k4, k5⟩ := HS.out _ b1
    go_wp2_with fail
    with_reducible refine (HM1.out _ b1).mono ?_
    rintro _ w2 ⟨rfl, b2⟩
    have x2 := bb b1 (bb (below_alloc _ _) b2)
    clear k0 k1 k2 k3 k4 k5
    go_wp2_with fail
    with_reducible refine (RC.out _ x2).mono ?_
    rintro _ w3 ⟨rfl, b3⟩
    have x3 := bb x2 b3
    go_wp2_with fail
    with_reducible refine (LR.out _ x3).mono ?_
    rintro _ w4 ⟨rfl, b4⟩
    have x4 := bb x3 b4
    go_wp2_with fail
    with_reducible refine (RR.out _ x4).mono ?_
    rintro _ w5 ⟨rfl, b5⟩
    have x5 := bb x4 b5
    go_wp2_with fail
    with_reducible refine (LI.out _ x5).mono ?_
    rintro _ w6 ⟨rfl, b6⟩
    have x6 := bb x5 b6
    go_wp2_with fail
    with_reducible refine (RI_.out _ x6).mono ?_
    rintro _ w7 ⟨rfl, b7⟩
    have x7 := bb x6 b7
    go_wp2_with fail
    with_reducible refine (LC.out _ x7).mono ?_
    rintro _ w8 ⟨rfl, b8⟩
    have x8 := bb x7 b8
    go_wp2_with fail
    with_reducible refine (LF.out _ x8).mono ?_
    rintro _ w9 ⟨rfl, b9⟩
    have x9 := bb x8 b9
    obtain ⟨k0, k1, k2, k3, k4, k5⟩ := HS.out _ x9
    go_wp2_with fail
    with_reducible refine (HR2.out _ x9).mono ?_
    rintro _ w19 ⟨rfl, b19⟩
    replace x9 := bb x9 (bb (below_alloc _ _) b19)
    clear k0 k1 k2 k3 k4 k5
    obtain ⟨k0, k1, k2, k3, k4, k5⟩ := HS.out _ x9
    go_wp2_with fail
    go_region_held3 (fun w' => w'.cell? ⟨w.heap.size, 0, none⟩ = some (.int .i64 2) ∧ w'.cell? ⟨w.heap.size, 1, none⟩ = some (.int .i64 a) ∧ w'.cell? ⟨w.heap.size, 2, none⟩ = some (.int .i64 b) ∧ w'.cell? ⟨w.heap.size, 3, none⟩ = some (.bool q.s) ∧ w'.cell? ⟨w.heap.size, 4, none⟩ = some (.slice q.A q.n q.c) ∧ w'.cell? ⟨w.heap.size, 5, none⟩ = some (.slice q.A' q.n' q.c')) (first | with_reducible exact HS.out _ x9.drew | with_reducible exact HS.out _ x13 | with_reducible exact HS.out _ x12 | with_reducible exact HS.out _ x11 | with_reducible exact HS.out _ x10 | fail)
      (first
        | (go_at_call 18; (with_reducible refine (LA.out _).mono ?_); rintro _ _ ⟨rfl, rfl⟩)
        | (go_at_call 19; (with_reducible refine (RA.out _).mono ?_); rintro _ _ ⟨rfl, rfl⟩)
        | (go_at_call 20; (with_reducible refine (LW.out _ ?hb1).mono ?_); (case hb1 => exact x9.drew); rintro _ _ ⟨rfl, rfl⟩)
        | (go_at_call 21; (with_reducible refine (RW.out _).mono ?_); rintro _ w10 ⟨rfl, b10⟩; have x10 : Below V.heap.size V w10 := bb x9 (Below.undrew b10))
        | (go_at_call 22; (with_reducible refine (LO.out _).mono ?_); rintro _ _ ⟨rfl, rfl⟩)
        | (go_at_call 23; (with_reducible refine (RO.out _).mono ?_); rintro _ _ ⟨rfl, rfl⟩)
        | (go_at_call 24; (with_reducible refine (SH.out _ x10).mono ?_); rintro _ w11 ⟨t11, rfl, e11, b11⟩; have x11 : Below V.heap.size V w11 := bb x10 b11)
        | (go_at_call 25; (with_reducible refine (RS.out _ x11).mono ?_); rintro _ w12 ⟨t12, rfl, e12, b12⟩; have x12 : Below V.heap.size V w12 := bb x11 b12; have f7 : (t11.toList == t12.toList) = true := by (rw [by_inj (e12.trans e11.symm)]; simp))
        | (go_at_call 10; (with_reducible refine (HSM.out _ x12).mono ?_); rintro _ w13 ⟨rfl, b13⟩; have x13 : Below V.heap.size V w13 := bb x12 b13))
    all_goals
      go_wp2_with fail
      go_ret
      exact ⟨rfl, bb hb0 x13⟩

end Go.Proofs.YtibgpeaplmcogaaGreatDoor

namespace Go.Proofs.YtibgpeaplmcogaaGreatDoor
set_option maxRecDepth 100000
open Go.RowKit
set_option linter.unusedVariables false
set_option linter.unusedSimpArgs false
set_option maxRecDepth 100000

theorem nam15l {W : World} (h : laidMetH Tryz.prog Rows.lineTellsRow.laid W) : Nam W := by
  rw [MakeChecks.laidMetH_plain _ _ _ (by kernel_rfl)] at h
  obtain ⟨ps, ⟨_, _, _, _, _, _, _, _, _, _, ⟨_, _, _, _, _, _, _, _, _, _, ⟨_, _, _, _, _, _, _, _, _, _, ⟨_, _, _, _, _, _, _, _, _, _, ⟨g, t, cs, fuel, p, q, hg, ht, hv, hd, _, _⟩, _⟩, _⟩, _⟩, _⟩, _, _⟩ := h
  obtain rfl : g = 0 := Option.some.inj (hg.symm.trans (show Tryz.prog.globalNamed ((Rows.lineTellsRow.laid.map Prod.fst).getD 4 Rows.lineTellsRow.spec) = some 0 by kernel_rfl))
  obtain rfl := Option.some.inj ((show (Tryz.prog.globals[0]?).map (·.type) = some 67 by kernel_rfl).symm.trans ht)
  obtain ⟨xs, m, _, ex, _, hl, hel⟩ := DataW.trod_array Tryz.underlying67 hd
  have c5 : Tryz.prog.cellsOf 9 = 1 := by kernel_rfl
  have hcell : ∀ r, r < 11 → W.cell? ⟨0, r, none⟩ = some (.string (nmS r)) := by
    intro r hr
    have hE := hel r hr
    rw [c5, Nat.mul_one, List.getElem?_eq_getElem (by omega)] at hE
    obtain ⟨s, e1, e2, _⟩ := DataW.trod_string Tryz.underlying9 hE
    have hlen : nameL.length = 11 := rfl
    have e3 : (xs.map (·.1)) = nameL.map fun n => (DataW.lit (.string n) : DataW Unit) := (DataW.agg.inj (Prod.mk.inj ex).1).symm
    have e4 : (xs.map (·.1))[r]? = (nameL.map fun n => (DataW.lit (.string n) : DataW Unit))[r]? := by rw [e3]
    rw [List.getElem?_map, List.getElem?_map, List.getElem?_eq_getElem (by omega : r < xs.length), List.getElem?_eq_getElem (by omega : r < nameL.length), e2] at e4
    have hz : s = nmS r := by
      simp only [Option.map_some, Option.some.injEq, DataW.lit.injEq, Lit.string.injEq] at e4
      unfold nmS
      rw [List.getD, List.getElem?_eq_getElem (by omega : r < nameL.length), Option.getD_some, ← e4]
    rw [World.var?_cell hg hv r, ← hz]
    have : cs.toList[r]? = some (.string s) := by
      have h0 : ((cs.toList.drop r).take 1)[0]? = some (.string s) := by rw [e1]; rfl
      simpa using h0
    simpa using this
  refine ⟨?_, hcell⟩
  have h1 := hcell 0 (by omega)
  rcases Nat.lt_or_ge 0 W.heap.size with h0 | h0
  · exact h0
  · exfalso
    have : W.heap[0]? = none := Array.getElem?_eq_none h0
    unfold World.cell? at h1
    simp [this] at h1

theorem pw15l {W : World} (h : laidMetH Tryz.prog Rows.lineTellsRow.laid W) : Pw W := by
  rw [MakeChecks.laidMetH_plain _ _ _ (by kernel_rfl)] at h
  obtain ⟨ps, ⟨_, _, _, _, _, _, _, _, _, _, ⟨_, _, _, _, _, _, _, _, _, _, ⟨g, t, cs, fuel, p, q, hg, ht, hv, hd, _, _⟩, _⟩, _⟩, _, _⟩ := h
  obtain rfl : g = 2 := Option.some.inj (hg.symm.trans pw_global)
  obtain rfl := Option.some.inj ((show (Tryz.prog.globals[2]?).map (·.type) = some 174 by kernel_rfl).symm.trans ht)
  have e := Lib.cells_of_tab (k := .u64) (zs := Lib.pow10Tab) Tryz.underlying174 Tryz.underlying76 (by kernel_rfl) (by kernel_rfl) hd
  unfold Pw Lib.TabIs
  refine Eq.trans hv ?_
  rw [← e]
def NamPw (w : World) : Prop := Nam w ∧ Pw w
theorem namPw {W : World} (h : laidMetH Tryz.prog Rows.lineTellsRow.laid W) : NamPw W := ⟨nam15l h, pw15l h⟩
theorem lineTells_row (a0 : Option Addr) (len0 cap0 : Nat) (z0 : List RI) (q1 : RI) (w : World) (w0 : SlP w a0 len0 cap0 z0) (w1 : RI.ok w q1) (hN : NamPw w) :
    Calls Tryz.prog 3 #[.slice a0 len0 cap0, .agg #[.int .i64 q1.op, .int .i64 q1.a, .int .i64 q1.b, .bool q1.q.s, .slice q1.q.A q1.q.n q1.q.c, .slice q1.q.A' q1.q.n' q1.q.c']] w (RetBl true w) := lineTells_walk w0 w1 hN.1 hN.2

end Go.Proofs.YtibgpeaplmcogaaGreatDoor
