/-
  What prod.karatsuba and prod.product return: as many words as both factors have, and they say the product; by induction on the number of words. Conditions: the slices read as lists of words, of at most 10^6 words together.
-/
import Derived.Test.YtnheefhbchkbdaaGreatDoorProdHalves
namespace Go.Proofs.YtnheefhbchkbdaaGreatDoor
set_option maxRecDepth 100000
open Go.RowKit
set_option linter.unusedVariables false
set_option linter.unusedSimpArgs false

/-- the slot holds a slice of n words that say v; of what was there in w nothing has turned -/
def Made (w : World) (n v : Nat) (s : Value) (wx : World) : Prop := ∃ A c p, s = .slice A n c ∧ Sl wx A n c p ∧ val p = v ∧ Below w.heap.size w wx
/-- .. a slice of at most K words that say v -/
def Some_ (w : World) (K v : Nat) (s : Value) (wx : World) : Prop := ∃ A n c p, s = .slice A n c ∧ n ≤ K ∧ Sl wx A n c p ∧ val p = v ∧ Below w.heap.size w wx

theorem spl_two {p1 p2 : List Int} {N k : Nat} (h1 : p1.length = k) (h2 : k + p2.length = N) : spl (spl (List.replicate N 0) 0 p1) k p2 = p1 ++ p2 := by
  subst h1
  have e1 : spl (List.replicate N 0) 0 p1 = p1 ++ List.replicate (N - p1.length) 0 := by unfold spl; simp
  rw [e1]
  unfold spl
  rw [List.take_append_of_le_length (Nat.le_refl _), List.take_of_length_le (Nat.le_refl _), List.drop_eq_nil_of_le (by simp; omega), List.append_nil]

set_option maxHeartbeats 2000000 in
theorem prod_karatsuba {N : Nat} (ih : ProdOk N) {w : World} {A A' : Option Addr} {n n' c c' half : Nat} {xs ys : List Int} (h : Sl w A n c xs) (h' : Sl w A' n' c' ys)
    (hN : n + n' ≤ N) (hM : n + n' ≤ 1000000) (h1 : n ≤ 2 * half) (h2 : 2 * half ≤ n + 1) (h3 : 10 ≤ n) (h4 : half < n') (h5 : n' ≤ n) :
    Calls Tryz.prog 100 #[.slice A n c, .slice A' n' c', .int .i64 half] w (RetV (n + n') (val xs * val ys) w) := by
  obtain ⟨b, off, rfl, _, _⟩ := h.at_ (k := 0) (by omega)
  obtain ⟨b', off', rfl, _, _⟩ := h'.at_ (k := 0) (by omega)
  have hcap := h.cap
  have hcap' := h'.cap
  have hlen := h.len
  have hlen' := h'.len
  have hxy := prod_fits (Dg_U h.us) (Dg_U h'.us)
  rw [← hlen, ← hlen'] at hxy
  have hsp := val_take_drop xs half
  have hsp' := val_take_drop ys half
  have s1 := h.drewN 1
  have s1' := h'.drewN 1
  have hch : ¬ (c = half) := by omega
  have hch' : ¬ (c' = half) := by omega
  have g1 : half ≤ c := by omega
  have g2 : half ≤ n := by omega
  have g3 : half ≤ c' := by omega
  have g4 : half ≤ n' := by omega
  have P1 := ih w.drew _ _ _ _ _ _ _ _ (s1.take (k := half) (by omega)) (s1'.take (k := half) (by omega)) (by omega)
  have P2 := fun w1 (hb : Below w.heap.size w w1) => ih w1 _ _ _ _ _ _ _ _ ((h.below hb).drop (k := half) (by omega)) ((h'.below hb).drop (k := half) (by omega)) (by omega)
  have Q1 := fun w1 (hb : Below w.heap.size w w1) => nat_add (w := w1) ((h.below hb).take (k := half) (by omega)) ((h.below hb).drop (k := half) (by omega)) (by omega) (by omega)
  have Q2 := fun w1 (hb : Below w.heap.size w w1) => nat_add (w := w1) ((h'.below hb).take (k := half) (by omega)) ((h'.below hb).drop (k := half) (by omega)) (by omega) (by omega)
  have ux : val (xs.take half) + val (xs.drop half) < W ^ (half + 1) := add_lt_pow (val_lt_pow (fun x hx => h.us x (List.mem_of_mem_take hx)) (by rw [List.length_take]; omega)) (val_lt_pow (fun x hx => h.us x (List.mem_of_mem_drop hx)) (by rw [List.length_drop]; omega))
  have uy : val (ys.take half) + val (ys.drop half) < W ^ (half + 1) := add_lt_pow (val_lt_pow (fun x hx => h'.us x (List.mem_of_mem_take hx)) (by rw [List.length_take]; omega)) (val_lt_pow (fun x hx => h'.us x (List.mem_of_mem_drop hx)) (by rw [List.length_drop]; omega))
  have HP2 := Lib.hid P2
  have HQ1 := Lib.hid Q1
  have HQ2 := Lib.hid Q2
  have HUX := Lib.hid ux
  have HUY := Lib.hid uy
  clear P2 Q1 Q2 ux uy
  have HP1 := Lib.hid P1
  have HXY := Lib.hid hxy
  have HSP := Lib.hid hsp
  have HSP' := Lib.hid hsp'
  have HL := Lib.hid hlen
  have HL' := Lib.hid hlen'
  have IH := Lib.hid ih
  clear ih P1 hxy hsp hsp' hlen hlen'
  go_enter Tryz.func100, Tryz.ntmps100
  go_upto_region 1 with (fail)
  go_cut [7] (fun s wx => Made w (half + half) (val (xs.take half) * val (ys.take half)) s wx)
  case first =>
    go_region_with (first | (go_at_call 83; refine HP1.out.mono ?_; rintro e w1 ⟨A1, c1, p1, rfl, s1, v1, b1, _⟩; have HV1 := Lib.hid v1; clear v1) | fail)
    all_goals
      go_wp2_with fail
      go_meet
      exact ⟨_, _, _, rfl, s1, HV1.out, Below.undrew b1⟩
  case rest =>
    obtain ⟨A1, c1, p1, rfl, s1, v1, hb1⟩ := hcut
    have HV1 := Lib.hid v1
    clear HP1 v1
    go_upto_region 2 with (fail)
    go_cut [8] (fun s wx => Made w (n - half + (n' - half)) (val (xs.drop half) * val (ys.drop half)) s wx ∧ Sl wx A1 (half + half) c1 p1)
    case first =>
      go_region_with (first | (go_at_call 83; refine (HP2.out _ hb1.drew).mono ?_; rintro e w2 ⟨A2, c2, p2, rfl, s2, v2, b2, _⟩; have HV2 := Lib.hid v2; clear v2) | fail)
      all_goals
        go_wp2_with fail
        go_meet
        exact ⟨⟨_, _, _, rfl, s2, HV2.out, hb1.drew.trans (b2.mono hb1.size)⟩, s1.below (Below.undrew b2)⟩
    case rest =>
      clear s1 hb1 HP2
      obtain ⟨⟨A2, c2, p2, rfl, s2, v2, hb2⟩, s1⟩ := hcut
      have HV2 := Lib.hid v2
      clear v2
      go_upto_region 3 with (fail)
      go_cut [9] (fun s wx => Some_ w (half + 1 + (half + 1)) ((val (xs.take half) + val (xs.drop half)) * (val (ys.take half) + val (ys.drop half))) s wx ∧ Sl wx A1 (half + half) c1 p1 ∧ Sl wx A2 (n - half + (n' - half)) c2 p2)
      case first =>
        go_region_with (first | (go_at_call 83; refine (IH.out _ _ _ _ _ _ _ _ _ (s3.below b4) s4 (by have := s3.small HUX.out; have := s4.small HUY.out; omega)).mono ?_; rintro e w5 ⟨A5, c5, p5, rfl, s5, v5, b5, _⟩; have HV5 := Lib.hid v5; clear v5) | (go_at_call 34; (with_reducible refine (HQ1.out _ hb2.drew).mono ?_); rintro e w3 ⟨A3, n3, c3, rfl, s3, b3⟩; have hb3 := hb2.drew.trans (b3.mono hb2.size)) | (go_at_call 34; (with_reducible refine (HQ2.out _ hb3).mono ?_); rintro e w4 ⟨A4, n4, c4, rfl, s4, b4⟩))
        all_goals
          go_wp2_with fail
          go_meet
          have b25 := (Below.undrew b3).trans ((b4.mono (Below.undrew b3).size).trans (b5.mono (Nat.le_trans (Below.undrew b3).size b4.size)))
          refine ⟨⟨_, _, _, _, rfl, ?_, s5, ?_, hb2.trans (b25.mono hb2.size)⟩, s1.below b25, s2.below b25⟩
          · have := s3.small HUX.out; have := s4.small HUY.out; omega
          · rw [HV5.out, val_words, val_words]
      case rest =>
        clear s1 s2 hb2
        obtain ⟨⟨A5, n5, c5, p5, rfl, hn5, s5, v5, hb5⟩, s1, s2⟩ := hcut
        have hle : val p1 + val p2 ≤ val p5 := by rw [HV1.out, HV2.out, v5]; exact kara_le
        have hval : val p1 + W ^ half * W ^ half * val p2 + W ^ half * (val p5 - (val p1 + val p2)) = val xs * val ys := kara (W ^ half) _ _ HSP.out HSP'.out HV1.out HV2.out (by rw [Nat.sub_add_cancel hle, v5])
        have R := nat_add s1 s2 (by omega) (by omega)
        have HR := Lib.hid R
        have HLE := Lib.hid hle
        have HVAL := Lib.hid hval
        clear R v5 hle hval HQ1 HQ2 HUX HUY IH
        go_wp2_with fail
        refine HR.out.mono ?_
        rintro e w6 ⟨A6, n6, c6, rfl, s6, b6⟩
        have hb6 := hb5.trans (b6.mono hb5.size)
        have hn6 : n6 ≤ n + n' := by
          refine s6.small (k := n + n') (Nat.lt_of_le_of_lt ?_ HXY.out)
          rw [← HVAL.out]
          have hp : 1 ≤ W ^ half := Nat.pow_pos W_pos
          have : 1 * val p2 ≤ W ^ half * W ^ half * val p2 := Nat.mul_le_mul_right _ (Nat.mul_le_mul hp hp)
          generalize W ^ half * (val p5 - (val p1 + val p2)) = z
          omega
        have R2 := nat_sub_yes (s5.below b6) s6 (by omega) (by omega) (by rw [val_words]; exact HLE.out)
        rw [val_words] at R2
        have HR2 := Lib.hid R2
        have S1 := Lib.hid (s1.below b6)
        have S2 := Lib.hid (s2.below b6)
        clear R2 HR hb5 s1 s2 s5 s6 b6 hn5
        go_wp2_with fail
        refine HR2.out.mono ?_
        rintro e w7 ⟨A7, n7, c7, rfl, s7, b7⟩
        have hb7 := hb6.trans (b7.mono hb6.size)
        have hmid : W ^ half * (val p5 - (val p1 + val p2)) < W ^ (half + (n + n' - half)) := by
          refine Nat.lt_of_le_of_lt ?_ (show val xs * val ys < _ by rw [show half + (n + n' - half) = n + n' by omega]; exact HXY.out)
          rw [← HVAL.out]
          omega
        have hn7 : n7 ≤ n + n' - half := s7.small (lt_of_mul_lt_pow hmid)
        obtain ⟨w8, hmk, hr8, hb8, hlt8⟩ := make_words w7 (n + n') (by omega)
        rw [show ((n + n' : Nat) : Int) = (n : Int) + (n' : Int) by omega] at hmk
        have S1' := Lib.hid ((S1.out.below b7).below hb8)
        have S2' := Lib.hid ((S2.out.below b7).below hb8)
        have S7 := Lib.hid (s7.apart' hb8 (Nat.le_refl _))
        have HR8 := Lib.hid hr8
        have HB8 := Lib.hid (hb7.trans (hb8.mono hb7.size))
        have HSZ := Lib.hid hb7.size
        have l1 := Lib.hid S1.out.len
        have l2 := Lib.hid S2.out.len
        have a1 := Lib.hid S1'.out
        have a2 := Lib.hid S2'.out
        have x2 : Hid (SlN w7.heap.size w8 A2 (n - half + (n' - half)) c2 p2) := (S2.out.below b7).apart' hb8 (Nat.le_refl _)
        clear HR2 hmid s7 hr8 hb8 hlt8 b7 hb7 hb6 S1 S2 S2'
        have hc2 : ¬ (n + n' = 2 * half) := by omega
        have hc3 : ¬ (n + n' = half) := by omega
        go_wp2_with (with_reducible refine wpList_copy_words rfl (.tmp 56) (.tmp 57) 22 22 rfl 52 Tryz.underlying22 sizeW w7.heap.size 0 (n + n') (n + n') A1 (half + half) c1 rfl rfl (List.replicate (n + n') 0) p1 ?hr ?hsl ?hle ?hfit ?_)
        case hr => exact HR8.out
        case hsl => exact S1'.out
        case hle => omega
        case hfit => simp; omega
        intro w9 HR9 HK9
        have y2 := Lib.hid ((x2.out.keep HK9.out).sl)
        have y7 := Lib.hid (S7.out.keep HK9.out)
        have HB9 := Lib.hid (Below.keep HB8.out HK9.out HSZ.out (Nat.le_refl _))
        clear HR8 S1' S7 HB8
        go_wp2_with (with_reducible refine wpList_copy_words rfl (.tmp 62) (.tmp 63) 22 22 rfl 52 Tryz.underlying22 sizeW w7.heap.size (2 * half) (n + n' - 2 * half) (n + n' - 2 * half) A2 (n - half + (n' - half)) c2 rfl rfl (spl (List.replicate (n + n') 0) 0 p1) p2 ?hr2 ?hsl2 ?hle2 ?hfit2 ?_)
        case hr2 => exact HR9.out
        case hsl2 => exact y2.out
        case hle2 => omega
        case hfit2 => rw [length_spl (by have := l1.out; simp; omega)]; simp; omega
        intro w10 HR10 HK10
        have hr10 := HR10.out
        have L1 := l1.out
        have L2 := l2.out
        rw [spl_two (by omega) (by omega)] at hr10
        have HB10 := Lib.hid (Below.keep HB9.out HK10.out HSZ.out (Nat.le_refl _))
        have hdz : Dg W (p1 ++ p2) := (Dg_U a1.out.us).append (Dg_U a2.out.us)
        have hlz : (p1 ++ p2).length = n + n' := by rw [List.length_append]; omega
        have hvz : valB W (p1 ++ p2) = val p1 + W ^ half * W ^ half * val p2 := by
          rw [valB_append, ← L1, Nat.pow_add]; rfl
        have y7' := y7.out.keep HK10.out
        have K := prod_addTo (off := half) (L := n + n' - half) (C := n + n' - half) hr10 hdz y7' (by omega) hn7 (by rw [hlz]; omega) (by rw [hvz, val_words, HVAL.out, hlz]; exact HXY.out)
        have HK := Lib.hid K
        have HVZ := Lib.hid hvz
        have HLZ := Lib.hid hlz
        clear K hr10 hdz hlz hvz y7' L1 L2 HR10 HR9 y2 y7
        go_wp2_with fail
        refine HK.out.mono ?_
        rintro e w11 ⟨us, rfl, hr11, hk11, t1, t2, t3⟩
        have hb11 := Below.keep HB10.out hk11 HSZ.out (Nat.le_refl _)
        have hsl11 := hr11.sl (c := n + n') (U_Dg t2) (by rw [t1, HLZ.out]; omega)
        rw [t1, HLZ.out] at hsl11
        have hv11 : val us = val xs * val ys := by
          have e : valB W us = valB W (p1 ++ p2) + W ^ half * (val p5 - (val p1 + val p2)) := by rw [t3, val_words]
          unfold val at e ⊢
          rw [e, HVZ.out]
          exact HVAL.out
        have HS11 := Lib.hid hsl11
        have HV11 := Lib.hid hv11
        clear hr11 hk11 t1 t2 t3 hsl11 hv11 HK HVZ HLZ
        go_wp2_with fail
        go_ret
        exact ⟨_, _, _, rfl, HS11.out, HV11.out, hb11, New.some_ HSZ.out⟩

set_option maxHeartbeats 1000000 in
theorem prod_product_step {N : Nat} (ih : ProdOk N) (hM : N ≤ 1000000) : ProdOk (N + 1) := by
  intro w A A' n n' c c' xs ys h h' hN
  have key : ∀ (w : World) (A A' : Option Addr) (n n' c c' : Nat) (xs ys : List Int), Sl w A n c xs → Sl w A' n' c' ys → n + n' < N + 1 → n' ≤ n →
      (n' < 40 → Calls Tryz.prog 98 #[.slice A n c, .slice A' n' c'] w (RetV (n + n') (val xs * val ys) w)) ∧
      (40 ≤ n' → n' ≤ (n + 1) / 2 → Calls Tryz.prog 99 #[.slice A n c, .slice A' n' c', .int .i64 (((n + 1) / 2 : Nat) : Int)] w (RetV (n + n') (val xs * val ys) w)) ∧
      (40 ≤ n' → (n + 1) / 2 < n' → Calls Tryz.prog 100 #[.slice A n c, .slice A' n' c', .int .i64 (((n + 1) / 2 : Nat) : Int)] w (RetV (n + n') (val xs * val ys) w)) := by
    intro w A A' n n' c c' xs ys h h' hN hle
    exact ⟨fun _ => prod_rows h h' (by omega) (by omega), fun _ _ => prod_halves ih h h' (by omega) (by omega) (by omega) (by omega) (by omega),
      fun _ _ => prod_karatsuba ih h h' (by omega) (by omega) (by omega) (by omega) (by omega) (by omega) hle⟩
  have HKEY := Lib.hid key
  clear key ih
  by_cases hle : n' ≤ n
  · have hlt : ¬ (n < n') := by omega
    obtain ⟨k1, k2, k3⟩ := HKEY.out w A A' n n' c c' xs ys h h' hN hle
    obtain ⟨half, hh⟩ : ∃ k, (n + 1) / 2 = k := ⟨_, rfl⟩
    have hh2 : ((n : Int) + 1) / 2 = (half : Int) := by omega
    rw [hh] at k2 k3
    by_cases h40 : n' < 40
    · have K := Lib.hid (k1 h40)
      clear k1 k2 k3 hh
      go_enter Tryz.func83, Tryz.ntmps83
      go_wp2_with fail
      refine K.out.mono ?_
      rintro e w1 ⟨A1, c1, p1, rfl, s1, v1, b1, n1⟩
      have HV := Lib.hid v1
      clear v1
      go_wp2_with fail
      go_ret
      exact ⟨_, _, _, rfl, s1, HV.out, b1, n1⟩
    · by_cases hhf : n' ≤ half
      · have K := Lib.hid (k2 (by omega) (by omega))
        clear k1 k2 k3 hh
        go_enter Tryz.func83, Tryz.ntmps83
        go_wp2_with fail
        refine K.out.mono ?_
        rintro e w1 ⟨A1, c1, p1, rfl, s1, v1, b1, n1⟩
        have HV := Lib.hid v1
        clear v1
        go_wp2_with fail
        go_ret
        exact ⟨_, _, _, rfl, s1, HV.out, b1, n1⟩
      · have K := Lib.hid (k3 (by omega) (by omega))
        clear k1 k2 k3 hh
        go_enter Tryz.func83, Tryz.ntmps83
        go_wp2_with fail
        refine K.out.mono ?_
        rintro e w1 ⟨A1, c1, p1, rfl, s1, v1, b1, n1⟩
        have HV := Lib.hid v1
        clear v1
        go_wp2_with fail
        go_ret
        exact ⟨_, _, _, rfl, s1, HV.out, b1, n1⟩
  · have hlt : n < n' := by omega
    obtain ⟨k1, k2, k3⟩ := HKEY.out w A' A n' n c' c ys xs h' h (by omega) (by omega)
    obtain ⟨half, hh⟩ : ∃ k, (n' + 1) / 2 = k := ⟨_, rfl⟩
    have hh2 : ((n' : Int) + 1) / 2 = (half : Int) := by omega
    rw [hh] at k2 k3
    rw [Nat.mul_comm (val ys), Nat.add_comm n'] at k1 k2 k3
    by_cases h40 : n < 40
    · have K := Lib.hid (k1 h40)
      clear k1 k2 k3 hh
      go_enter Tryz.func83, Tryz.ntmps83
      go_wp2_with fail
      refine K.out.mono ?_
      rintro e w1 ⟨A1, c1, p1, rfl, s1, v1, b1, n1⟩
      have HV := Lib.hid v1
      clear v1
      go_wp2_with fail
      go_ret
      exact ⟨_, _, _, rfl, s1, HV.out, b1, n1⟩
    · by_cases hhf : n ≤ half
      · have K := Lib.hid (k2 (by omega) (by omega))
        clear k1 k2 k3 hh
        go_enter Tryz.func83, Tryz.ntmps83
        go_wp2_with fail
        refine K.out.mono ?_
        rintro e w1 ⟨A1, c1, p1, rfl, s1, v1, b1, n1⟩
        have HV := Lib.hid v1
        clear v1
        go_wp2_with fail
        go_ret
        exact ⟨_, _, _, rfl, s1, HV.out, b1, n1⟩
      · have K := Lib.hid (k3 (by omega) (by omega))
        clear k1 k2 k3 hh
        go_enter Tryz.func83, Tryz.ntmps83
        go_wp2_with fail
        refine K.out.mono ?_
        rintro e w1 ⟨A1, c1, p1, rfl, s1, v1, b1, n1⟩
        have HV := Lib.hid v1
        clear v1
        go_wp2_with fail
        go_ret
        exact ⟨_, _, _, rfl, s1, HV.out, b1, n1⟩

theorem prod_product_all (N : Nat) (hM : N ≤ 1000001) : ProdOk N := by
  induction N with
  | zero => intro w A A' n n' c c' xs ys h h' hN; omega
  | succ N ih => exact prod_product_step (ih (by omega)) (by omega)

set_option maxHeartbeats 1000000 in
theorem prod_mul {w : World} {A A' : Option Addr} {n n' c c' : Nat} {xs ys : List Int} (h : Sl w A n c xs) (h' : Sl w A' n' c' ys) (hn : n + n' ≤ 1000000) :
    Calls Tryz.prog 51 #[.slice A n c, .slice A' n' c'] w (RetSl (words (val xs * val ys)) w) := by
  have l1 := Lib.hid h.len
  have l2 := Lib.hid h'.len
  have T1 := nat_trim h (by omega)
  have HT1 := Lib.hid T1
  clear T1
  go_enter Tryz.func51, Tryz.ntmps51
  go_wp2_with fail
  refine HT1.out.mono ?_
  rintro e w1 ⟨A1, n1, c1, rfl, s1, b1⟩
  have T2 := Lib.hid (nat_trim (h'.below b1) (by omega))
  go_wp2_with fail
  refine T2.out.mono ?_
  rintro e w2 ⟨A2, n2, c2, rfl, s2, b2⟩
  have hb2 := b1.trans (b2.mono b1.size)
  have e1 : n1 ≤ n := by rw [l1.out]; exact s1.small (val_lt_pow h.us (Nat.le_refl _))
  have e2 : n2 ≤ n' := by rw [l2.out]; exact s2.small (val_lt_pow h'.us (Nat.le_refl _))
  have P := prod_product_all 1000001 (by omega) w2 _ _ _ _ _ _ _ _ (s1.below b2) s2 (by omega)
  have HP := Lib.hid P
  clear P s1 s2 b1 b2 HT1 T2
  go_wp2_with fail
  refine HP.out.mono ?_
  rintro e w3 ⟨A3, c3, p3, rfl, s3, v3, b3, _⟩
  have hb3 := hb2.trans (b3.mono hb2.size)
  have T3 := nat_trim s3 (by omega)
  rw [v3, val_words, val_words] at T3
  have HT3 := Lib.hid T3
  clear T3 s3 v3 b3 HP
  go_wp2_with fail
  refine HT3.out.mono ?_
  rintro e w4 ⟨A4, n4, c4, rfl, s4, b4⟩
  go_wp2_with fail
  go_ret
  exact ⟨_, _, _, rfl, s4, hb3.trans (b4.mono hb3.size)⟩

end Go.Proofs.YtnheefhbchkbdaaGreatDoor
