/-
  What the document's own quotients (package gradineref04) return, of single words and of any numbers. Conditions: the slices read as lists of words, of at most 90000 words; the divisor is not 0.
-/
import Derived.Test.YthpbaaanbimapaaGreatDoorNatShlAllC
import Derived.Test.YthpbaaanbimapaaGreatDoorQuotWordAllC
import Derived.Deep.DeepCutAuto
import Derived.Deep.RegionHeld3
namespace Go.Proofs.YthpbaaanbimapaaGreatDoor
set_option maxRecDepth 100000
open Go.RowKit
set_option linter.unusedVariables false
set_option linter.unusedSimpArgs false

theorem Own.addr {t : TypeId} {B : Nat} {w : World} {A : Option Addr} {n c : Nat} {zs : List Int} (h : Own t B w (.slice A n c) zs) (h0 : 0 < zs.length) : ∃ g, A = some ⟨g, 0, none⟩ ∧ B ≤ g := by
  rcases h with ⟨hl, ⟨hv, hn⟩ | ⟨g, cap, cur, hv, hb, _⟩⟩
  · omega
  · injection hv with ha
    exact ⟨g, ha, hb⟩
theorem Own.cell {t : TypeId} {B : Nat} {w : World} {g n c : Nat} {zs : List Int} (h : Own t B w (.slice (some ⟨g, 0, none⟩) n c) zs) {i : Nat} (hi : i < zs.length) : w.cell? ⟨g, i, none⟩ = some (.int .u64 (zs.getD i 0)) := by
  obtain ⟨A', c', e⟩ := own_form h
  injection e with e1 e2 e3
  subst e2
  rw [h.out.cellAt i (by omega)]
  simp [vs, List.getD_eq_getElem?_getD, List.getElem?_eq_getElem hi]
theorem Own.free {t : TypeId} {B : Nat} {w : World} {g n c : Nat} {zs : List Int} (h : Own t B w (.slice (some ⟨g, 0, none⟩) n c) zs) (i : Nat) : w.frozen? ⟨g, i, none⟩ = false := by
  obtain ⟨A', c', e⟩ := own_form h
  injection e with e1 e2 e3
  subst e2
  exact h.out.frozenAt i
theorem Own.set {t : TypeId} {B : Nat} {w : World} {g n c : Nat} {zs : List Int} (h : Own t B w (.slice (some ⟨g, 0, none⟩) n c) zs) (i : Nat) (u : Int) : Own t B (w.setCell ⟨g, i, none⟩ (.int .u64 u)) (.slice (some ⟨g, 0, none⟩) n c) (zs.set i u) := by
  obtain ⟨A', c', e⟩ := own_form h
  injection e with e1 e2 e3
  subst e2
  have := (h.out.stored i (.int .u64 u)).1
  unfold Own
  have ev : vs (zs.set i u) = (vs zs).set i (.int .u64 u) := by unfold vs; rw [List.map_set]
  rw [ev, List.length_set]
  exact this
theorem Own.drew {t : TypeId} {B : Nat} {w : World} {v : Value} {zs : List Int} (h : Own t B w v zs) : Own t B w.drew v zs := h

set_option maxHeartbeats 2000000 in
theorem ref_shl {w : World} {A : Option Addr} {n c : Nat} {xs : List Int} (h : Sl w A n c xs) (hn : n ≤ 1000000) (i : Int) :
    Calls Tryz.prog 120 #[.slice A n c, .int .i64 i] w (RetSl (words (val xs * 2 ^ clampS i)) w) := by
  have hlen := h.len
  have HL := Lib.hid hlen
  clear hlen
  obtain ⟨i0, hi, hz0, hz1, hz2⟩ := info_parts infoW
  obtain ⟨m, hm⟩ : ∃ m, clampS i = m := ⟨_, rfl⟩
  have hm64 := clampS_le i
  rw [hm] at hm64
  rw [hm]
  have HM := Lib.hid hm
  clear hm
  obtain ⟨skip, hskip⟩ : ∃ k, m / 64 = k := ⟨_, rfl⟩
  obtain ⟨s, hs0⟩ : ∃ k, m % 64 = k := ⟨_, rfl⟩
  have hs64 : s < 64 := by omega
  have hsk : skip ≤ 1024 := by omega
  have e1 : (m : Int) / 64 = (skip : Int) := by omega
  have e2 : (m : Int) % 64 = (s : Int) := by omega
  have epow : W ^ skip * 2 ^ s = 2 ^ m := by rw [← hskip, ← hs0]; exact pow_shift m
  have EP := Lib.hid epow
  clear hskip hs0 epow
  go_enter Tryz.func120, Tryz.ntmps120
  go_upto_region 1 with (fail)
  go_cut [1] (fun s1 wx => s1 = .int .i64 m ∧ w = wx)
  case first =>
    by_cases h1 : i < 0
    · go_wp2_with fail
      go_meet
      exact ⟨vint (by have := HM.out; rw [clampS_neg (by omega)] at this; omega), rfl⟩
    · by_cases h2 : i > 65536
      · go_wp2_with fail
        go_meet
        exact ⟨vint (by have := HM.out; rw [clampS_big (by omega)] at this; omega), rfl⟩
      · go_wp2_with fail
        go_meet
        exact ⟨vint (by have := HM.out; rw [clampS_mid (by omega) (by omega)] at this; omega), rfl⟩
  case rest =>
    obtain ⟨rfl, rfl⟩ := hcut
    go_wp2_with fail
    go_loopw [5, 14] (fun v i wr => ∃ (k : Nat) (zs : List Int), k ≤ skip ∧ i = .int .i64 k ∧ Own 34 w.heap.size wr v zs ∧ Below w.heap.size w wr ∧ Hid (zs = List.replicate k 0)) (fun _ i _ => skip - mes i)
    case atStart => exact ⟨0, [], by omega, rfl, Own.nil _ _ _, Below.refl _ _, Lib.hid rfl⟩
    case round =>
      obtain ⟨k, zs, hk, rfl, hown, hb, HZ⟩ := hrel
      have hzl : zs.length ≤ k := by rw [HZ.out]; simp
      by_cases hk2 : k < skip
      · go_wp2_with (at_builtin; refine wpList_append_own _ rfl (.tmp 16) (.tmp 17) 49 rfl w.heap.size 34 i0 (.int .u64 0) 1 8 Tryz.underlying49 hi hz0 hz1 hz2 rfl (by decide) _ _ _ rfl (hown.out.alloc _) ⟨wr.heap.size, 0, none⟩ 1 1 [.int .u64 (0)] rfl rfl ?c1 ?c2 ?c3 ?c4 ?c5 ?_)
        case c1 => exact cell_one_new _ _ _
        case c2 => intro u hu; simp at hu; subst hu; rfl
        case c3 => unfold maxLen; omega
        case c4 => omega
        case c5 => have := hb.size; simp; omega
        intro v' w1 hown' hgrow _
        have hb1 := own_below hb hown hgrow
        have HO := Lib.hid (Own.snoc hown')
        clear hown hown' hgrow
        go_wp2
        go_roundw
        case rel => exact ⟨k + 1, _, by omega, by go_num, HO.out, hb1, Lib.hid (by rw [HZ.out, ← List.replicate_succ'])⟩
        case measure => simp [mes, intOf]; omega
      · obtain rfl : k = skip := by omega
        go_wp2_with fail
        go_loopw [5, 22] (fun v i wr2 => ∃ (j : Nat) (ys : List Int), j ≤ n ∧ i = .int .i64 j ∧ Own 34 w.heap.size wr2 v ys ∧ Below w.heap.size w wr2 ∧ Hid (ys = List.replicate k 0 ++ xs.take j)) (fun _ i _ => n - mes i)
        case atStart => exact ⟨0, zs, by omega, rfl, hown, hb, Lib.hid (by rw [HZ.out]; simp)⟩
        case round =>
          clear hown hb hzl HZ
          obtain ⟨j, ys, hj, rfl, hown, hb, HY⟩ := hrel
          have hyl : ys.length ≤ k + j := by rw [HY.out]; simp [List.length_take]; omega
          by_cases hj2 : j < n
          · obtain ⟨ba, off, rfl, hba, hca⟩ := h.at_ (k := j) (by omega)
            have hac := (hb.cell (p := ⟨ba, off + j, none⟩) hba).trans (hca j (by omega))
            have ht := take_snoc xs j (by have := HL.out; omega)
            obtain ⟨x, hx⟩ : ∃ x, xs.getD j 0 = x := ⟨_, rfl⟩
            rw [hx] at hac ht
            have HT := Lib.hid ht
            clear ht hx hca
            go_wp2_with (at_builtin; refine wpList_append_own _ rfl (.tmp 25) (.tmp 30) 49 rfl w.heap.size 34 i0 (.int .u64 0) 1 8 Tryz.underlying49 hi hz0 hz1 hz2 rfl (by decide) _ _ _ rfl (hown.out.alloc _) ⟨wr.heap.size, 0, none⟩ 1 1 [.int .u64 (x)] rfl rfl ?d1 ?d2 ?d3 ?d4 ?d5 ?_)
            case d1 => exact cell_one_new _ _ _
            case d2 => intro u hu; simp at hu; subst hu; rfl
            case d3 => unfold maxLen; omega
            case d4 => omega
            case d5 => have := hb.size; simp; omega
            intro v' w1 hown' hgrow _
            have hb1 := own_below hb hown hgrow
            have HO := Lib.hid (Own.snoc hown')
            clear hown hown' hgrow hac
            go_wp2
            go_roundw
            case rel => exact ⟨j + 1, _, by omega, by go_num, HO.out, hb1, Lib.hid (by rw [HY.out, HT.out, List.append_assoc])⟩
            case measure => simp [mes, intOf]; omega
          · obtain rfl : j = n := by omega
            have hL : ys = List.replicate k 0 ++ xs := by rw [HY.out, List.take_of_length_le (by have := HL.out; omega)]
            have hdL : Dg W ys := by rw [hL]; exact (Dg.zeros W_pos _).append (Dg_U h.us)
            have hvL : val ys * 2 ^ s = val xs * 2 ^ m := by
              rw [hL, val_zeros_append, ← EP.out, Nat.mul_right_comm, Nat.mul_comm]
            have hlL : ys.length = k + j := by rw [hL]; simp; have := HL.out; omega
            clear HY hL
            have HV := Lib.hid hvL
            have HLL := Lib.hid hlL
            clear hvL hlL
            by_cases hs0 : s = 0
            · subst hs0
              obtain ⟨A2, c2, rfl⟩ := own_form hown
              have R := ref_trim (hown.sl (U_Dg hdL)) (by omega)
              have hv9 := HV.out
              rw [Nat.pow_zero, Nat.mul_one] at hv9
              rw [hv9] at R
              have HR := Lib.hid R
              clear R hown hv9
              go_wp2_with fail
              refine HR.out.mono ?_
              rintro e w' ⟨A3, n3, c3, rfl, s3, b3⟩
              go_wp2_with fail
              go_ret
              exact ⟨_, _, _, rfl, s3, hb.trans (b3.mono hb.size)⟩
            · have hs1 : ((s : Int) == 0) = false := by simp; omega
              go_wp2_with (at_builtin; refine wpList_append_own _ rfl (.tmp 41) (.tmp 42) 49 rfl w.heap.size 34 i0 (.int .u64 0) 1 8 Tryz.underlying49 hi hz0 hz1 hz2 rfl (by decide) _ _ _ rfl (hown.out.alloc _) ⟨wr.heap.size, 0, none⟩ 1 1 [.int .u64 (0)] rfl rfl ?f1 ?f2 ?f3 ?f4 ?f5 ?_)
              case f1 => exact cell_one_new _ _ _
              case f2 => intro u hu; simp at hu; subst hu; rfl
              case f3 => unfold maxLen; omega
              case f4 => omega
              case f5 => have := hb.size; simp; omega
              intro v' w1 hown' hgrow _
              have hb1 := own_below hb hown hgrow
              have hown1 := Own.snoc hown'
              clear hown hown' hgrow hb
              obtain ⟨A2, c2, rfl⟩ := own_form hown1
              obtain ⟨g, rfl, hg⟩ := hown1.addr (by simp)
              obtain ⟨L, hL⟩ : ∃ L, ys ++ [0] = L := ⟨_, rfl⟩
              have hNL : L.length = ys.length + 1 := by rw [← hL]; simp
              have hdL' : Dg W L := by rw [← hL]; exact hdL.snoc (by omega) (by unfold W; omega)
              have hl0 : L.getD ys.length 0 = 0 := by rw [← hL]; simp [List.getD_eq_getElem?_getD]
              have hvL' : val L = val ys := by rw [← hL]; exact val_snoc_zero ys
              rw [hL] at hown1 ⊢
              rw [hNL] at hown1 ⊢
              have hst := shlDown_0 (s := s) hdL' hNL hl0
              generalize hN : ys.length = N at *
              have HN := Lib.hid hN
              have HVL := Lib.hid hvL'
              have HNL := Lib.hid hNL
              clear hL hN hvL' hNL hl0
              go_wp2_with fail
              go_loopw [8] (fun i wr3 => ∃ (p : Nat) (zs : List Int), p ≤ N ∧ i = .int .i64 p ∧ Own 34 w.heap.size wr3 (.slice (some ⟨g, 0, none⟩) (N + 1) c2) zs ∧ Below w.heap.size w wr3 ∧ ShlDown L s p zs) (fun i _ => mes i)
              case atStart => exact ⟨N, L, by omega, rfl, hown1, hb1, hst⟩
              case round =>
                clear hown1 hb1 hst
                obtain ⟨p, zs, hp, rfl, hown, hb, hz⟩ := hrel
                have hzl : zs.length = N + 1 := by rw [hz.1, HNL.out]
                cases p with
                | zero =>
                  have hc0 := hown.cell (i := 0) (by omega)
                  rw [hz.2.2.1 0 (by omega)] at hc0
                  have hf0 := hown.free 0
                  have hux : U (L.getD 0 0) := by have := hdL'.at_ W_pos 0; unfold U; unfold W at this; omega
                  obtain ⟨v, ev, v1, v2, v3⟩ := shl_digit2 hs64 hux U_0
                  have ez : (0 : Int) / 2 ^ (64 - s) = 0 := Int.zero_ediv _
                  have ez' : (0 : Int).toNat / 2 ^ (64 - s) = 0 := by simp
                  rw [ez', Nat.add_zero] at v2
                  have ev2 : IntKind.u64.wrap (L.getD 0 0 * 2 ^ s) = (v : Int) := by
                    rw [← ev, ez]
                    have hw := U_wrap (L.getD 0 0 * 2 ^ s)
                    rw [or_join 0 hw (by simp) (by omega) (by simp) U_0, Int.add_zero]
                  obtain ⟨f1, f2, f3⟩ := shlDown_end hz (by rw [HNL.out]; omega) v1 v2 v3
                  have ho2 := hown.set 0 (v : Int)
                  have hb2 : Below w.heap.size w (wr.setCell ⟨g, 0, none⟩ (.int .u64 (v : Int))) := hb.setCell hg _
                  have R := ref_trim (ho2.sl (U_Dg f2)) (by omega)
                  rw [f1, HVL.out, HV.out] at R
                  generalize L.getD 0 0 = x at *
                  have HR := Lib.hid R
                  have HB2 := Lib.hid hb2
                  clear R ho2 f1 f2 f3 hz hown ev v1 v2 v3 ez ez' hzl hux hb2
                  go_wp2_with fail
                  refine HR.out.mono ?_
                  rintro e w' ⟨A3, n3, c3, rfl, s3, b3⟩
                  go_wp2_with fail
                  go_ret
                  exact ⟨_, _, _, rfl, s3, HB2.out.trans (b3.mono HB2.out.size)⟩
                | succ p =>
                  have hc1 := hown.cell (i := p + 1) (by omega)
                  rw [hz.2.2.1 (p + 1) (by omega)] at hc1
                  have hc0 := hown.cell (i := p) (by omega)
                  rw [hz.2.2.1 p (by omega)] at hc0
                  have hf1 := hown.free (p + 1)
                  have hux : U (L.getD (p + 1) 0) := by have := hdL'.at_ W_pos (p + 1); unfold U; unfold W at this; omega
                  have huy : U (L.getD p 0) := by have := hdL'.at_ W_pos p; unfold U; unfold W at this; omega
                  obtain ⟨v, ev, v1, v2, v3⟩ := shl_digit2 hs64 hux huy
                  have hst := shlDown_step hz (by rw [HNL.out]; omega) v1 v2 v3
                  have ho2 := hown.set (p + 1) (v : Int)
                  generalize L.getD (p + 1) 0 = x at *
                  generalize L.getD p 0 = y at *
                  have HS := Lib.hid hst
                  have HO := Lib.hid ho2
                  have wr1 : IntKind.u64.wrap (64 - (s : Int)) = 64 - (s : Int) := by rw [wrapU_lo, lo_U]; unfold U; omega
                  have wr2 : (64 - (s : Int)).toNat = 64 - s := by omega
                  clear hst ho2 hz hown v1 v2 v3 hzl hux huy
                  go_wp2_with fail
                  go_region
                  go_wp2
                  go_roundw
                  case rel => exact ⟨p, _, by omega, by go_num, HO.out, (hb.setCell hg _).drew, HS.out⟩
                  case measure => exact mes_lt (by omega) (by omega)

set_option maxHeartbeats 2000000 in
theorem ref_shr {w : World} {A : Option Addr} {n c : Nat} {xs : List Int} (h : Sl w A n c xs) (hn : n ≤ 1000000) (i : Int) (hi9 : i ≤ 9223372036854775807) :
    Calls Tryz.prog 166 #[.slice A n c, .int .i64 i] w (RetSl (words (val xs / 2 ^ i.toNat)) w) := by
  have hlen := h.len
  have HL := Lib.hid hlen
  clear hlen
  obtain ⟨i0, hi, hz0, hz1, hz2⟩ := info_parts infoW
  obtain ⟨m, hm⟩ : ∃ m, i.toNat = m := ⟨_, rfl⟩
  have hm64 : m ≤ 9223372036854775807 := by omega
  rw [hm]
  have HM := Lib.hid hm
  clear hm
  obtain ⟨skip, hskip⟩ : ∃ k, m / 64 = k := ⟨_, rfl⟩
  obtain ⟨s, hs0⟩ : ∃ k, m % 64 = k := ⟨_, rfl⟩
  have hs64 : s < 64 := by omega
  have hsk : skip ≤ 144115188075855872 := by omega
  have e1 : (m : Int) / 64 = (skip : Int) := by omega
  have e2 : (m : Int) % 64 = (s : Int) := by omega
  have epow : val (xs.drop skip) / 2 ^ s = val xs / 2 ^ m := by rw [← hskip, ← hs0]; exact val_drop_div (Dg_U h.us) m
  have EP := Lib.hid epow
  clear hskip hs0 epow
  go_enter Tryz.func166, Tryz.ntmps166
  go_upto_region 1 with (fail)
  go_cut [1] (fun s1 wx => s1 = .int .i64 m ∧ w = wx)
  case first =>
    by_cases h1 : i < 0
    · go_wp2_with fail
      go_meet
      exact ⟨vint (by have := HM.out; omega), rfl⟩
    · go_wp2_with fail
      go_meet
      exact ⟨vint (by have := HM.out; omega), rfl⟩
  case rest =>
    obtain ⟨rfl, rfl⟩ := hcut
    go_wp2_with fail
    go_loopw [5, 6] (fun v i wr => ∃ (k : Nat) (zs : List Int), k ≤ n - skip ∧ i = .int .i64 ((skip : Int) + k) ∧ Own 34 w.heap.size wr v zs ∧ Below w.heap.size w wr ∧ Hid (zs = (xs.drop skip).take k)) (fun _ i _ => n - mes i)
    case atStart => exact ⟨0, [], by omega, vint (by omega), Own.nil _ _ _, Below.refl _ _, Lib.hid (by simp)⟩
    case round =>
      obtain ⟨k, zs, hk, rfl, hown, hb, HZ⟩ := hrel
      have hzl : zs.length ≤ k := by rw [HZ.out, List.length_take]; omega
      by_cases hk2 : skip + k < n
      · obtain ⟨ba, off, rfl, hba, hca⟩ := h.at_ (k := skip + k) (by omega)
        have hac := (hb.cell (p := ⟨ba, off + (skip + k), none⟩) hba).trans (hca (skip + k) (by omega))
        have ht := take_snoc (xs.drop skip) k (by rw [List.length_drop]; have := HL.out; omega)
        have hgd : (xs.drop skip).getD k 0 = xs.getD (skip + k) 0 := by simp [List.getD_eq_getElem?_getD, List.getElem?_drop]
        rw [hgd] at ht
        obtain ⟨x, hx⟩ : ∃ x, xs.getD (skip + k) 0 = x := ⟨_, rfl⟩
        rw [hx] at hac ht
        have HT := Lib.hid ht
        have hkn : (skip : Int) + k < n := by omega
        have htn : ((skip : Int) + k).toNat = skip + k := by omega
        clear ht hx hca hgd
        go_wp2_with (at_builtin; refine wpList_append_own _ rfl (.tmp 19) (.tmp 24) 49 rfl w.heap.size 34 i0 (.int .u64 0) 1 8 Tryz.underlying49 hi hz0 hz1 hz2 rfl (by decide) _ _ _ rfl (hown.out.alloc _) ⟨wr.heap.size, 0, none⟩ 1 1 [.int .u64 (x)] rfl rfl ?c1 ?c2 ?c3 ?c4 ?c5 ?_)
        case c1 => exact cell_one_new _ _ _
        case c2 => intro u hu; simp at hu; subst hu; rfl
        case c3 => unfold maxLen; omega
        case c4 => omega
        case c5 => have := hb.size; simp; omega
        intro v' w1 hown' hgrow _
        have hb1 := own_below hb hown hgrow
        have HO := Lib.hid (Own.snoc hown')
        clear hown hown' hgrow hac
        go_wp2
        go_roundw
        case rel => exact ⟨k + 1, _, by omega, by go_num, HO.out, hb1, Lib.hid (by rw [HZ.out, HT.out])⟩
        case measure => simp [mes, intOf]; omega
      · have hk3 : k = n - skip := by omega
        have hL : zs = xs.drop skip := by rw [HZ.out, List.take_of_length_le (by rw [List.length_drop]; have := HL.out; omega)]
        have hdL : Dg W zs := by rw [hL]; exact (Dg_U h.us).drop skip
        have hvL : val zs / 2 ^ s = val xs / 2 ^ m := by rw [hL]; exact EP.out
        have HV := Lib.hid hvL
        have hkn : (n : Int) ≤ (skip : Int) + k := by omega
        have hdec : decide ((skip : Int) + (k : Int) < (n : Int)) = false := by simp; omega
        have hzl2 : zs.length ≤ n := by omega
        clear HZ hL hvL hk3
        obtain ⟨A2, c2, rfl⟩ := own_form hown
        by_cases hs0 : s = 0
        · subst hs0
          have R := ref_trim (hown.sl (U_Dg hdL)) (by omega)
          have hv9 := HV.out
          rw [Nat.pow_zero, Nat.div_one] at hv9
          rw [hv9] at R
          have HR := Lib.hid R
          clear R hown hv9
          go_wp2_with fail
          refine HR.out.mono ?_
          rintro e w' ⟨A3, n3, c3, rfl, s3, b3⟩
          go_wp2_with fail
          go_ret
          exact ⟨_, _, _, rfl, s3, hb.trans (b3.mono hb.size)⟩
        · have hs1 : ((s : Int) == 0) = false := by simp; omega
          obtain ⟨L, hL⟩ : ∃ L, zs = L := ⟨_, rfl⟩
          have hst := shrUp_0 s hdL
          rw [hL] at hown hdL hst HV hzl hzl2 ⊢
          obtain ⟨N, hN⟩ : ∃ N, L.length = N := ⟨_, rfl⟩
          rw [hN] at hown hzl hzl2 ⊢
          have HN := Lib.hid hN
          clear hL hN
          go_wp2_with fail
          go_loopw [36] (fun i wr3 => ∃ (p : Nat) (ys : List Int), p ≤ N ∧ i = .int .i64 p ∧ Own 34 w.heap.size wr3 (.slice A2 N c2) ys ∧ Below w.heap.size w wr3 ∧ ShrUp L s p ys) (fun i _ => N - mes i)
          case atStart => exact ⟨0, L, by omega, rfl, hown, hb, hst⟩
          case round =>
            clear hown hb hst
            obtain ⟨p, ys, hp, rfl, hown, hb, hz⟩ := hrel
            have hyl : ys.length = N := by rw [hz.1, HN.out]
            by_cases hp2 : p < N
            · obtain ⟨g, rfl, hg⟩ := hown.addr (by omega)
              have hc0 := hown.cell (i := p) (by omega)
              rw [hz.2.2.1 p (by omega)] at hc0
              have hf0 := hown.free p
              have hux : U (L.getD p 0) := by have := hdL.at_ W_pos p; unfold U; unfold W at this; omega
              have huy : U (L.getD (p + 1) 0) := by have := hdL.at_ W_pos (p + 1); unfold U; unfold W at this; omega
              obtain ⟨v, ev, v1, v2⟩ := shr_digit hs64 hux huy
              have hst := shrUp_step hs64 hdL hz (by rw [HN.out]; omega) v1 v2
              have ho2 := hown.set p (v : Int)
              have hst0 : p + 1 < N → wr.cell? ⟨g, p + 1, none⟩ = some (.int .u64 (L.getD (p + 1) 0)) := fun h9 => by
                have := hown.cell (i := p + 1) (by omega)
                rw [hz.2.2.1 (p + 1) (by omega)] at this
                exact this
              have hnone : N ≤ p + 1 → L.getD (p + 1) 0 = 0 := fun h9 => by rw [List.getD_eq_getElem?_getD, List.getElem?_eq_none (by rw [HN.out]; omega)]; rfl
              generalize L.getD p 0 = x at *
              generalize L.getD (p + 1) 0 = y at *
              have HS := Lib.hid hst
              have HO := Lib.hid ho2
              have wr1 : IntKind.u64.wrap (64 - (s : Int)) = 64 - (s : Int) := by rw [wrapU_lo, lo_U]; unfold U; omega
              have wr2 : (64 - (s : Int)).toNat = 64 - s := by omega
              by_cases hp3 : p + 1 < N
              · have hc1 := hst0 hp3
                have hp4 : (p : Int) + 1 < N := by omega
                have ho3 := (hown.set p (x / 2 ^ s)).set p (v : Int)
                rw [List.set_set] at ho3
                have HO3 := Lib.hid ho3
                clear hst ho2 hz hown v1 v2 hyl hux huy hst0 hnone ho3 HO
                go_wp2_with fail
                go_region
                go_wp2
                go_roundw
                case rel => exact ⟨p + 1, _, by omega, by go_num, HO3.out, (((hb.setCell hg _).setCell hg _).drew), HS.out⟩
                case measure => simp [mes, intOf]; omega
              · have hy := hnone (by omega)
                subst hy
                have hp4 : (N : Int) ≤ (p : Int) + 1 := by omega
                have evx : x / 2 ^ s = (v : Int) := by
                  rw [v2, show (0 : Int).toNat % 2 ^ s = 0 by simp, Nat.mul_zero, Nat.add_zero, ← cast_shr, Int.toNat_of_nonneg hux.1]
                clear hst ho2 hz hown v1 v2 hyl hux huy hst0 hnone ev wr1 wr2
                go_wp2_with fail
                go_roundw
                case rel => exact ⟨p + 1, _, by omega, by go_num, HO.out, hb.setCell hg _, HS.out⟩
                case measure => simp [mes, intOf]; omega
            · obtain rfl : p = N := by omega
              have f1 : val ys = val L / 2 ^ s := shrUp_end (by rw [HN.out]; exact hz)
              have f2 : Dg W ys := hz.2.1
              have R := ref_trim (hown.sl (U_Dg f2)) (by omega)
              rw [f1, HV.out] at R
              have HR := Lib.hid R
              clear R f1 f2 hz hown hyl
              go_wp2_with fail
              refine HR.out.mono ?_
              rintro e w' ⟨A3, n3, c3, rfl, s3, b3⟩
              go_wp2_with fail
              go_ret
              exact ⟨_, _, _, rfl, s3, hb.trans (b3.mono hb.size)⟩

end Go.Proofs.YthpbaaanbimapaaGreatDoor

namespace Go.Proofs.YthpbaaanbimapaaGreatDoor
set_option maxRecDepth 100000
open Go.RowKit
set_option linter.unusedVariables false
set_option linter.unusedSimpArgs false

/-! ### a bit more: plain -/
/-- word k of a list that is continued by zeros, with bit s set if k is p -/
def setWord (xs : List Int) (p s k : Nat) : Int := if k = p then xs.getD k 0 + ((2 ^ s : Nat) : Int) else xs.getD k 0
/-- where a list with a bit more stands -/
def SetInv (xs : List Int) (p s k : Nat) (zs : List Int) : Prop :=
  zs.length = k ∧ Dg W zs ∧ valB W zs = valB W (xs.take k) + (if p < k then W ^ p * 2 ^ s else 0)
theorem setInv_0 (xs : List Int) (p s : Nat) : SetInv xs p s 0 [] := ⟨rfl, Dg.nil _, by simp [valB]⟩
theorem setInv_step {xs zs : List Int} {p s k : Nat} (h : SetInv xs p s k zs) (hu : 0 ≤ setWord xs p s k ∧ setWord xs p s k < (W : Int)) (h0 : 0 ≤ xs.getD k 0) : SetInv xs p s (k + 1) (zs ++ [setWord xs p s k]) := by
  obtain ⟨h1, h2, h3⟩ := h
  refine ⟨by simp [h1], h2.snoc hu.1 hu.2, ?_⟩
  rw [valB_snoc, h1, h3, valB_take_succ]
  unfold setWord
  by_cases e : k = p
  · subst e
    rw [if_pos rfl, if_neg (Nat.lt_irrefl k), if_pos (Nat.lt_succ_self k)]
    have : (xs.getD k 0 + ((2 ^ s : Nat) : Int)).toNat = (xs.getD k 0).toNat + 2 ^ s := by
      generalize 2 ^ s = X
      omega
    rw [this, Nat.mul_add]
    omega
  · rw [if_neg e]
    by_cases e2 : p < k
    · rw [if_pos e2, if_pos (show p < k + 1 by omega)]; omega
    · rw [if_neg e2, if_neg (show ¬ p < k + 1 by omega)]; omega
theorem setInv_end {xs zs : List Int} {p s N : Nat} (h : SetInv xs p s N zs) (hp : p < N) (hN : xs.length ≤ N) : val zs = val xs + W ^ p * 2 ^ s := by
  obtain ⟨h1, h2, h3⟩ := h
  rw [if_pos hp, List.take_of_length_le hN] at h3
  exact h3
theorem or_bit_nat {n s : Nat} (h0 : n / 2 ^ s % 2 = 0) : n ||| 2 ^ s = n + 2 ^ s := by
  have hp : 0 < 2 ^ s := Nat.two_pow_pos s
  have hl : n % 2 ^ s < 2 ^ s := Nat.mod_lt _ hp
  have hn : n = 2 ^ (s + 1) * (n / 2 ^ s / 2) + n % 2 ^ s := by
    have h1 := Nat.div_add_mod n (2 ^ s)
    have h2 : n / 2 ^ s = 2 * (n / 2 ^ s / 2) := by omega
    rw [h2] at h1
    rw [Nat.pow_succ, Nat.mul_assoc]
    exact h1.symm
  generalize n / 2 ^ s / 2 = q at hn
  generalize n % 2 ^ s = lo at hn hl
  have hz : 2 ^ (s + 1) * q % 2 ^ (s + 1) = 0 := Nat.mul_mod_right _ _
  have e1 : 2 ^ (s + 1) * q ||| lo = 2 ^ (s + 1) * q + lo := nat_join (s + 1) _ _ hz (by rw [Nat.pow_succ]; omega)
  have e2 : 2 ^ s ||| lo = 2 ^ s + lo := nat_join s _ _ (Nat.mod_self _) hl
  have e3 : 2 ^ (s + 1) * q ||| (2 ^ s + lo) = 2 ^ (s + 1) * q + (2 ^ s + lo) := nat_join (s + 1) _ _ hz (by rw [Nat.pow_succ]; omega)
  rw [hn, ← e1, Nat.or_assoc, Nat.or_comm lo, e2, e3]
  rw [e1]
  omega
/-- a bit that is not set can be set by a sum -/
theorem or_bit {x : Int} {s : Nat} (hx : U x) (hs : s < 64) (h0 : x.toNat / 2 ^ s % 2 = 0) : bits BinOp.or IntKind.u64 x ((2 ^ s : Nat) : Int) = x + ((2 ^ s : Nat) : Int) ∧ U (x + ((2 ^ s : Nat) : Int)) := by
  obtain ⟨n, rfl⟩ := Int.eq_ofNat_of_zero_le hx.1
  have hn : n < 18446744073709551616 := by have := hx.2; omega
  have hp : 2 ^ s < 18446744073709551616 := by
    have := Nat.pow_lt_pow_right (show 1 < 2 by omega) hs; simpa using this
  rw [Int.toNat_natCast] at h0
  have ho := or_bit_nat h0
  have hlt : n ||| 2 ^ s < 2 ^ 64 := Nat.or_lt_two_pow (by omega) (by omega)
  rw [u64_or_nat n _ hn hp, ho]
  rw [ho] at hlt
  refine ⟨by simp, ?_⟩
  generalize 2 ^ s = X at *
  unfold U
  omega

/-- a call that returns a slice of at most K words that say v -/
def RetLe (K v : Nat) (w : World) (e : Ending) (w' : World) : Prop := ∃ A n c zs, e = .returned (.slice A n c) ∧ n ≤ K ∧ Sl w' A n c zs ∧ val zs = v ∧ Below w.heap.size w w'

set_option maxHeartbeats 2000000 in
theorem ref_set {w : World} {A : Option Addr} {n c : Nat} {xs : List Int} (h : Sl w A n c xs) (hn : n ≤ 100000) (i : Nat) (hi : i ≤ 6400000) (hbit : val xs / 2 ^ i % 2 = 0) (K : Nat) (hK1 : n ≤ K) (hK2 : i / 64 + 1 ≤ K) :
    Calls Tryz.prog 187 #[.slice A n c, .int .i64 i] w (RetLe K (val xs + 2 ^ i) w) := by
  have hlen := h.len
  have hbw := bit_word (Dg_U h.us) i
  rw [hbit] at hbw
  have epow := pow_shift i
  obtain ⟨p, hp⟩ : ∃ p, i / 64 = p := ⟨_, rfl⟩
  obtain ⟨s, hs⟩ : ∃ s, i % 64 = s := ⟨_, rfl⟩
  rw [hp, hs] at hbw epow
  rw [hp] at hK2
  have e1 : (i : Int) / 64 = (p : Int) := by omega
  have e2 : (i : Int) % 64 = (s : Int) := by omega
  have hs64 : s < 64 := by omega
  have hpb : p ≤ 100000 := by omega
  have hub : ∀ k, k = p → bits BinOp.or IntKind.u64 (xs.getD k 0) ((2 ^ s : Nat) : Int) = setWord xs p s k := fun k e => by
    subst e
    unfold setWord
    rw [if_pos rfl]
    exact (or_bit (h.u k) hs64 hbw.symm).1
  have huU : ∀ k, 0 ≤ setWord xs p s k ∧ setWord xs p s k < (W : Int) := fun k => by
    unfold setWord
    by_cases e : k = p
    · subst e
      rw [if_pos rfl]
      have := (or_bit (h.u k) hs64 hbw.symm).2
      unfold U at this
      unfold W
      exact this
    · rw [if_neg e]
      have := h.u k
      unfold U at this
      unfold W
      exact this
  have hne : ∀ k, k ≠ p → setWord xs p s k = xs.getD k 0 := fun k e => by unfold setWord; rw [if_neg e]
  have hpw : 2 ^ s < 18446744073709551616 := by
    have := Nat.pow_lt_pow_right (show 1 < 2 by omega) hs64; simpa using this
  have hwr : IntKind.u64.wrap ((2 : Int) ^ s) = ((2 ^ s : Nat) : Int) := by
    rw [show ((2 : Int) ^ s) = ((2 ^ s : Nat) : Int) by push_cast; rfl, wrapU_lo, lo_U]; exact U_nat hpw
  have hwr1 : IntKind.u64.wrap (1 * (2 : Int) ^ s) = ((2 ^ s : Nat) : Int) := by rw [Int.one_mul, hwr]
  obtain ⟨N, hN⟩ : ∃ N, max n (p + 1) = N := ⟨_, rfl⟩
  have hN1 : n ≤ N := by omega
  have hN2 : p + 1 ≤ N := by omega
  have hN3 : N ≤ K := by omega
  have hN4 : N ≤ 200000 := by omega
  have HN := Lib.hid hN
  have HUB := Lib.hid hub
  have HUU := Lib.hid huU
  have HNE := Lib.hid hne
  have HL := Lib.hid hlen
  have HEP := Lib.hid epow
  have HU := Lib.hid h.u
  generalize hX : 2 ^ s = X at hwr hwr1 hub hpw
  rw [hX] at HUB
  clear hN hub huU hne hlen epow hbw hp hs hbit hX hpw
  obtain ⟨i0, hi0, hz0, hz1, hz2⟩ := info_parts infoW
  go_enter Tryz.func187, Tryz.ntmps187
  go_upto_region 2 with (fail)
  go_cut [13, 14] (fun s13 s14 wx => s13 = .int .i64 N ∧ s14 = .int .i64 0 ∧ w = wx)
  case first =>
    by_cases hlt : n < p + 1
    · have hlt' : (n : Int) < (p : Int) + 1 := by omega
      go_wp2_with fail
      go_meet
      exact ⟨vint (by have := HN.out; omega), rfl, rfl⟩
    · have hlt' : ¬ ((n : Int) < (p : Int) + 1) := by omega
      go_wp2_with fail
      go_meet
      exact ⟨vint (by have := HN.out; omega), rfl, rfl⟩
  case rest =>
    obtain ⟨rfl, rfl, rfl⟩ := hcut
    go_wp2_with fail
    go_loopw [5, 14] (fun v iv wr => ∃ (k : Nat) (zs : List Int), k ≤ N ∧ iv = .int .i64 k ∧ Own 34 w.heap.size wr v zs ∧ Below w.heap.size w wr ∧ Hid (SetInv xs p s k zs)) (fun _ iv _ => N - mes iv)
    case atStart => exact ⟨0, [], by omega, rfl, Own.nil _ _ _, Below.refl _ _, Lib.hid (setInv_0 xs p s)⟩
    case round =>
      obtain ⟨k, zs, hk, rfl, hown, hb, HZ⟩ := hrel
      have hzl : zs.length ≤ k := Nat.le_of_eq HZ.out.1
      by_cases hk2 : k < N
      · have hst := setInv_step HZ.out (HUU.out k) (HU.out k).1
        have HST := Lib.hid hst
        clear hst
        by_cases hkn : k < n
        · obtain ⟨ba, off, rfl, hba, hca⟩ := h.at_ (k := k) (by omega)
          have hac := (hb.cell (p := ⟨ba, off + k, none⟩) hba).trans (hca k (by omega))
          clear hca
          by_cases hkp : k = p
          · subst hkp
            have hor := HUB.out k rfl
            generalize setWord xs k s k = v at *
            generalize xs.getD k 0 = y at *
            go_wp2_with (at_builtin; refine wpList_append_own _ rfl (.tmp 35) (.tmp 37) 49 rfl w.heap.size 34 i0 (.int .u64 0) 1 8 Tryz.underlying49 hi0 hz0 hz1 hz2 rfl (by decide) _ _ _ rfl (hown.out.alloc _) ⟨wr.heap.size, 0, none⟩ 1 1 [.int .u64 v] rfl rfl ?c1 ?c2 ?c3 ?c4 ?c5 ?_)
            case c1 => exact cell_one_new _ _ _
            case c2 => intro u hu; simp at hu; subst hu; rfl
            case c3 => unfold maxLen; omega
            case c4 => omega
            case c5 => have := hb.size; simp; omega
            intro v' w1 hown' hgrow _
            have hb1 := own_below hb hown hgrow
            have HO := Lib.hid (Own.snoc hown')
            clear hown hown' hgrow hac
            go_wp2
            go_roundw
            case rel => exact ⟨k + 1, _, by omega, by go_num, HO.out, hb1, HST⟩
            case measure => simp [mes, intOf]; omega
          · have hor := HNE.out k hkp
            rw [← hor] at hac
            have hkp1 : ((k : Int) == (p : Int)) = false := by simp; omega
            have hkp2 : (k == p) = false := by simpa using hkp
            generalize setWord xs p s k = v at *
            clear hor
            go_wp2_with (at_builtin; refine wpList_append_own _ rfl (.tmp 35) (.tmp 37) 49 rfl w.heap.size 34 i0 (.int .u64 0) 1 8 Tryz.underlying49 hi0 hz0 hz1 hz2 rfl (by decide) _ _ _ rfl (hown.out.alloc _) ⟨wr.heap.size, 0, none⟩ 1 1 [.int .u64 v] rfl rfl ?d1 ?d2 ?d3 ?d4 ?d5 ?_)
            case d1 => exact cell_one_new _ _ _
            case d2 => intro u hu; simp at hu; subst hu; rfl
            case d3 => unfold maxLen; omega
            case d4 => omega
            case d5 => have := hb.size; simp; omega
            intro v' w1 hown' hgrow _
            have hb1 := own_below hb hown hgrow
            have HO := Lib.hid (Own.snoc hown')
            clear hown hown' hgrow hac
            go_wp2
            go_roundw
            case rel => exact ⟨k + 1, _, by omega, by go_num, HO.out, hb1, HST⟩
            case measure => simp [mes, intOf]; omega
        · have hy : xs.getD k 0 = 0 := by rw [List.getD_eq_getElem?_getD, List.getElem?_eq_none (by have := HL.out; omega)]; rfl
          by_cases hkp : k = p
          · subst hkp
            have hor := HUB.out k rfl
            rw [hy] at hor
            generalize setWord xs k s k = v at *
            clear hy
            go_wp2_with (at_builtin; refine wpList_append_own _ rfl (.tmp 35) (.tmp 37) 49 rfl w.heap.size 34 i0 (.int .u64 0) 1 8 Tryz.underlying49 hi0 hz0 hz1 hz2 rfl (by decide) _ _ _ rfl (hown.out.alloc _) ⟨wr.heap.size, 0, none⟩ 1 1 [.int .u64 v] rfl rfl ?e1 ?e2 ?e3 ?e4 ?e5 ?_)
            case e1 => exact cell_one_new _ _ _
            case e2 => intro u hu; simp at hu; subst hu; rfl
            case e3 => unfold maxLen; omega
            case e4 => omega
            case e5 => have := hb.size; simp; omega
            intro v' w1 hown' hgrow _
            have hb1 := own_below hb hown hgrow
            have HO := Lib.hid (Own.snoc hown')
            clear hown hown' hgrow
            go_wp2
            go_roundw
            case rel => exact ⟨k + 1, _, by omega, by go_num, HO.out, hb1, HST⟩
            case measure => simp [mes, intOf]; omega
          · have hor := HNE.out k hkp
            rw [hy] at hor
            rw [hor] at HST
            have hkp1 : ((k : Int) == (p : Int)) = false := by simp; omega
            have hkp2 : (k == p) = false := by simpa using hkp
            clear hor hy
            go_wp2_with (at_builtin; refine wpList_append_own _ rfl (.tmp 35) (.tmp 37) 49 rfl w.heap.size 34 i0 (.int .u64 0) 1 8 Tryz.underlying49 hi0 hz0 hz1 hz2 rfl (by decide) _ _ _ rfl (hown.out.alloc _) ⟨wr.heap.size, 0, none⟩ 1 1 [.int .u64 0] rfl rfl ?f1 ?f2 ?f3 ?f4 ?f5 ?_)
            case f1 => exact cell_one_new _ _ _
            case f2 => intro u hu; simp at hu; subst hu; rfl
            case f3 => unfold maxLen; omega
            case f4 => omega
            case f5 => have := hb.size; simp; omega
            intro v' w1 hown' hgrow _
            have hb1 := own_below hb hown hgrow
            have HO := Lib.hid (Own.snoc hown')
            clear hown hown' hgrow
            go_wp2
            go_roundw
            case rel => exact ⟨k + 1, _, by omega, by go_num, HO.out, hb1, HST⟩
            case measure => simp [mes, intOf]; omega
      · obtain rfl : k = N := by omega
        have hv := setInv_end HZ.out (by omega) (by rw [← HL.out]; omega)
        rw [HEP.out] at hv
        have HV := Lib.hid hv
        have HD := Lib.hid HZ.out.2.1
        clear hv
        go_wp2_with fail
        go_ret
        obtain ⟨A2, c2, rfl⟩ := own_form hown
        exact ⟨_, _, _, _, rfl, by omega, hown.sl (U_Dg HD.out), HV.out, hb⟩

end Go.Proofs.YthpbaaanbimapaaGreatDoor

namespace Go.Proofs.YthpbaaanbimapaaGreatDoor
set_option maxRecDepth 100000
open Go.RowKit
set_option linter.unusedVariables false
set_option linter.unusedSimpArgs false

/-! ### a quotient bit by bit: plain -/
theorem bit_step (a k : Nat) : a / 2 ^ k = 2 * (a / 2 ^ (k + 1)) + a / 2 ^ k % 2 := by
  rw [Nat.pow_succ, ← Nat.div_div_eq_div_mul]; omega
theorem rdiv_yes {a b k : Nat} (hb : 0 < b) (h : b ≤ 2 * (a / 2 ^ (k + 1) % b) + a / 2 ^ k % 2) :
    2 * (a / 2 ^ (k + 1) % b) + a / 2 ^ k % 2 - b = a / 2 ^ k % b ∧ a / 2 ^ (k + 1) / b * 2 ^ (k + 1) + 2 ^ k = a / 2 ^ k / b * 2 ^ k := by
  have hs := bit_step a k
  have h1 := Nat.div_add_mod (a / 2 ^ (k + 1)) b
  have h2 := Nat.mod_lt (a / 2 ^ (k + 1)) hb
  have h3 : a / 2 ^ k % 2 < 2 := Nat.mod_lt _ (by omega)
  generalize a / 2 ^ k % 2 = t at *
  generalize a / 2 ^ (k + 1) = A1 at *
  generalize A1 % b = r at *
  generalize A1 / b = q at *
  have e : a / 2 ^ k = b * (2 * q + 1) + (2 * r + t - b) := by
    have e1 : b * (2 * q + 1) = 2 * (b * q) + b := by grind
    rw [hs, ← h1, e1]
    omega
  have hlt : 2 * r + t - b < b := by omega
  rw [e, Nat.mul_add_mod, Nat.mod_eq_of_lt hlt, Nat.mul_add_div hb, Nat.div_eq_of_lt hlt]
  refine ⟨rfl, ?_⟩
  rw [Nat.pow_succ]
  grind
theorem rdiv_no {a b k : Nat} (hb : 0 < b) (h : 2 * (a / 2 ^ (k + 1) % b) + a / 2 ^ k % 2 < b) :
    2 * (a / 2 ^ (k + 1) % b) + a / 2 ^ k % 2 = a / 2 ^ k % b ∧ a / 2 ^ (k + 1) / b * 2 ^ (k + 1) = a / 2 ^ k / b * 2 ^ k := by
  have hs := bit_step a k
  have h1 := Nat.div_add_mod (a / 2 ^ (k + 1)) b
  generalize a / 2 ^ k % 2 = t at *
  generalize a / 2 ^ (k + 1) = A1 at *
  generalize A1 % b = r at *
  generalize A1 / b = q at *
  have e : a / 2 ^ k = b * (2 * q) + (2 * r + t) := by
    have e1 : b * (2 * q) = 2 * (b * q) := by grind
    rw [hs, ← h1, e1]
    omega
  rw [e, Nat.mul_add_mod, Nat.mod_eq_of_lt h, Nat.mul_add_div hb, Nat.div_eq_of_lt h]
  refine ⟨rfl, ?_⟩
  rw [Nat.pow_succ]
  grind
theorem qbit_free (Q k : Nat) : Q * 2 ^ (k + 1) / 2 ^ k % 2 = 0 := by
  rw [Nat.pow_succ, Nat.mul_comm (2 ^ k) 2, ← Nat.mul_assoc, Nat.mul_div_cancel _ (Nat.two_pow_pos k)]
  omega
theorem from_start {a b f : Nat} (hb : 0 < b) (h : blen a + 1 ≤ f + blen b) : a / 2 ^ f < b := by
  have h1 := blen_lt a
  have h2 := blen_self hb
  have h3 := blen_pos hb
  rw [Nat.div_lt_iff_lt_mul (Nat.two_pow_pos f)]
  refine Nat.lt_of_lt_of_le h1 ?_
  refine Nat.le_trans (Nat.pow_le_pow_right (by omega) (show blen a ≤ blen b - 1 + f by omega)) ?_
  rw [Nat.pow_add]
  exact Nat.mul_le_mul_right _ h2

set_option maxRecDepth 100000 in
set_option maxHeartbeats 4000000 in
theorem ref_div_long {w : World} {A A' : Option Addr} {n n' c c' : Nat} {xs ys : List Int} (h : Sl w A n c xs) (h' : Sl w A' n' c' ys) (hn : n ≤ 90000) (hn' : n' ≤ 90000) (h0 : 0 < val ys) (h1 : ¬ (sz xs = 1 ∧ sz ys = 1)) :
    Calls Tryz.prog 119 #[.slice A n c, .slice A' n' c'] w (RetQR (val xs / val ys) (val xs % val ys) w) := by
  have Z1 := ref_size h (by omega)
  have Z2 := ref_size h' (by omega)
  have B1 := ref_bits h (by omega)
  have B2 := ref_bits h' (by omega)
  have bl1 := blen_val_le h
  have bl2 := blen_val_le h'
  have vb : val ys < W ^ n' := val_lt_pow h'.us (by have := h'.len; omega)
  have hsz : sz xs ≤ n := by rw [h.len]; exact sz_le xs
  have hsz' : sz ys ≤ n' := by rw [h'.len]; exact sz_le ys
  have hfr := fun f => from_start (a := val xs) (f := f) h0
  obtain ⟨La, hLa⟩ : ∃ L, blen (val xs) = L := ⟨_, rfl⟩
  obtain ⟨Lb, hLb⟩ : ∃ L, blen (val ys) = L := ⟨_, rfl⟩
  rw [hLa] at B1 bl1 hfr
  rw [hLb] at B2 bl2 hfr
  obtain ⟨f, hf⟩ : ∃ f, La + 1 - Lb = f := ⟨_, rfl⟩
  have hff := hfr f (by omega)
  have hf64 : f ≤ 5760001 := by omega
  have SHR := ref_shr h (by omega) (f : Int) (by omega)
  rw [Int.toNat_natCast] at SHR
  have BIT := fun w1 (hb : Below w.heap.size w w1) (k : Nat) (hk : k ≤ 5760001) => ref_bit (h.below hb) (by omega) (k : Int) (by omega)
  have CMP := fun w1 (hb : Below w.heap.size w w1) (B : Option Addr) (nb cb : Nat) (zs : List Int) (s : Sl w1 B nb cb zs) (hnb : nb ≤ 90010) => ref_cmp s (h'.below hb) (by omega) (by omega)
  have SUB := fun w1 (hb : Below w.heap.size w w1) (B : Option Addr) (nb cb : Nat) (zs : List Int) (s : Sl w1 B nb cb zs) (hnb : nb ≤ 90010) (hle : val ys ≤ val zs) => ref_nsub s (h'.below hb) (by omega) (by omega) hle
  generalize val xs = a at *
  generalize val ys = b at *
  obtain ⟨p, hp⟩ : ∃ p, sz xs = p := ⟨_, rfl⟩
  obtain ⟨q, hq⟩ : ∃ q, sz ys = q := ⟨_, rfl⟩
  rw [hp] at Z1 h1 hsz
  rw [hq] at Z2 h1 hsz'
  have HZ1 := Lib.hid Z1
  have HZ2 := Lib.hid Z2
  have HB1 := Lib.hid B1
  have HB2 := Lib.hid B2
  have HFF := Lib.hid hff
  have HF := Lib.hid hf
  have HSHR := Lib.hid SHR
  have HBIT := Lib.hid BIT
  have HCMP := Lib.hid CMP
  have HSUB := Lib.hid SUB
  have HVB := Lib.hid vb
  have HB0 := Lib.hid h0
  clear Z1 Z2 B1 B2 hff hf SHR BIT CMP SUB vb hfr hLa hLb hp hq h0
  go_enter Tryz.func119, Tryz.ntmps119
  go_upto_region 2 with (fail)
  go_cut [18] (fun s18 wx => s18 = .bool false ∧ w = wx)
  case first =>
    by_cases hp1 : p = 1
    · subst hp1
      have hq1 : ((q : Int) == 1) = false := by simp; omega
      go_wp2_with fail
      refine HZ1.out.mono ?_
      rintro e w' ⟨rfl, rfl⟩
      go_wp2_with fail
      refine HZ2.out.mono ?_
      rintro e w' ⟨rfl, rfl⟩
      go_wp2_with fail
      go_meet
      exact ⟨rfl, rfl⟩
    · have hp2 : ((p : Int) == 1) = false := by simp; omega
      go_wp2_with fail
      refine HZ1.out.mono ?_
      rintro e w' ⟨rfl, rfl⟩
      go_wp2_with fail
      go_meet
      exact ⟨rfl, rfl⟩
  case rest =>
    obtain ⟨rfl, rfl⟩ := hcut
    clear HZ1 HZ2 h1 hsz hsz'
    go_upto_region 4 with (fail)
    go_wp2_with fail
    refine HB1.out.mono ?_
    rintro e w' ⟨rfl, rfl⟩
    go_upto_region 5 with (fail)
    go_cut [9] (fun s9 wx => s9 = .int .i64 f ∧ w = wx)
    case first =>
      by_cases hlt : Lb ≤ La + 1
      · have hlt' : ¬ ((La : Int) - (Lb : Int) + 1 < 0) := by omega
        go_wp2_with fail
        refine HB2.out.mono ?_
        rintro e w' ⟨rfl, rfl⟩
        go_wp2_with fail
        all_goals
          go_meet
          exact ⟨vint (by have := HF.out; omega), rfl⟩
      · have hlt' : (La : Int) - (Lb : Int) + 1 < 0 := by omega
        go_wp2_with fail
        refine HB2.out.mono ?_
        rintro e w' ⟨rfl, rfl⟩
        go_wp2_with fail
        all_goals
          go_meet
          exact ⟨vint (by have := HF.out; omega), rfl⟩
    case rest =>
      obtain ⟨rfl, rfl⟩ := hcut
      clear HB1 HB2
      go_wp2_with fail
      refine HSHR.out.mono ?_
      rintro e w1 ⟨A1, n1, c1, rfl, s1, b1⟩
      go_wp2_with fail
      go_loopw [6, 7, 10] (fun qv rv iv wr => ∃ (k : Nat) (j : Int) (Bq : Option Addr) (nq cq : Nat) (qs : List Int) (Br : Option Addr) (nr cr : Nat) (rs : List Int), k ≤ f ∧ j + 1 ≤ k ∧ (k : Int) ≤ j + 1 ∧ iv = .int .i64 j ∧ qv = .slice Bq nq cq ∧ rv = .slice Br nr cr ∧ nq ≤ f / 64 + 1 ∧ nr ≤ n' + 2 ∧ Sl wr Bq nq cq qs ∧ Sl wr Br nr cr rs ∧ Hid (val qs = a / 2 ^ k / b * 2 ^ k) ∧ Hid (val rs = a / 2 ^ k % b) ∧ Below w.heap.size w wr) (fun _ _ iv _ => (intOf iv + 1).toNat)
      case atStart =>
        refine ⟨f, _, none, 0, 0, [], A1, n1, c1, _, by omega, by omega, by omega, rfl, rfl, rfl, by omega, ?_, Sl.nil _ _ _, s1, Lib.hid ?_, Lib.hid ?_, b1⟩
        · have := s1.small (k := n') (Nat.lt_trans HFF.out HVB.out); omega
        · rw [Nat.div_eq_of_lt HFF.out]; simp [val, valB]
        · rw [val_words, Nat.mod_eq_of_lt HFF.out]
      case round =>
        clear s1 b1 HFF HSHR
        obtain ⟨k, j, Bq, nq, cq, qs, Br, nr, cr, rs, hk, hj1, hj2, rfl, rfl, rfl, hnq, hnr, sq, sr, HQ, HR, hb⟩ := hrel
        by_cases hk0 : k = 0
        · subst hk0
          obtain rfl : j = -1 := by omega
          have hq9 : val qs = a / b := by rw [HQ.out]; simp
          have hr9 : val rs = a % b := by rw [HR.out]; simp
          have T1 := ref_trim sq (by omega)
          rw [hq9] at T1
          have HT1 := Lib.hid T1
          have HR9 := Lib.hid hr9
          clear T1 hq9 hr9
          go_wp2_with fail
          refine HT1.out.mono ?_
          rintro e w7 ⟨A7, n7, c7, rfl, s7, b7⟩
          have T2 := ref_trim (sr.below b7) (by omega)
          rw [HR9.out] at T2
          have HT2 := Lib.hid T2
          clear T2 HT1
          go_wp2_with fail
          refine HT2.out.mono ?_
          rintro e w8 ⟨A8, n8, c8, rfl, s8, b8⟩
          have hb7 := hb.trans (b7.mono hb.size)
          go_wp2_with fail
          go_ret2
          exact ⟨_, _, _, _, _, _, rfl, s7.below b8, s8, hb7.trans (b8.mono hb7.size)⟩
        · obtain ⟨i, rfl⟩ : ∃ i, k = i + 1 := ⟨k - 1, by omega⟩
          obtain rfl : j = (i : Int) := by omega
          have hrb := Nat.mod_lt (a / 2 ^ (i + 1)) HB0.out
          have hyes := rdiv_yes (a := a) (k := i) HB0.out
          have hno := rdiv_no (a := a) (k := i) HB0.out
          have hqf := qbit_free (a / 2 ^ (i + 1) / b) i
          have SL := ref_shl sr (by omega) 1
          rw [clampS_mid (by omega) (by omega), show (1 : Int).toNat = 1 from rfl, Nat.pow_one, HR.out] at SL
          rw [← HQ.out] at hyes hno hqf
          have hif : i / 64 + 1 ≤ f / 64 + 1 := by omega
          obtain ⟨t, ht⟩ : ∃ t, a / 2 ^ i % 2 = t := ⟨_, rfl⟩
          have ht2 : t < 2 := by rw [← ht]; exact Nat.mod_lt _ (by omega)
          have htb := fun w1 hb => HBIT.out w1 hb i (by omega)
          rw [bitN_nat, ht] at htb
          rw [ht] at hyes hno
          generalize a / 2 ^ (i + 1) % b = r1 at *
          have HSL := Lib.hid SL
          have HYES := Lib.hid hyes
          have HNO := Lib.hid hno
          have HQF := Lib.hid hqf
          have HTB := Lib.hid htb
          have HRB := Lib.hid hrb
          clear SL hyes hno hqf htb hrb ht sr
          go_wp2_with fail
          refine HSL.out.mono ?_
          rintro e w2 ⟨A2, n2, c2, rfl, s2, b2⟩
          have hb2 := hb.trans (b2.mono hb.size)
          have sq2 := sq.below b2
          have hr2W : r1 * 2 + 1 < W ^ (n' + 1) := by
            have hv := HVB.out
            have hr := HRB.out
            have : W ^ n' * 2 ≤ W ^ n' * W := Nat.mul_le_mul_left _ two_le_W
            rw [Nat.pow_succ]
            omega
          have hn2 : n2 ≤ n' + 1 := s2.small (Nat.lt_of_le_of_lt (by omega) hr2W)
          clear sq b2 HSL hb hr2W
          have TB := HTB.out _ hb2
          rcases (show t = 0 ∨ t = 1 by omega) with rfl | rfl
          · rw [decide_eq_false (by omega)] at TB
            have HT := Lib.hid TB
            clear TB HTB
            go_wp2_with fail
            refine HT.out.mono ?_
            rintro e w' ⟨rfl, rfl⟩
            obtain ⟨zs, ez⟩ : ∃ zs, words (r1 * 2) = zs := ⟨_, rfl⟩
            have hvz : val zs = 2 * r1 + 0 := by rw [← ez, val_words]; omega
            rw [ez] at s2
            have HVZ := Lib.hid hvz
            clear ez hvz HT
            have CC := HCMP.out _ hb2 _ _ _ _ s2 (by omega)
            rw [HVZ.out] at CC
            by_cases hle : b ≤ 2 * r1 + 0
            · have hcm : 0 ≤ cmpN (2 * r1 + 0) b := by have := cmpN_neg (2 * r1 + 0) b; omega
              obtain ⟨y1, y2⟩ := HYES.out hle
              have SB := HSUB.out _ hb2 _ _ _ _ s2 (by omega) (by rw [HVZ.out]; exact hle)
              rw [HVZ.out, y1] at SB
              generalize cmpN (2 * r1 + 0) b = cm at CC hcm
              have HC := Lib.hid CC
              have HSB := Lib.hid SB
              have Y1 := Lib.hid y1
              have Y2 := Lib.hid y2
              clear CC SB y1 y2 hle HYES HNO
              go_wp2_with fail
              refine HC.out.mono ?_
              rintro e w' ⟨rfl, rfl⟩
              go_wp2_with fail
              refine HSB.out.mono ?_
              rintro e w4 ⟨A4, n4, c4, rfl, s4, b4⟩
              have hb4 := (hb2).trans (b4.mono (hb2).size)
              have hn4 : n4 ≤ n' + 2 := Nat.le_trans (s4.small (k := n') (Nat.lt_trans (Nat.mod_lt _ HB0.out) HVB.out)) (by omega)
              have SQ := ref_set ((sq2).below b4) (by omega) i (by omega) HQF.out (f / 64 + 1) hnq hif
              have HSQ := Lib.hid SQ
              clear SQ HSB HC
              go_wp2_with fail
              refine HSQ.out.mono ?_
              rintro e w5 ⟨A5, n5, c5, qs5, rfl, hn5, s5, v5, b5⟩
              have HV5 := Lib.hid (v5.trans Y2.out)
              have s45 := s4.below b5
              have hb5 := hb4.trans (b5.mono hb4.size)
              clear v5 HSQ s4 b5
              go_wp2_with fail
              go_roundw
              case rel => exact ⟨i, _, A5, n5, c5, qs5, A4, n4, c4, _, by omega, by omega, by omega, rfl, rfl, rfl, hn5, hn4, s5, s45, HV5, Lib.hid (by rw [val_words]), hb5⟩
              case measure => simp [intOf]
            · rw [cmpN_lt (by omega)] at CC
              obtain ⟨y1, y2⟩ := HNO.out (by omega)
              have HC := Lib.hid CC
              have Y1 := Lib.hid (HVZ.out.trans y1)
              have Y2 := Lib.hid y2
              clear CC y1 y2 hle HYES HNO
              go_wp2_with fail
              refine HC.out.mono ?_
              rintro e w' ⟨rfl, rfl⟩
              go_wp2_with fail
              go_roundw
              case rel => exact ⟨i, _, Bq, nq, cq, qs, A2, n2, c2, zs, by omega, by omega, by omega, rfl, rfl, rfl, hnq, by omega, sq2, s2, Y2, Y1, hb2⟩
              case measure => simp [intOf]
          · rw [decide_eq_true rfl] at TB
            have HT := Lib.hid TB
            have ST := ref_set s2 (by omega) 0 (by omega) (by rw [val_words]; simp) (n' + 2) (by omega) (by omega)
            have HSE := Lib.hid ST
            clear TB HTB ST
            go_wp2_with fail
            refine HT.out.mono ?_
            rintro e w' ⟨rfl, rfl⟩
            go_wp2_with fail
            refine HSE.out.mono ?_
            rintro e w3 ⟨A3, n3, c3, zs, rfl, hn3, s3, hv3, b3⟩
            have hvz : val zs = 2 * r1 + 1 := by rw [hv3, val_words]; simp; omega
            have HVZ := Lib.hid hvz
            have hb3 := hb2.trans (b3.mono hb2.size)
            have sq3 := sq2.below b3
            clear hv3 hvz HSE HT b3 s2 sq2
            have CC := HCMP.out _ hb3 _ _ _ _ s3 (by omega)
            rw [HVZ.out] at CC
            by_cases hle : b ≤ 2 * r1 + 1
            · have hcm : 0 ≤ cmpN (2 * r1 + 1) b := by have := cmpN_neg (2 * r1 + 1) b; omega
              obtain ⟨y1, y2⟩ := HYES.out hle
              have SB := HSUB.out _ hb3 _ _ _ _ s3 (by omega) (by rw [HVZ.out]; exact hle)
              rw [HVZ.out, y1] at SB
              generalize cmpN (2 * r1 + 1) b = cm at CC hcm
              have HC := Lib.hid CC
              have HSB := Lib.hid SB
              have Y1 := Lib.hid y1
              have Y2 := Lib.hid y2
              clear CC SB y1 y2 hle HYES HNO
              go_wp2_with fail
              refine HC.out.mono ?_
              rintro e w' ⟨rfl, rfl⟩
              go_wp2_with fail
              refine HSB.out.mono ?_
              rintro e w4 ⟨A4, n4, c4, rfl, s4, b4⟩
              have hb4 := (hb3).trans (b4.mono (hb3).size)
              have hn4 : n4 ≤ n' + 2 := Nat.le_trans (s4.small (k := n') (Nat.lt_trans (Nat.mod_lt _ HB0.out) HVB.out)) (by omega)
              have SQ := ref_set ((sq3).below b4) (by omega) i (by omega) HQF.out (f / 64 + 1) hnq hif
              have HSQ := Lib.hid SQ
              clear SQ HSB HC
              go_wp2_with fail
              refine HSQ.out.mono ?_
              rintro e w5 ⟨A5, n5, c5, qs5, rfl, hn5, s5, v5, b5⟩
              have HV5 := Lib.hid (v5.trans Y2.out)
              have s45 := s4.below b5
              have hb5 := hb4.trans (b5.mono hb4.size)
              clear v5 HSQ s4 b5
              go_wp2_with fail
              go_roundw
              case rel => exact ⟨i, _, A5, n5, c5, qs5, A4, n4, c4, _, by omega, by omega, by omega, rfl, rfl, rfl, hn5, hn4, s5, s45, HV5, Lib.hid (by rw [val_words]), hb5⟩
              case measure => simp [intOf]
            · rw [cmpN_lt (by omega)] at CC
              obtain ⟨y1, y2⟩ := HNO.out (by omega)
              have HC := Lib.hid CC
              have Y1 := Lib.hid (HVZ.out.trans y1)
              have Y2 := Lib.hid y2
              clear CC y1 y2 hle HYES HNO
              go_wp2_with fail
              refine HC.out.mono ?_
              rintro e w' ⟨rfl, rfl⟩
              go_wp2_with fail
              go_roundw
              case rel => exact ⟨i, _, Bq, nq, cq, qs, A3, n3, c3, zs, by omega, by omega, by omega, rfl, rfl, rfl, hnq, by omega, sq3, s3, Y2, Y1, hb3⟩
              case measure => simp [intOf]

end Go.Proofs.YthpbaaanbimapaaGreatDoor

namespace Go.Proofs.YthpbaaanbimapaaGreatDoor
set_option maxRecDepth 100000
open Go.RowKit
set_option linter.unusedVariables false
set_option linter.unusedSimpArgs false

set_option maxRecDepth 100000 in
set_option maxHeartbeats 4000000 in
theorem ref_div_short {w : World} {A A' : Option Addr} {n n' c c' : Nat} {xs ys : List Int} (h : Sl w A n c xs) (h' : Sl w A' n' c' ys) (hn : n ≤ 90000) (hn' : n' ≤ 90000) (h1 : sz xs = 1) (h2 : sz ys = 1) :
    Calls Tryz.prog 119 #[.slice A n c, .slice A' n' c'] w (RetQR (val xs / val ys) (val xs % val ys) w) := by
  have Z1 := ref_size h (by omega)
  have Z2 := ref_size h' (by omega)
  rw [h1] at Z1
  rw [h2] at Z2
  have hsz : sz xs ≤ n := by rw [h.len]; exact sz_le xs
  have hsz' : sz ys ≤ n' := by rw [h'.len]; exact sz_le ys
  have hv1 := val_short (Dg_U h.us) (by omega)
  have hv2 := val_short (Dg_U h'.us) (by omega)
  have ux := h.u 0
  have uy := h'.u 0
  have hy0 : ys.getD 0 0 ≠ 0 := by have := sz_last ys (by omega); rw [h2] at this; exact this
  obtain ⟨b, off, rfl, hlt, hc⟩ := h.at_ (k := 0) (by omega)
  obtain ⟨b', off', rfl, hlt', hc'⟩ := h'.at_ (k := 0) (by omega)
  have g1 : w.cell? ⟨b, off, none⟩ = some (.int .u64 (xs.getD 0 0)) := hc 0 (by omega)
  have g2 : w.cell? ⟨b', off', none⟩ = some (.int .u64 (ys.getD 0 0)) := hc' 0 (by omega)
  have hn1 : 0 < n := by omega
  have hn2 : 0 < n' := by omega
  rw [hv1, hv2]
  generalize xs.getD 0 0 = x at *
  generalize ys.getD 0 0 = y at *
  have hx0 : 0 ≤ x := ux.1
  have hyp : 0 < y := by have := uy.1; omega
  have hyf : (y == 0) = false := by simpa using hy0
  have uq : U (x / y) := by
    obtain ⟨X, rfl⟩ := Int.eq_ofNat_of_zero_le hx0
    obtain ⟨Y, rfl⟩ := Int.eq_ofNat_of_zero_le uy.1
    have := Nat.div_le_self X Y
    have hX : X < 18446744073709551616 := by have := ux.2; omega
    rw [← Int.natCast_ediv]
    generalize X / Y = Q at *
    exact U_nat (by omega)
  have ur : U (x % y) := by
    have h1 := Int.emod_nonneg x (show y ≠ 0 by omega)
    have h2 := Int.emod_lt_of_pos x hyp
    unfold U at *
    omega
  have eq : (x / y).toNat = x.toNat / y.toNat := by
    obtain ⟨X, rfl⟩ := Int.eq_ofNat_of_zero_le hx0
    obtain ⟨Y, rfl⟩ := Int.eq_ofNat_of_zero_le uy.1
    rw [← Int.natCast_ediv]; rfl
  have er : (x % y).toNat = x.toNat % y.toNat := by
    obtain ⟨X, rfl⟩ := Int.eq_ofNat_of_zero_le hx0
    obtain ⟨Y, rfl⟩ := Int.eq_ofNat_of_zero_le uy.1
    rw [← Int.natCast_emod]; rfl
  rw [← eq, ← er]
  have T : ∀ (z : Int) (_ : U z) (W1 : World) (A1 : Option Addr) (_ : Sl W1 A1 1 1 [z]), Calls Tryz.prog 164 #[.slice A1 1 1] W1 (RetSl (words z.toNat) W1) := fun z hz W1 A1 hs => by
    have := ref_trim hs (by omega)
    rw [val_one] at this
    exact this
  have HZ1 := Lib.hid Z1
  have HZ2 := Lib.hid Z2
  have HT := Lib.hid T
  have hwq : IntKind.u64.wrap (x / y) = x / y := by rw [wrapU_lo, lo_U uq]
  have hwm : IntKind.u64.wrap (x % y) = x % y := by rw [wrapU_lo, lo_U ur]
  have hdx : x.tdiv y = x / y := Int.tdiv_eq_ediv_of_nonneg hx0
  have hmx : x.tmod y = x % y := Int.tmod_eq_emod_of_nonneg hx0
  clear Z1 Z2 T hc hc' hv1 hv2 h1 h2 hsz hsz' h h' eq er
  go_enter Tryz.func119, Tryz.ntmps119
  go_wp2_with fail
  refine HZ1.out.mono ?_
  rintro e w' ⟨rfl, rfl⟩
  go_wp2_with fail
  refine HZ2.out.mono ?_
  rintro e w' ⟨rfl, rfl⟩
  go_wp2_with fail
  have HS : Hid (∀ w', Below w.heap.size w w' → w'.cell? ⟨b, off, none⟩ = some (.int .u64 x) ∧ w'.cell? ⟨b', off', none⟩ = some (.int .u64 y)) := fun w' hb => ⟨(hb.cell (p := ⟨b, off, none⟩) hlt).trans g1, (hb.cell (p := ⟨b', off', none⟩) hlt').trans g2⟩
  clear HZ1 HZ2 g1 g2
  have hq1 : (w.alloc (.cells #[.int .u64 (x / y)] 34)).heap.size = w.heap.size + 1 := by simp
  have hr1 : (w.alloc (.cells #[.int .u64 (x % y)] 34)).heap.size = w.heap.size + 1 := by simp
  have sB2 := sl_lit (w.alloc (.cells #[.int .u64 (x / y)] 34)) (x % y) ur
  rw [hq1] at sB2
  have sC1 := sl_lit (w.alloc (.cells #[.int .u64 (x % y)] 34)) (x / y) uq
  rw [hr1] at sC1
  have SA := Lib.hid (sl_lit w (x / y) uq)
  have SB1 := Lib.hid ((sl_lit w (x / y) uq).below (below_alloc (w.alloc (.cells #[.int .u64 (x / y)] 34)) (.cells #[.int .u64 (x % y)] 34)))
  have SB2 := Lib.hid sB2
  have SC1 := Lib.hid sC1
  have SC2 := Lib.hid ((sl_lit w (x % y) ur).below (below_alloc (w.alloc (.cells #[.int .u64 (x % y)] 34)) (.cells #[.int .u64 (x / y)] 34)))
  have YA := Lib.hid (below_alloc w (.cells #[.int .u64 (x / y)] 34))
  have YC := Lib.hid (below_alloc w (.cells #[.int .u64 (x % y)] 34))
  have YB := Lib.hid ((below_alloc w (.cells #[.int .u64 (x / y)] 34)).alloc (by simp) (.cells #[.int .u64 (x % y)] 34))
  have YD := Lib.hid ((below_alloc w (.cells #[.int .u64 (x % y)] 34)).alloc (by simp) (.cells #[.int .u64 (x / y)] 34))
  clear hq1 hr1 sB2 sC1
  go_region_held3 (fun w' => w'.cell? ⟨b, off, none⟩ = some (.int .u64 x) ∧ w'.cell? ⟨b', off', none⟩ = some (.int .u64 y)) (first | exact HS.out _ (Below.refl w.heap.size w).drew | exact HS.out _ YA.out.drew | exact HS.out _ YB.out.drew | exact HS.out _ YC.out.drew | exact HS.out _ YD.out.drew | exact HS.out _ x2 | exact HS.out _ x1 | exact HS.out _ (x1.alloc x1.size _) | fail)
    (first
      | (go_at_call 164; (with_reducible refine (HT.out (x / y) uq _ _ ?hs1).mono ?_); (case hs1 => first | exact SA.out | exact SB1.out | exact SC1.out); rintro e w1 ⟨A1, n1, c1, rfl, t1, b1⟩; have x1 : Below w.heap.size w w1 := (by first | exact YA.out.trans ((Below.undrew b1).mono YA.out.size) | exact YB.out.trans ((Below.undrew b1).mono YB.out.size) | exact YD.out.trans ((Below.undrew b1).mono YD.out.size)))
      | (go_at_call 164; (with_reducible refine (HT.out (x % y) ur _ _ ?hs2).mono ?_); (case hs2 => first | exact sl_lit w1 (x % y) ur | exact SB2.out.below (Below.undrew b1) | exact SC2.out.below (Below.undrew b1)); rintro e w2 ⟨A2, n2, c2, rfl, t2, b2⟩; have x12 : Below w1.heap.size w1 w2 := (by first | exact b2 | exact (below_alloc w1 _).trans (b2.mono (by simp))); have x2 : Below w.heap.size w w2 := x1.trans (x12.mono x1.size)))
  all_goals
    go_wp2_with fail
    go_ret2
    exact ⟨_, _, _, _, _, _, rfl, t1.below x12, t2, x2⟩

theorem ref_div {w : World} {A A' : Option Addr} {n n' c c' : Nat} {xs ys : List Int} (h : Sl w A n c xs) (h' : Sl w A' n' c' ys) (hn : n ≤ 90000) (hn' : n' ≤ 90000) (h0 : 0 < val ys) :
    Calls Tryz.prog 119 #[.slice A n c, .slice A' n' c'] w (RetQR (val xs / val ys) (val xs % val ys) w) := by
  by_cases h1 : sz xs = 1 ∧ sz ys = 1
  · exact ref_div_short h h' hn hn' h1.1 h1.2
  · exact ref_div_long h h' hn hn' h0 h1

end Go.Proofs.YthpbaaanbimapaaGreatDoor
