/-
  What gradineref05.Gcd, Part and Lcm do, told by Nat.gcd. Conditions: the slices read as lists of words, of at most 1000 words.
-/
import Derived.Test.YtibgpeaplmcogaaGreatDoorRefMakeAllS
import Derived.Test.YtibgpeaplmcogaaGreatDoorQuotMathAllS
import Derived.Deep.DeepCutAuto
import Derived.Deep.RegionHeld3
import Derived.Test.YtibgpeaplmcogaaGreatDoorNatMathOneS
namespace Go.Proofs.YtibgpeaplmcogaaGreatDoor
set_option maxRecDepth 100000
open Go.RowKit
set_option linter.unusedVariables false
set_option linter.unusedSimpArgs false

theorem Own.addr {t : TypeId} {B : Nat} {w : World} {A : Option Addr} {n c : Nat} {zs : List Int} (h : Own t B w (.slice A n c) zs) (h0 : 0 < zs.length) : ∃ g, A = some ⟨g, 0, none⟩ ∧ B ≤ g := by
  rcases h with ⟨hl, ⟨hv, hn⟩ | ⟨g, cap, cur, hv, hb, _⟩⟩
  · omega
  · injection hv with ha
    exact ⟨g, ha, hb⟩
theorem Own.cell {t : TypeId} {B : Nat} {w : World} {g n c : Nat} {zs : List Int} (h : Own t B w (.slice (some ⟨g, 0, none⟩) n c) zs) {i : Nat} (hi : i < zs.length) : w.cell? ⟨g, i, none⟩ = some (.int .u64 (zs.getD i 0)) := by
  obtain ⟨A', c', e⟩ := own_form h
  injection e with e1 e2 e3
  subst e2
  rw [h.out.cellAt i (by omega)]
  simp [vs, List.getD_eq_getElem?_getD, List.getElem?_eq_getElem hi]
theorem Own.free {t : TypeId} {B : Nat} {w : World} {g n c : Nat} {zs : List Int} (h : Own t B w (.slice (some ⟨g, 0, none⟩) n c) zs) (i : Nat) : w.frozen? ⟨g, i, none⟩ = false := by
  obtain ⟨A', c', e⟩ := own_form h
  injection e with e1 e2 e3
  subst e2
  exact h.out.frozenAt i
theorem Own.set {t : TypeId} {B : Nat} {w : World} {g n c : Nat} {zs : List Int} (h : Own t B w (.slice (some ⟨g, 0, none⟩) n c) zs) (i : Nat) (u : Int) : Own t B (w.setCell ⟨g, i, none⟩ (.int .u64 u)) (.slice (some ⟨g, 0, none⟩) n c) (zs.set i u) := by
  obtain ⟨A', c', e⟩ := own_form h
  injection e with e1 e2 e3
  subst e2
  have := (h.out.stored i (.int .u64 u)).1
  unfold Own
  have ev : vs (zs.set i u) = (vs zs).set i (.int .u64 u) := by unfold vs; rw [List.map_set]
  rw [ev, List.length_set]
  exact this
theorem Own.drew {t : TypeId} {B : Nat} {w : World} {v : Value} {zs : List Int} (h : Own t B w v zs) : Own t B w.drew v zs := h

set_option maxHeartbeats 2000000 in
theorem ref_shl {w : World} {A : Option Addr} {n c : Nat} {xs : List Int} (h : Sl w A n c xs) (hn : n ≤ 1000000) (i : Int) :
    Calls Tryz.prog 109 #[.slice A n c, .int .i64 i] w (RetSl (words (val xs * 2 ^ clampS i)) w) := by
  have hlen := h.len
  have HL := Lib.hid hlen
  clear hlen
  obtain ⟨i0, hi, hz0, hz1, hz2⟩ := info_parts infoW
  obtain ⟨m, hm⟩ : ∃ m, clampS i = m := ⟨_, rfl⟩
  have hm64 := clampS_le i
  rw [hm] at hm64
  rw [hm]
  have HM := Lib.hid hm
  clear hm
  obtain ⟨skip, hskip⟩ : ∃ k, m / 64 = k := ⟨_, rfl⟩
  obtain ⟨s, hs0⟩ : ∃ k, m % 64 = k := ⟨_, rfl⟩
  have hs64 : s < 64 := by omega
  have hsk : skip ≤ 1024 := by omega
  have e1 : (m : Int) / 64 = (skip : Int) := by omega
  have e2 : (m : Int) % 64 = (s : Int) := by omega
  have epow : W ^ skip * 2 ^ s = 2 ^ m := by rw [← hskip, ← hs0]; exact pow_shift m
  have EP := Lib.hid epow
  clear hskip hs0 epow
  go_enter Tryz.func109, Tryz.ntmps109
  go_upto_region 1 with (fail)
  go_cut [1] (fun s1 wx => s1 = .int .i64 m ∧ w = wx)
  case first =>
    by_cases h1 : i < 0
    · go_wp2_with fail
      go_meet
      exact ⟨vint (by have := HM.out; rw [clampS_neg (by omega)] at this; omega), rfl⟩
    · by_cases h2 : i > 65536
      · go_wp2_with fail
        go_meet
        exact ⟨vint (by have := HM.out; rw [clampS_big (by omega)] at this; omega), rfl⟩
      · go_wp2_with fail
        go_meet
        exact ⟨vint (by have := HM.out; rw [clampS_mid (by omega) (by omega)] at this; omega), rfl⟩
  case rest =>
    obtain ⟨rfl, rfl⟩ := hcut
    go_wp2_with fail
    go_loopw [5, 14] (fun v i wr => ∃ (k : Nat) (zs : List Int), k ≤ skip ∧ i = .int .i64 k ∧ Own 76 w.heap.size wr v zs ∧ Below w.heap.size w wr ∧ Hid (zs = List.replicate k 0)) (fun _ i _ => skip - mes i)
    case atStart => exact ⟨0, [], by omega, rfl, Own.nil _ _ _, Below.refl _ _, Lib.hid rfl⟩
    case round =>
      obtain ⟨k, zs, hk, rfl, hown, hb, HZ⟩ := hrel
      have hzl : zs.length ≤ k := by rw [HZ.out]; simp
      by_cases hk2 : k < skip
      · go_wp2_with (at_builtin; refine wpList_append_own _ rfl (.tmp 16) (.tmp 17) 23 rfl w.heap.size 76 i0 (.int .u64 0) 1 8 Tryz.underlying23 hi hz0 hz1 hz2 rfl (by decide) _ _ _ rfl (hown.out.alloc _) ⟨wr.heap.size, 0, none⟩ 1 1 [.int .u64 (0)] rfl rfl ?c1 ?c2 ?c3 ?c4 ?c5 ?_)
        case c1 => exact cell_one_new _ _ _
        case c2 => intro u hu; simp at hu; subst hu; rfl
        case c3 => unfold maxLen; omega
        case c4 => omega
        case c5 => have := hb.size; simp; omega
        intro v' w1 hown' hgrow _
        have hb1 := own_below hb hown hgrow
        have HO := Lib.hid (Own.snoc hown')
        clear hown hown' hgrow
        go_wp2
        go_roundw
        case rel => exact ⟨k + 1, _, by omega, by go_num, HO.out, hb1, Lib.hid (by rw [HZ.out, ← List.replicate_succ'])⟩
        case measure => simp [mes, intOf]; omega
      · obtain rfl : k = skip := by omega
        go_wp2_with fail
        go_loopw [5, 22] (fun v i wr2 => ∃ (j : Nat) (ys : List Int), j ≤ n ∧ i = .int .i64 j ∧ Own 76 w.heap.size wr2 v ys ∧ Below w.heap.size w wr2 ∧ Hid (ys = List.replicate k 0 ++ xs.take j)) (fun _ i _ => n - mes i)
        case atStart => exact ⟨0, zs, by omega, rfl, hown, hb, Lib.hid (by rw [HZ.out]; simp)⟩
        case round =>
          clear hown hb hzl HZ
          obtain ⟨j, ys, hj, rfl, hown, hb, HY⟩ := hrel
          have hyl : ys.length ≤ k + j := by rw [HY.out]; simp [List.length_take]; omega
          by_cases hj2 : j < n
          · obtain ⟨ba, off, rfl, hba, hca⟩ := h.at_ (k := j) (by omega)
            have hac := (hb.cell (p := ⟨ba, off + j, none⟩) hba).trans (hca j (by omega))
            have ht := take_snoc xs j (by have := HL.out; omega)
            obtain ⟨x, hx⟩ : ∃ x, xs.getD j 0 = x := ⟨_, rfl⟩
            rw [hx] at hac ht
            have HT := Lib.hid ht
            clear ht hx hca
            go_wp2_with (at_builtin; refine wpList_append_own _ rfl (.tmp 25) (.tmp 30) 23 rfl w.heap.size 76 i0 (.int .u64 0) 1 8 Tryz.underlying23 hi hz0 hz1 hz2 rfl (by decide) _ _ _ rfl (hown.out.alloc _) ⟨wr.heap.size, 0, none⟩ 1 1 [.int .u64 (x)] rfl rfl ?d1 ?d2 ?d3 ?d4 ?d5 ?_)
            case d1 => exact cell_one_new _ _ _
            case d2 => intro u hu; simp at hu; subst hu; rfl
            case d3 => unfold maxLen; omega
            case d4 => omega
            case d5 => have := hb.size; simp; omega
            intro v' w1 hown' hgrow _
            have hb1 := own_below hb hown hgrow
            have HO := Lib.hid (Own.snoc hown')
            clear hown hown' hgrow hac
            go_wp2
            go_roundw
            case rel => exact ⟨j + 1, _, by omega, by go_num, HO.out, hb1, Lib.hid (by rw [HY.out, HT.out, List.append_assoc])⟩
            case measure => simp [mes, intOf]; omega
          · obtain rfl : j = n := by omega
            have hL : ys = List.replicate k 0 ++ xs := by rw [HY.out, List.take_of_length_le (by have := HL.out; omega)]
            have hdL : Dg W ys := by rw [hL]; exact (Dg.zeros W_pos _).append (Dg_U h.us)
            have hvL : val ys * 2 ^ s = val xs * 2 ^ m := by
              rw [hL, val_zeros_append, ← EP.out, Nat.mul_right_comm, Nat.mul_comm]
            have hlL : ys.length = k + j := by rw [hL]; simp; have := HL.out; omega
            clear HY hL
            have HV := Lib.hid hvL
            have HLL := Lib.hid hlL
            clear hvL hlL
            by_cases hs0 : s = 0
            · subst hs0
              obtain ⟨A2, c2, rfl⟩ := own_form hown
              have R := ref_trim (hown.sl (U_Dg hdL)) (by omega)
              have hv9 := HV.out
              rw [Nat.pow_zero, Nat.mul_one] at hv9
              rw [hv9] at R
              have HR := Lib.hid R
              clear R hown hv9
              go_wp2_with fail
              refine HR.out.mono ?_
              rintro e w' ⟨A3, n3, c3, rfl, s3, b3⟩
              go_wp2_with fail
              go_ret
              exact ⟨_, _, _, rfl, s3, hb.trans (b3.mono hb.size)⟩
            · have hs1 : ((s : Int) == 0) = false := by simp; omega
              go_wp2_with (at_builtin; refine wpList_append_own _ rfl (.tmp 41) (.tmp 42) 23 rfl w.heap.size 76 i0 (.int .u64 0) 1 8 Tryz.underlying23 hi hz0 hz1 hz2 rfl (by decide) _ _ _ rfl (hown.out.alloc _) ⟨wr.heap.size, 0, none⟩ 1 1 [.int .u64 (0)] rfl rfl ?f1 ?f2 ?f3 ?f4 ?f5 ?_)
              case f1 => exact cell_one_new _ _ _
              case f2 => intro u hu; simp at hu; subst hu; rfl
              case f3 => unfold maxLen; omega
              case f4 => omega
              case f5 => have := hb.size; simp; omega
              intro v' w1 hown' hgrow _
              have hb1 := own_below hb hown hgrow
              have hown1 := Own.snoc hown'
              clear hown hown' hgrow hb
              obtain ⟨A2, c2, rfl⟩ := own_form hown1
              obtain ⟨g, rfl, hg⟩ := hown1.addr (by simp)
              obtain ⟨L, hL⟩ : ∃ L, ys ++ [0] = L := ⟨_, rfl⟩
              have hNL : L.length = ys.length + 1 := by rw [← hL]; simp
              have hdL' : Dg W L := by rw [← hL]; exact hdL.snoc (by omega) (by unfold W; omega)
              have hl0 : L.getD ys.length 0 = 0 := by rw [← hL]; simp [List.getD_eq_getElem?_getD]
              have hvL' : val L = val ys := by rw [← hL]; exact val_snoc_zero ys
              rw [hL] at hown1 ⊢
              rw [hNL] at hown1 ⊢
              have hst := shlDown_0 (s := s) hdL' hNL hl0
              generalize hN : ys.length = N at *
              have HN := Lib.hid hN
              have HVL := Lib.hid hvL'
              have HNL := Lib.hid hNL
              clear hL hN hvL' hNL hl0
              go_wp2_with fail
              go_loopw [8] (fun i wr3 => ∃ (p : Nat) (zs : List Int), p ≤ N ∧ i = .int .i64 p ∧ Own 76 w.heap.size wr3 (.slice (some ⟨g, 0, none⟩) (N + 1) c2) zs ∧ Below w.heap.size w wr3 ∧ ShlDown L s p zs) (fun i _ => mes i)
              case atStart => exact ⟨N, L, by omega, rfl, hown1, hb1, hst⟩
              case round =>
                clear hown1 hb1 hst
                obtain ⟨p, zs, hp, rfl, hown, hb, hz⟩ := hrel
                have hzl : zs.length = N + 1 := by rw [hz.1, HNL.out]
                cases p with
                | zero =>
                  have hc0 := hown.cell (i := 0) (by omega)
                  rw [hz.2.2.1 0 (by omega)] at hc0
                  have hf0 := hown.free 0
                  have hux : U (L.getD 0 0) := by have := hdL'.at_ W_pos 0; unfold U; unfold W at this; omega
                  obtain ⟨v, ev, v1, v2, v3⟩ := shl_digit2 hs64 hux U_0
                  have ez : (0 : Int) / 2 ^ (64 - s) = 0 := Int.zero_ediv _
                  have ez' : (0 : Int).toNat / 2 ^ (64 - s) = 0 := by simp
                  rw [ez', Nat.add_zero] at v2
                  have ev2 : IntKind.u64.wrap (L.getD 0 0 * 2 ^ s) = (v : Int) := by
                    rw [← ev, ez]
                    have hw := U_wrap (L.getD 0 0 * 2 ^ s)
                    rw [or_join 0 hw (by simp) (by omega) (by simp) U_0, Int.add_zero]
                  obtain ⟨f1, f2, f3⟩ := shlDown_end hz (by rw [HNL.out]; omega) v1 v2 v3
                  have ho2 := hown.set 0 (v : Int)
                  have hb2 : Below w.heap.size w (wr.setCell ⟨g, 0, none⟩ (.int .u64 (v : Int))) := hb.setCell hg _
                  have R := ref_trim (ho2.sl (U_Dg f2)) (by omega)
                  rw [f1, HVL.out, HV.out] at R
                  generalize L.getD 0 0 = x at *
                  have HR := Lib.hid R
                  have HB2 := Lib.hid hb2
                  clear R ho2 f1 f2 f3 hz hown ev v1 v2 v3 ez ez' hzl hux hb2
                  go_wp2_with fail
                  refine HR.out.mono ?_
                  rintro e w' ⟨A3, n3, c3, rfl, s3, b3⟩
                  go_wp2_with fail
                  go_ret
                  exact ⟨_, _, _, rfl, s3, HB2.out.trans (b3.mono HB2.out.size)⟩
                | succ p =>
                  have hc1 := hown.cell (i := p + 1) (by omega)
                  rw [hz.2.2.1 (p + 1) (by omega)] at hc1
                  have hc0 := hown.cell (i := p) (by omega)
                  rw [hz.2.2.1 p (by omega)] at hc0
                  have hf1 := hown.free (p + 1)
                  have hux : U (L.getD (p + 1) 0) := by have := hdL'.at_ W_pos (p + 1); unfold U; unfold W at this; omega
                  have huy : U (L.getD p 0) := by have := hdL'.at_ W_pos p; unfold U; unfold W at this; omega
                  obtain ⟨v, ev, v1, v2, v3⟩ := shl_digit2 hs64 hux huy
                  have hst := shlDown_step hz (by rw [HNL.out]; omega) v1 v2 v3
                  have ho2 := hown.set (p + 1) (v : Int)
                  generalize L.getD (p + 1) 0 = x at *
                  generalize L.getD p 0 = y at *
                  have HS := Lib.hid hst
                  have HO := Lib.hid ho2
                  have wr1 : IntKind.u64.wrap (64 - (s : Int)) = 64 - (s : Int) := by rw [wrapU_lo, lo_U]; unfold U; omega
                  have wr2 : (64 - (s : Int)).toNat = 64 - s := by omega
                  clear hst ho2 hz hown v1 v2 v3 hzl hux huy
                  go_wp2_with fail
                  go_region
                  go_wp2
                  go_roundw
                  case rel => exact ⟨p, _, by omega, by go_num, HO.out, (hb.setCell hg _).drew, HS.out⟩
                  case measure => exact mes_lt (by omega) (by omega)

set_option maxHeartbeats 2000000 in
theorem ref_shr {w : World} {A : Option Addr} {n c : Nat} {xs : List Int} (h : Sl w A n c xs) (hn : n ≤ 1000000) (i : Int) (hi9 : i ≤ 9223372036854775807) :
    Calls Tryz.prog 174 #[.slice A n c, .int .i64 i] w (RetSl (words (val xs / 2 ^ i.toNat)) w) := by
  have hlen := h.len
  have HL := Lib.hid hlen
  clear hlen
  obtain ⟨i0, hi, hz0, hz1, hz2⟩ := info_parts infoW
  obtain ⟨m, hm⟩ : ∃ m, i.toNat = m := ⟨_, rfl⟩
  have hm64 : m ≤ 9223372036854775807 := by omega
  rw [hm]
  have HM := Lib.hid hm
  clear hm
  obtain ⟨skip, hskip⟩ : ∃ k, m / 64 = k := ⟨_, rfl⟩
  obtain ⟨s, hs0⟩ : ∃ k, m % 64 = k := ⟨_, rfl⟩
  have hs64 : s < 64 := by omega
  have hsk : skip ≤ 144115188075855872 := by omega
  have e1 : (m : Int) / 64 = (skip : Int) := by omega
  have e2 : (m : Int) % 64 = (s : Int) := by omega
  have epow : val (xs.drop skip) / 2 ^ s = val xs / 2 ^ m := by rw [← hskip, ← hs0]; exact val_drop_div (Dg_U h.us) m
  have EP := Lib.hid epow
  clear hskip hs0 epow
  go_enter Tryz.func174, Tryz.ntmps174
  go_upto_region 1 with (fail)
  go_cut [1] (fun s1 wx => s1 = .int .i64 m ∧ w = wx)
  case first =>
    by_cases h1 : i < 0
    · go_wp2_with fail
      go_meet
      exact ⟨vint (by have := HM.out; omega), rfl⟩
    · go_wp2_with fail
      go_meet
      exact ⟨vint (by have := HM.out; omega), rfl⟩
  case rest =>
    obtain ⟨rfl, rfl⟩ := hcut
    go_wp2_with fail
    go_loopw [5, 6] (fun v i wr => ∃ (k : Nat) (zs : List Int), k ≤ n - skip ∧ i = .int .i64 ((skip : Int) + k) ∧ Own 76 w.heap.size wr v zs ∧ Below w.heap.size w wr ∧ Hid (zs = (xs.drop skip).take k)) (fun _ i _ => n - mes i)
    case atStart => exact ⟨0, [], by omega, vint (by omega), Own.nil _ _ _, Below.refl _ _, Lib.hid (by simp)⟩
    case round =>
      obtain ⟨k, zs, hk, rfl, hown, hb, HZ⟩ := hrel
      have hzl : zs.length ≤ k := by rw [HZ.out, List.length_take]; omega
      by_cases hk2 : skip + k < n
      · obtain ⟨ba, off, rfl, hba, hca⟩ := h.at_ (k := skip + k) (by omega)
        have hac := (hb.cell (p := ⟨ba, off + (skip + k), none⟩) hba).trans (hca (skip + k) (by omega))
        have ht := take_snoc (xs.drop skip) k (by rw [List.length_drop]; have := HL.out; omega)
        have hgd : (xs.drop skip).getD k 0 = xs.getD (skip + k) 0 := by simp [List.getD_eq_getElem?_getD, List.getElem?_drop]
        rw [hgd] at ht
        obtain ⟨x, hx⟩ : ∃ x, xs.getD (skip + k) 0 = x := ⟨_, rfl⟩
        rw [hx] at hac ht
        have HT := Lib.hid ht
        have hkn : (skip : Int) + k < n := by omega
        have htn : ((skip : Int) + k).toNat = skip + k := by omega
        clear ht hx hca hgd
        go_wp2_with (at_builtin; refine wpList_append_own _ rfl (.tmp 19) (.tmp 24) 23 rfl w.heap.size 76 i0 (.int .u64 0) 1 8 Tryz.underlying23 hi hz0 hz1 hz2 rfl (by decide) _ _ _ rfl (hown.out.alloc _) ⟨wr.heap.size, 0, none⟩ 1 1 [.int .u64 (x)] rfl rfl ?c1 ?c2 ?c3 ?c4 ?c5 ?_)
        case c1 => exact cell_one_new _ _ _
        case c2 => intro u hu; simp at hu; subst hu; rfl
        case c3 => unfold maxLen; omega
        case c4 => omega
        case c5 => have := hb.size; simp; omega
        intro v' w1 hown' hgrow _
        have hb1 := own_below hb hown hgrow
        have HO := Lib.hid (Own.snoc hown')
        clear hown hown' hgrow hac
        go_wp2
        go_roundw
        case rel => exact ⟨k + 1, _, by omega, by go_num, HO.out, hb1, Lib.hid (by rw [HZ.out, HT.out])⟩
        case measure => simp [mes, intOf]; omega
      · have hk3 : k = n - skip := by omega
        have hL : zs = xs.drop skip := by rw [HZ.out, List.take_of_length_le (by rw [List.length_drop]; have := HL.out; omega)]
        have hdL : Dg W zs := by rw [hL]; exact (Dg_U h.us).drop skip
        have hvL : val zs / 2 ^ s = val xs / 2 ^ m := by rw [hL]; exact EP.out
        have HV := Lib.hid hvL
        have hkn : (n : Int) ≤ (skip : Int) + k := by omega
        have hdec : decide ((skip : Int) + (k : Int) < (n : Int)) = false := by simp; omega
        have hzl2 : zs.length ≤ n := by omega
        clear HZ hL hvL hk3
        obtain ⟨A2, c2, rfl⟩ := own_form hown
        by_cases hs0 : s = 0
        · subst hs0
          have R := ref_trim (hown.sl (U_Dg hdL)) (by omega)
          have hv9 := HV.out
          rw [Nat.pow_zero, Nat.div_one] at hv9
          rw [hv9] at R
          have HR := Lib.hid R
          clear R hown hv9
          go_wp2_with fail
          refine HR.out.mono ?_
          rintro e w' ⟨A3, n3, c3, rfl, s3, b3⟩
          go_wp2_with fail
          go_ret
          exact ⟨_, _, _, rfl, s3, hb.trans (b3.mono hb.size)⟩
        · have hs1 : ((s : Int) == 0) = false := by simp; omega
          obtain ⟨L, hL⟩ : ∃ L, zs = L := ⟨_, rfl⟩
          have hst := shrUp_0 s hdL
          rw [hL] at hown hdL hst HV hzl hzl2 ⊢
          obtain ⟨N, hN⟩ : ∃ N, L.length = N := ⟨_, rfl⟩
          rw [hN] at hown hzl hzl2 ⊢
          have HN := Lib.hid hN
          clear hL hN
          go_wp2_with fail
          go_loopw [36] (fun i wr3 => ∃ (p : Nat) (ys : List Int), p ≤ N ∧ i = .int .i64 p ∧ Own 76 w.heap.size wr3 (.slice A2 N c2) ys ∧ Below w.heap.size w wr3 ∧ ShrUp L s p ys) (fun i _ => N - mes i)
          case atStart => exact ⟨0, L, by omega, rfl, hown, hb, hst⟩
          case round =>
            clear hown hb hst
            obtain ⟨p, ys, hp, rfl, hown, hb, hz⟩ := hrel
            have hyl : ys.length = N := by rw [hz.1, HN.out]
            by_cases hp2 : p < N
            · obtain ⟨g, rfl, hg⟩ := hown.addr (by omega)
              have hc0 := hown.cell (i := p) (by omega)
              rw [hz.2.2.1 p (by omega)] at hc0
              have hf0 := hown.free p
              have hux : U (L.getD p 0) := by have := hdL.at_ W_pos p; unfold U; unfold W at this; omega
              have huy : U (L.getD (p + 1) 0) := by have := hdL.at_ W_pos (p + 1); unfold U; unfold W at this; omega
              obtain ⟨v, ev, v1, v2⟩ := shr_digit hs64 hux huy
              have hst := shrUp_step hs64 hdL hz (by rw [HN.out]; omega) v1 v2
              have ho2 := hown.set p (v : Int)
              have hst0 : p + 1 < N → wr.cell? ⟨g, p + 1, none⟩ = some (.int .u64 (L.getD (p + 1) 0)) := fun h9 => by
                have := hown.cell (i := p + 1) (by omega)
                rw [hz.2.2.1 (p + 1) (by omega)] at this
                exact this
              have hnone : N ≤ p + 1 → L.getD (p + 1) 0 = 0 := fun h9 => by rw [List.getD_eq_getElem?_getD, List.getElem?_eq_none (by rw [HN.out]; omega)]; rfl
              generalize L.getD p 0 = x at *
              generalize L.getD (p + 1) 0 = y at *
              have HS := Lib.hid hst
              have HO := Lib.hid ho2
              have wr1 : IntKind.u64.wrap (64 - (s : Int)) = 64 - (s : Int) := by rw [wrapU_lo, lo_U]; unfold U; omega
              have wr2 : (64 - (s : Int)).toNat = 64 - s := by omega
              by_cases hp3 : p + 1 < N
              · have hc1 := hst0 hp3
                have hp4 : (p : Int) + 1 < N := by omega
                have ho3 := (hown.set p (x / 2 ^ s)).set p (v : Int)
                rw [List.set_set] at ho3
                have HO3 := Lib.hid ho3
                clear hst ho2 hz hown v1 v2 hyl hux huy hst0 hnone ho3 HO
                go_wp2_with fail
                go_region
                go_wp2
                go_roundw
                case rel => exact ⟨p + 1, _, by omega, by go_num, HO3.out, (((hb.setCell hg _).setCell hg _).drew), HS.out⟩
                case measure => simp [mes, intOf]; omega
              · have hy := hnone (by omega)
                subst hy
                have hp4 : (N : Int) ≤ (p : Int) + 1 := by omega
                have evx : x / 2 ^ s = (v : Int) := by
                  rw [v2, show (0 : Int).toNat % 2 ^ s = 0 by simp, Nat.mul_zero, Nat.add_zero, ← cast_shr, Int.toNat_of_nonneg hux.1]
                clear hst ho2 hz hown v1 v2 hyl hux huy hst0 hnone ev wr1 wr2
                go_wp2_with fail
                go_roundw
                case rel => exact ⟨p + 1, _, by omega, by go_num, HO.out, hb.setCell hg _, HS.out⟩
                case measure => simp [mes, intOf]; omega
            · obtain rfl : p = N := by omega
              have f1 : val ys = val L / 2 ^ s := shrUp_end (by rw [HN.out]; exact hz)
              have f2 : Dg W ys := hz.2.1
              have R := ref_trim (hown.sl (U_Dg f2)) (by omega)
              rw [f1, HV.out] at R
              have HR := Lib.hid R
              clear R f1 f2 hz hown hyl
              go_wp2_with fail
              refine HR.out.mono ?_
              rintro e w' ⟨A3, n3, c3, rfl, s3, b3⟩
              go_wp2_with fail
              go_ret
              exact ⟨_, _, _, rfl, s3, hb.trans (b3.mono hb.size)⟩

end Go.Proofs.YtibgpeaplmcogaaGreatDoor

namespace Go.Proofs.YtibgpeaplmcogaaGreatDoor
set_option maxRecDepth 100000
open Go.RowKit
set_option linter.unusedVariables false
set_option linter.unusedSimpArgs false

/-! ### a bit more: plain -/
end Go.Proofs.YtibgpeaplmcogaaGreatDoor

namespace Go.Proofs.YtibgpeaplmcogaaGreatDoor
set_option maxRecDepth 100000
open Go.RowKit
set_option linter.unusedVariables false
set_option linter.unusedSimpArgs false

/-! ### a quotient bit by bit: plain -/
end Go.Proofs.YtibgpeaplmcogaaGreatDoor

namespace Go.Proofs.YtibgpeaplmcogaaGreatDoor
set_option maxRecDepth 100000
open Go.RowKit
set_option linter.unusedVariables false
set_option linter.unusedSimpArgs false

end Go.Proofs.YtibgpeaplmcogaaGreatDoor

namespace Go.Proofs.YtibgpeaplmcogaaGreatDoor
set_option maxRecDepth 100000
set_option linter.unusedVariables false

theorem odd_part (v : Nat) (h : v ≠ 0) : ∃ k o, v = 2 ^ k * o ∧ o % 2 = 1 := by
  induction v using Nat.strongRecOn with
  | ind v ih =>
    by_cases h1 : v % 2 = 1
    · exact ⟨0, v, by simp, h1⟩
    · obtain ⟨k, o, e, ho⟩ := ih (v / 2) (by omega) (by omega)
      refine ⟨k + 1, o, ?_, ho⟩
      have e2 : v = 2 * (v / 2) := by omega
      rw [e2, e, Nat.pow_succ, Nat.mul_comm (2 ^ k) 2, Nat.mul_assoc]
theorem tz_of {v k o : Nat} (e : v = 2 ^ k * o) (ho : o % 2 = 1) : tz v = k := by
  refine tz_unique (fun j hj => ?_) ?_
  · have e2 : v = 2 ^ j * (2 * (2 ^ (k - j - 1) * o)) := by
      rw [e, ← Nat.mul_assoc, ← Nat.mul_assoc, ← Nat.pow_succ, ← Nat.pow_add]
      congr 2
      omega
    rw [e2, Nat.mul_div_cancel_left _ (Nat.two_pow_pos j)]
    omega
  · rw [e, Nat.mul_div_cancel_left _ (Nat.two_pow_pos k)]
    exact ho
/-- a number without its factors 2 -/
def odd (v : Nat) : Nat := v / 2 ^ tz v
theorem odd_eq {v : Nat} (h : v ≠ 0) : v = 2 ^ tz v * odd v ∧ odd v % 2 = 1 := by
  obtain ⟨k, o, e, ho⟩ := odd_part v h
  have e2 := tz_of e ho
  have e3 : odd v = o := by
    unfold odd
    rw [e2]
    conv => lhs; rw [e]
    exact Nat.mul_div_cancel_left _ (Nat.two_pow_pos k)
  rw [e2, e3]
  exact ⟨e, ho⟩
theorem odd_le (v : Nat) : odd v ≤ v := Nat.div_le_self _ _
theorem coprime_two {y : Nat} (h : y % 2 = 1) : Nat.Coprime 2 y := by
  unfold Nat.Coprime
  rw [Nat.gcd_rec, h]
  rfl
theorem gcd_pow_odd (k o : Nat) {y : Nat} (h : y % 2 = 1) : Nat.gcd (2 ^ k * o) y = Nat.gcd o y :=
  Nat.Coprime.gcd_mul_left_cancel o (Nat.Coprime.pow_left k (coprime_two h))
theorem gcd_odd_left {x y : Nat} (hx : x ≠ 0) (h : y % 2 = 1) : Nat.gcd (odd x) y = Nat.gcd x y := by
  conv => rhs; rw [(odd_eq hx).1]
  rw [gcd_pow_odd _ _ h]
theorem gcd_start_le {a b : Nat} (ha : a ≠ 0) (hb : b ≠ 0) (h : tz a ≤ tz b) : Nat.gcd a b = Nat.gcd (odd a) (odd b) * 2 ^ tz a := by
  have ea := (odd_eq ha).1
  have eb : b = 2 ^ tz a * (2 ^ (tz b - tz a) * odd b) := by
    conv => lhs; rw [(odd_eq hb).1]
    rw [← Nat.mul_assoc, ← Nat.pow_add]
    congr 2
    omega
  have e : Nat.gcd a b = Nat.gcd (2 ^ tz a * odd a) (2 ^ tz a * (2 ^ (tz b - tz a) * odd b)) := by rw [← ea, ← eb]
  rw [e, Nat.gcd_mul_left, Nat.gcd_comm (odd a), gcd_pow_odd _ _ (odd_eq ha).2, Nat.gcd_comm (odd b), Nat.mul_comm]
theorem gcd_start {a b : Nat} (ha : a ≠ 0) (hb : b ≠ 0) : Nat.gcd a b = Nat.gcd (odd a) (odd b) * 2 ^ min (tz a) (tz b) := by
  rcases Nat.le_total (tz a) (tz b) with h | h
  · rw [Nat.min_eq_left h]; exact gcd_start_le ha hb h
  · rw [Nat.min_eq_right h, Nat.gcd_comm a b, Nat.gcd_comm (odd a)]; exact gcd_start_le hb ha h
/-- a round of halving and taking away -/
theorem gcd_round {x y : Nat} (hx : x % 2 = 1) (hy : y % 2 = 1) (h : y < x) : Nat.gcd (odd (x - y)) y = Nat.gcd x y ∧ odd (x - y) % 2 = 1 ∧ odd (x - y) < x := by
  have h0 : x - y ≠ 0 := by omega
  refine ⟨?_, (odd_eq h0).2, ?_⟩
  · rw [gcd_odd_left h0 hy, Nat.gcd_sub_self_left (by omega)]
  · have := odd_le (x - y); omega
theorem tz_lt {v k : Nat} (h : v < 2 ^ k) (hk : 0 < k) : tz v < k := by
  by_cases h0 : v = 0
  · subst h0; rw [tz_zero]; exact hk
  · have e := (odd_eq h0)
    have ho : 0 < odd v := by have := e.2; omega
    have : 2 ^ tz v ≤ v := by
      conv => rhs; rw [e.1]
      exact Nat.le_mul_of_pos_right _ ho
    exact (Nat.pow_lt_pow_iff_right (by omega)).1 (Nat.lt_of_le_of_lt this h)
/-- Euclid's step -/
theorem gcd_step (a b : Nat) : Nat.gcd b (a % b) = Nat.gcd a b := by
  rw [Nat.gcd_comm b, Nat.gcd_comm a, ← Nat.gcd_rec]
theorem gcd_lt {a b B : Nat} (ha : a < B) (hb : b < B) : Nat.gcd a b < B := by
  rcases Nat.eq_zero_or_pos a with h | h
  · subst h; rw [Nat.gcd_zero_left]; exact hb
  · exact Nat.lt_of_le_of_lt (Nat.gcd_le_left b h) ha
end Go.Proofs.YtibgpeaplmcogaaGreatDoor

namespace Go.Proofs.YtibgpeaplmcogaaGreatDoor
set_option maxRecDepth 100000
open Go.RowKit
set_option linter.unusedVariables false
set_option linter.unusedSimpArgs false

theorem mesV_val {w : World} {A : Option Addr} {n c : Nat} {xs : List Int} (h : Sl w A n c xs) : mesV (.slice A n c) w = val xs := by
  rcases Nat.eq_zero_or_pos n with h0 | h0
  · subst h0
    have e : xs = [] := List.eq_nil_of_length_eq_zero h.len.symm
    subst e
    unfold mesV
    split
    · rename_i b off n' c' heq
      injection heq with _ e2
      subst e2
      rfl
    · rfl
  · obtain ⟨b, off, rfl, _, hc⟩ := h.at_ (k := 0) h0
    show val (readAt w b off n) = val xs
    have e : readAt w b off n = xs := by
      unfold readAt
      apply List.ext_getElem
      · rw [List.length_map, List.length_range]; exact h.len
      · intro j h1 h2
        have hj : j < n := by simpa using h1
        simp only [List.getElem_map, List.getElem_range]
        rw [hc j hj]
        simp [cellInt, List.getD_eq_getElem?_getD, List.getElem?_eq_getElem h2]
    rw [e]

/-- Euclid's steps on words -/
def GW (G : Nat) (d r : Int) : Prop := U d ∧ U r ∧ Nat.gcd d.toNat r.toNat = G
theorem GW.step {G : Nat} {d r : Int} (h : GW G d r) (h0 : r ≠ 0) : GW G r (d.tmod r) ∧ (d.tmod r).toNat < r.toNat := by
  obtain ⟨hd, hr, hg⟩ := h
  rw [Int.tmod_eq_emod_of_nonneg hd.1]
  have hd' := hd
  have hr' := hr
  unfold U at hd hr
  have p : 0 < r := by omega
  have h1 := Int.emod_nonneg d h0
  have h2 := Int.emod_lt_of_pos d p
  have h3 : (d % r).toNat = d.toNat % r.toNat := Int.toNat_emod hd.1 hr.1
  refine ⟨⟨hr', ?_, ?_⟩, ?_⟩
  · show U (d % r); unfold U; omega
  · show Nat.gcd r.toNat (d % r).toNat = G
    rw [h3, gcd_step]; exact hg
  · show (d % r).toNat < r.toNat
    omega
theorem GW.end_ {G : Nat} {d : Int} (h : GW G d 0) : d.toNat = G := by
  have := h.2.2
  simpa using this

set_option maxHeartbeats 1000000 in
theorem gcd_word {w : World} {A : Option Addr} {n c : Nat} {xs : List Int} (h : Sl w A n c xs) (hn : n ≤ 1000000) (d : Int) (hd : U d) :
    Calls Tryz.prog 225 #[.slice A n c, .int .u64 d] w (RetSl (words (Nat.gcd (val xs) d.toNat)) w) := by
  by_cases hd0 : d = 0
  · subst hd0
    have T := nat_trim h (by omega)
    rw [show (0 : Int).toNat = 0 from rfl, Nat.gcd_zero_right]
    have HT := Lib.hid T
    clear T
    go_enter Tryz.func225, Tryz.ntmps225
    go_wp2_with fail
    refine (quot_word_zero _ _ _ _).mono ?_
    rintro e w' ⟨rfl, rfl⟩
    go_wp2_with fail
    refine HT.out.mono ?_
    rintro e w1 ⟨A1, n1, c1, rfl, s1, b1⟩
    go_wp2_with fail
    go_ret
    exact ⟨_, _, _, rfl, s1, b1⟩
  · have hp : 0 < d := by unfold U at hd; omega
    have QW := quot_word h (by omega) d hd hp
    have hlt : val xs % d.toNat < d.toNat := Nat.mod_lt _ (by omega)
    have hgw : GW (Nat.gcd (val xs) d.toNat) d ((val xs % d.toNat : Nat) : Int) := ⟨hd, by unfold U at hd ⊢; omega, by rw [Int.toNat_natCast, gcd_step]⟩
    generalize Nat.gcd (val xs) d.toNat = G at *
    generalize val xs / d.toNat = q at *
    generalize ((val xs % d.toNat : Nat) : Int) = r0 at *
    have HQ := Lib.hid QW
    have HG := Lib.hid hgw
    clear QW hgw hlt hp
    go_enter Tryz.func225, Tryz.ntmps225
    go_wp2_with fail
    refine HQ.out.mono ?_
    rintro e w1 ⟨A1, n1, c1, rfl, s1, b1⟩
    clear s1 HQ
    go_wp2_with fail
    go_loopw [1, 6] (fun dv rv wr => ∃ (d r : Int), dv = .int .u64 d ∧ rv = .int .u64 r ∧ Hid (GW G d r) ∧ Below w.heap.size w wr) (fun _ rv _ => (intOf rv).toNat)
    case atStart => exact ⟨_, _, rfl, rfl, HG, b1⟩
    case round =>
      clear HG b1
      obtain ⟨d, r, rfl, rfl, HG, hb⟩ := hrel
      by_cases hr : r = 0
      · subst hr
        have OF := fun w => nat_of d HG.out.1 w
        rw [HG.out.end_] at OF
        have HOF := Lib.hid OF
        clear OF
        go_wp2_with fail
        refine (HOF.out _).mono ?_
        rintro e w2 ⟨A2, n2, c2, rfl, s2, b2⟩
        go_wp2_with fail
        go_ret
        exact ⟨_, _, _, rfl, s2, hb.trans (b2.mono hb.size)⟩
      · have hne : (r == 0) = false := by simp [hr]
        obtain ⟨hs1, hs2⟩ := HG.out.step hr
        have HS1 := Lib.hid hs1
        have HS2 := Lib.hid hs2
        clear hs1 hs2
        go_wp2_with fail
        go_region
        go_wp2_with fail
        go_roundw
        case rel => exact ⟨_, _, rfl, rfl, HS1, hb.drew⟩
        case measure => exact HS2.out

set_option maxHeartbeats 1000000 in
theorem gcd_gcd {w : World} {A A' : Option Addr} {n n' c c' N : Nat} {xs ys : List Int} (h : Sl w A n c xs) (h' : Sl w A' n' c' ys) (hn : n ≤ N) (hn' : n' ≤ N) (hN : N ≤ 1000000) :
    Calls Tryz.prog 191 #[.slice A n c, .slice A' n' c'] w (RetSl (words (Nat.gcd (val xs) (val ys))) w) := by
  obtain ⟨G, hG⟩ : ∃ G, Nat.gcd (val xs) (val ys) = G := ⟨_, rfl⟩
  rw [hG]
  have HG := Lib.hid hG
  clear hG
  go_enter Tryz.func191, Tryz.ntmps191
  go_wp2_with fail
  go_loopw [0, 1] (fun av bv wr => ∃ (A A' : Option Addr) (n n' c c' : Nat) (xs ys : List Int), av = .slice A n c ∧ bv = .slice A' n' c' ∧ Sl wr A n c xs ∧ Sl wr A' n' c' ys ∧ n ≤ N ∧ n' ≤ N ∧ Hid (Nat.gcd (val xs) (val ys) = G) ∧ Below w.heap.size w wr) (fun _ bv wr => mesV bv wr)
  case atStart => exact ⟨_, _, _, _, _, _, xs, ys, rfl, rfl, h, h', hn, hn', HG, Below.refl _ _⟩
  case round =>
    clear h h' hn hn' HG
    obtain ⟨A, A', n, n', c, c', xs, ys, rfl, rfl, h, h', hn, hn', HG, hb⟩ := hrel
    have NW := nat_word h' (by omega)
    by_cases hs : sz ys ≤ 1
    · have hv := val_short (Dg_U h'.us) hs
      have hw1 : word1 ys = ys.getD 0 0 := by unfold word1; rw [if_neg (by omega)]
      rw [hw1, decide_eq_true hs] at NW
      have GWD := gcd_word h (by omega) (ys.getD 0 0) (h'.u 0)
      rw [← hv, HG.out] at GWD
      generalize ys.getD 0 0 = d at *
      have HNW := Lib.hid NW
      have HGW := Lib.hid GWD
      clear NW GWD hv hw1 hs
      go_wp2_with fail
      refine HNW.out.mono ?_
      rintro e w' ⟨rfl, rfl⟩
      go_wp2_with fail
      refine HGW.out.mono ?_
      rintro e w1 ⟨A1, n1, c1, rfl, s1, b1⟩
      go_wp2_with fail
      go_ret
      exact ⟨_, _, _, rfl, s1, hb.trans (b1.mono hb.size)⟩
    · rw [decide_eq_false hs] at NW
      obtain ⟨_, hp⟩ := val_long (Dg_U h'.us) (by omega)
      have QD := quot_div h h' (by omega) (by omega) hp
      have hlt := Nat.mod_lt (val xs) hp
      have hvy : val ys < W ^ N := val_lt_pow h'.us (by have := h'.len; omega)
      have hst := gcd_step (val xs) (val ys)
      rw [HG.out] at hst
      have hm := mesV_val h'
      generalize word1 ys = d at *
      generalize val xs / val ys = q at *
      generalize val xs % val ys = r at *
      have HNW := Lib.hid NW
      have HQD := Lib.hid QD
      have HLT := Lib.hid hlt
      have HVY := Lib.hid hvy
      have HST := Lib.hid hst
      have HM := Lib.hid hm
      have HH' := Lib.hid h'
      clear NW QD hlt hvy hst hm hs hp h' h
      go_wp2_with fail
      refine HNW.out.mono ?_
      rintro e w' ⟨rfl, rfl⟩
      go_wp2_with fail
      refine HQD.out.mono ?_
      rintro e w1 ⟨A1, n1, c1, A2, n2, c2, rfl, s1, s2, b1⟩
      have l2 : n2 ≤ N := s2.small (Nat.lt_trans HLT.out HVY.out)
      have hm2 := mesV_val s2
      rw [val_words] at hm2
      have HM2 := Lib.hid hm2
      have h2 := HH'.out.below b1
      have hb1 := hb.trans (b1.mono hb.size)
      clear s1 b1 hm2
      go_wp2_with fail
      go_roundw
      case rel => exact ⟨_, _, _, _, _, _, ys, words r, rfl, rfl, h2, s2, hn', l2, Lib.hid (by rw [val_words]; exact HST.out), hb1⟩
      case measure => rw [HM2.out, HM.out]; exact HLT.out

theorem cmpN_zero (a b : Nat) : (cmpN a b == 0) = decide (a = b) := by
  unfold cmpN
  split
  · rw [decide_eq_false (by omega)]; rfl
  · split
    · rw [decide_eq_false (by omega)]; rfl
    · rw [decide_eq_true (by omega)]; rfl
set_option maxHeartbeats 1000000 in
theorem gcd_coprime {w : World} {A A' : Option Addr} {n n' c c' N : Nat} {xs ys : List Int} (h : Sl w A n c xs) (h' : Sl w A' n' c' ys) (hn : n ≤ N) (hn' : n' ≤ N) (hN : N ≤ 100000) :
    Calls Tryz.prog 123 #[.slice A n c, .slice A' n' c'] w fun e w' => e = .returned (.bool (decide (Nat.gcd (val xs) (val ys) = 1))) ∧ Below w.heap.size w w' := by
  have va : val xs < W ^ N := val_lt_pow h.us (by have := h.len; omega)
  have vb : val ys < W ^ N := val_lt_pow h'.us (by have := h'.len; omega)
  have vg := gcd_lt va vb
  have GG := gcd_gcd h h' hn hn' (by omega)
  obtain ⟨g, hg⟩ : ∃ g, Nat.gcd (val xs) (val ys) = g := ⟨_, rfl⟩
  obtain ⟨bb, hbb⟩ : ∃ b, decide (Nat.gcd (val xs) (val ys) = 1) = b := ⟨_, rfl⟩
  rw [hbb]
  rw [hg] at GG vg
  simp only [hg] at hbb
  have OF := fun w => nat_of 1 (by unfold U; omega) w
  rw [show (1 : Int).toNat = 1 from rfl] at OF
  have HG := Lib.hid GG
  have HV := Lib.hid vg
  have HO := Lib.hid OF
  have HB := Lib.hid hbb
  clear GG va vb vg h h' OF hbb hg
  go_enter Tryz.func123, Tryz.ntmps123
  go_wp2_with fail
  refine HG.out.mono ?_
  rintro e w1 ⟨A1, n1, c1, rfl, s1, b1⟩
  have l1 : n1 ≤ N := s1.small HV.out
  go_wp2_with fail
  refine (HO.out _).mono ?_
  rintro e w2 ⟨A2, n2, c2, rfl, s2, b2⟩
  have l2 : n2 ≤ 1 := s2.small (by rw [Nat.pow_one]; unfold W; omega)
  have CM := nat_cmp (s1.below b2) s2 (by omega) (by omega)
  have ez := cmpN_zero g 1
  rw [val_words, val_words] at CM
  rw [HB.out] at ez
  generalize cmpN g 1 = cm at CM ez
  have HC := Lib.hid CM
  have hb2 := b1.trans (b2.mono b1.size)
  clear CM s1 s2 b1 b2 HG
  go_wp2_with fail
  refine HC.out.mono ?_
  rintro e w' ⟨rfl, rfl⟩
  go_wp2_with fail
  go_ret
  exact ⟨rfl, hb2⟩

end Go.Proofs.YtibgpeaplmcogaaGreatDoor

namespace Go.Proofs.YtibgpeaplmcogaaGreatDoor
set_option maxRecDepth 100000
open Go.RowKit
set_option linter.unusedVariables false
set_option linter.unusedSimpArgs false

theorem words_single {x : Int} (hx : U x) (h : 0 < x) : words x.toNat = [x] := by
  rw [← val_one x, words_val (Dg_U (by intro y hy; simp at hy; subst hy; exact hx)), trim_cons]
  simp [sz]
  omega
theorem shr_odd (v : Nat) : v / 2 ^ ((tz v : Nat) : Int).toNat = odd v := by rw [Int.toNat_natCast]; rfl
theorem tz_small {v N : Nat} (h : v < W ^ N) (hN : N ≤ 1000) : tz v ≤ 65536 := by
  have : v < 2 ^ (64 * N + 1) := by
    rw [W_pow, ← Nat.pow_mul] at h
    exact Nat.lt_of_lt_of_le h (Nat.pow_le_pow_right (by omega) (by omega))
  have := tz_lt this (by omega)
  omega

/-- the two numbers, odd, of a round -/
def Odds (G N X Y : Nat) : Prop := X % 2 = 1 ∧ Y % 2 = 1 ∧ X < W ^ N ∧ Y < W ^ N ∧ Nat.gcd X Y = G
theorem Odds.less {G N X Y : Nat} (h : Odds G N X Y) (hl : Y < X) : Odds G N (odd (X - Y)) Y ∧ odd (X - Y) + Y < X + Y := by
  obtain ⟨hx, hy, hX, hY, hg⟩ := h
  obtain ⟨h1, h2, h3⟩ := gcd_round hx hy hl
  exact ⟨⟨h2, hy, by omega, hY, by rw [h1]; exact hg⟩, by omega⟩
theorem Odds.swap {G N X Y : Nat} (h : Odds G N X Y) : Odds G N Y X := by
  obtain ⟨hx, hy, hX, hY, hg⟩ := h
  exact ⟨hy, hx, hY, hX, by rw [Nat.gcd_comm]; exact hg⟩

set_option maxHeartbeats 2000000 in
theorem ref_gcd {w : World} {A A' : Option Addr} {n n' c c' N : Nat} {xs ys : List Int} (h : Sl w A n c xs) (h' : Sl w A' n' c' ys) (hn : n ≤ N) (hn' : n' ≤ N) (hN : N ≤ 1000) :
    Calls Tryz.prog 120 #[.slice A n c, .slice A' n' c'] w (RetSl (words (Nat.gcd (val xs) (val ys))) w) := by
  have va : val xs < W ^ N := val_lt_pow h.us (by have := h.len; omega)
  have vb : val ys < W ^ N := val_lt_pow h'.us (by have := h'.len; omega)
  have za : val xs = 0 ↔ sz xs = 0 := valB_zero_iff W_pos (Dg_U h.us)
  have zb : val ys = 0 ↔ sz ys = 0 := valB_zero_iff W_pos (Dg_U h'.us)
  have ZA := ref_size h (by omega)
  have ZB := ref_size h' (by omega)
  by_cases ha : sz xs = 0
  · rw [ha] at ZA
    rw [za.2 ha, Nat.gcd_zero_left]
    have HT := Lib.hid (ref_trim h' (by omega))
    have HZ := Lib.hid ZA
    clear ZA ZB va vb za zb ha
    go_enter Tryz.func120, Tryz.ntmps120
    go_wp2_with fail
    refine HZ.out.mono ?_
    rintro e w' ⟨rfl, rfl⟩
    go_wp2_with fail
    refine HT.out.mono ?_
    rintro e w1 ⟨A1, n1, c1, rfl, s1, b1⟩
    go_wp2_with fail
    go_ret
    exact ⟨_, _, _, rfl, s1, b1⟩
  by_cases hb : sz ys = 0
  · rw [hb] at ZB
    rw [zb.2 hb, Nat.gcd_zero_right]
    have HT := Lib.hid (ref_trim h (by omega))
    have ha0 : ((sz xs : Int) == 0) = false := by simp; omega
    generalize ((sz xs : Nat) : Int) = p at *
    have HZ := Lib.hid ZA
    have HZB := Lib.hid ZB
    clear ZA ZB va vb za zb hb
    go_enter Tryz.func120, Tryz.ntmps120
    go_wp2_with fail
    refine HZ.out.mono ?_
    rintro e w' ⟨rfl, rfl⟩
    go_wp2_with fail
    refine HZB.out.mono ?_
    rintro e w' ⟨rfl, rfl⟩
    go_wp2_with fail
    refine HT.out.mono ?_
    rintro e w1 ⟨A1, n1, c1, rfl, s1, b1⟩
    go_wp2_with fail
    go_ret
    exact ⟨_, _, _, rfl, s1, b1⟩
  by_cases h11 : sz xs = 1 ∧ sz ys = 1
  · have hva := val_short (Dg_U h.us) (by omega)
    have hvb := val_short (Dg_U h'.us) (by omega)
    have hl1 : 0 < n := by have := sz_le xs; have := h.len; omega
    have hl2 : 0 < n' := by have := sz_le ys; have := h'.len; omega
    obtain ⟨p1, o1, rfl, _, hc1⟩ := h.at_ (k := 0) hl1
    obtain ⟨p2, o2, rfl, _, hc2⟩ := h'.at_ (k := 0) hl2
    have k1 := hc1 0 hl1
    have k2 := hc2 0 hl2
    rw [Nat.add_zero] at k1 k2
    have hg : GW (Nat.gcd (val xs) (val ys)) (xs.getD 0 0) (ys.getD 0 0) := ⟨h.u 0, h'.u 0, by rw [hva, hvb]⟩
    have hgp : 0 < Nat.gcd (val xs) (val ys) := Nat.gcd_pos_of_pos_left _ (Nat.pos_of_ne_zero (fun e => ha (za.1 e)))
    rw [h11.1] at ZA
    rw [h11.2] at ZB
    generalize Nat.gcd (val xs) (val ys) = G at *
    generalize xs.getD 0 0 = x0 at *
    generalize ys.getD 0 0 = y0 at *
    have HZ := Lib.hid ZA
    have HZB := Lib.hid ZB
    have HG := Lib.hid hg
    have HGP := Lib.hid hgp
    clear ZA ZB va vb za zb ha hb hg hgp hva hvb h11 hc1 hc2 h h'
    go_enter Tryz.func120, Tryz.ntmps120
    go_wp2_with fail
    refine HZ.out.mono ?_
    rintro e w' ⟨rfl, rfl⟩
    go_wp2_with fail
    refine HZB.out.mono ?_
    rintro e w' ⟨rfl, rfl⟩
    go_wp2_with fail
    refine HZ.out.mono ?_
    rintro e w' ⟨rfl, rfl⟩
    go_wp2_with fail
    refine HZB.out.mono ?_
    rintro e w' ⟨rfl, rfl⟩
    go_wp2_with fail
    go_region
    go_wp2_with fail
    go_loopw [5, 6] (fun dv rv wr => ∃ (d r : Int), dv = .int .u64 d ∧ rv = .int .u64 r ∧ Hid (GW G d r) ∧ Below w.heap.size w wr) (fun _ rv _ => (intOf rv).toNat)
    case atStart => exact ⟨_, _, rfl, rfl, HG, (Below.refl _ _).drew⟩
    case round =>
      clear HG k1 k2 HZ HZB
      obtain ⟨d, r, rfl, rfl, HG, hb⟩ := hrel
      by_cases hr : r = 0
      · subst hr
        have hd := HG.out.1
        have he := HG.out.end_
        have hw : words G = [d] := by rw [← he]; exact words_single hd (by have := HGP.out; omega)
        have HW := Lib.hid hw
        have HD := Lib.hid hd
        clear hw hd he
        go_wp2_with fail
        go_ret
        exact ⟨_, _, _, rfl, by rw [HW.out]; exact sl_lit _ d HD.out, hb.alloc hb.size _⟩
      · have hrp : 0 < r := by have := HG.out.2.1; unfold U at this; omega
        have hne : (r == 0) = false := by simp [hr]
        obtain ⟨hs1, hs2⟩ := HG.out.step hr
        have HS1 := Lib.hid hs1
        have HS2 := Lib.hid hs2
        clear hs1 hs2
        go_wp2_with fail
        go_region
        go_wp2_with fail
        go_roundw
        case rel => exact ⟨_, _, rfl, rfl, HS1, hb.drew⟩
        case measure => exact HS2.out
  have ha0 : ((sz xs : Int) == 0) = false := by simp; omega
  have hb0 : ((sz ys : Int) == 0) = false := by simp; omega
  have hna : val xs ≠ 0 := fun e => ha (za.1 e)
  have hnb : val ys ≠ 0 := fun e => hb (zb.1 e)
  have EA := fun w1 (hb : Below w.heap.size w w1) => ref_even (h.below hb) (by omega)
  have EB := fun w1 (hb : Below w.heap.size w w1) => ref_even (h'.below hb) (by omega)
  have ta := tz_small va hN
  have tb := tz_small vb hN
  have RA := fun w1 (hb : Below w.heap.size w w1) => ref_shr (h.below hb) (by omega) (tz (val xs) : Nat) (by omega)
  have RB := fun w1 (hb : Below w.heap.size w w1) => ref_shr (h'.below hb) (by omega) (tz (val ys) : Nat) (by omega)
  rw [shr_odd] at RA RB
  have od : Odds (Nat.gcd (odd (val xs)) (odd (val ys))) N (odd (val xs)) (odd (val ys)) := ⟨(odd_eq hna).2, (odd_eq hnb).2, Nat.lt_of_le_of_lt (odd_le _) va, Nat.lt_of_le_of_lt (odd_le _) vb, rfl⟩
  rw [gcd_start hna hnb]
  generalize Nat.gcd (odd (val xs)) (odd (val ys)) = G at *
  generalize odd (val xs) = X0 at *
  generalize odd (val ys) = Y0 at *
  obtain ⟨t1, et1⟩ : ∃ t, tz (val xs) = t := ⟨_, rfl⟩
  obtain ⟨t2, et2⟩ : ∃ t, tz (val ys) = t := ⟨_, rfl⟩
  rw [et1, et2]
  rw [et1] at EA RA ta
  rw [et2] at EB RB tb
  obtain ⟨m, em⟩ : ∃ m, min t1 t2 = m := ⟨_, rfl⟩
  have emi : (t1 ≤ t2 ∧ m = t1) ∨ (t2 < t1 ∧ m = t2) := by omega
  have hm : m ≤ 65536 := by omega
  rw [em]
  have hmm : clampS (m : Int) = m := by rw [clampS_mid (by omega) (by omega)]; omega
  have HEA := Lib.hid EA
  have HEB := Lib.hid EB
  have HRA := Lib.hid RA
  have HRB := Lib.hid RB
  have HOD := Lib.hid od
  have HMM := Lib.hid hmm
  have HZ := Lib.hid ZA
  have HZB := Lib.hid ZB
  clear ZA ZB va vb za zb hna hnb EA EB RA RB od ta tb et1 et2 em h h' hmm
  rcases emi with ⟨hle, rfl⟩ | ⟨hle, rfl⟩
  all_goals
    by_cases h1 : sz xs = 1
    · have hb1 : ((sz ys : Int) == 1) = false := by simp; omega
      rw [h1] at HZ
      generalize ((sz ys : Nat) : Int) = q at *
      clear ha hb h11 h1 ha0
      go_enter Tryz.func120, Tryz.ntmps120
      go_wp2_with fail
      refine HZ.out.mono ?_
      rintro e w' ⟨rfl, rfl⟩
      go_wp2_with fail
      refine HZB.out.mono ?_
      rintro e w' ⟨rfl, rfl⟩
      go_wp2_with fail
      refine HZ.out.mono ?_
      rintro e w' ⟨rfl, rfl⟩
      go_wp2_with fail
      refine HZB.out.mono ?_
      rintro e w' ⟨rfl, rfl⟩
      go_wp2_with fail
      refine (HEA.out _ (Below.refl _ _)).mono ?_
      rintro e w' ⟨rfl, rfl⟩
      go_wp2_with fail
      refine (HEB.out _ (Below.refl _ _)).mono ?_
      rintro e w' ⟨rfl, rfl⟩
      go_wp2_with fail
      refine (HEA.out _ (Below.refl _ _)).mono ?_
      rintro e w' ⟨rfl, rfl⟩
      go_wp2_with fail
      refine (HRA.out _ (Below.refl _ _)).mono ?_
      rintro e w1 ⟨A1, n1, c1, rfl, s1, b1⟩
      go_wp2_with fail
      refine (HEB.out _ b1).mono ?_
      rintro e w' ⟨rfl, rfl⟩
      go_wp2_with fail
      refine (HRB.out _ b1).mono ?_
      rintro e w2 ⟨A2, n2, c2, rfl, s2, b2⟩
      have hb2 := b1.trans (b2.mono b1.size)
      have s1' := s1.below b2
      clear s1 b1 b2 HEA HEB HRA HRB HZ HZB
      go_wp2_with fail
      go_loopw [8, 9] (fun xv yv wr => ∃ (X Y : Nat) (A A' : Option Addr) (n n' c c' : Nat), xv = .slice A n c ∧ yv = .slice A' n' c' ∧ Sl wr A n c (words X) ∧ Sl wr A' n' c' (words Y) ∧ Hid (Odds G N X Y) ∧ Below w.heap.size w wr) (fun xv yv wr => mesV xv wr + mesV yv wr)
      case atStart => exact ⟨_, _, _, _, _, _, _, _, rfl, rfl, s1', s2, HOD, hb2⟩
      case round =>
        clear s1' s2 HOD hb2
        obtain ⟨X, Y, A, A', n, n', c, c', rfl, rfl, sx, sy, HO, hb⟩ := hrel
        have lx : n ≤ N := sx.small HO.out.2.2.1
        have ly : n' ≤ N := sy.small HO.out.2.2.2.1
        have hmx := mesV_val sx
        have hmy := mesV_val sy
        rw [val_words] at hmx hmy
        have CM := ref_cmp sx sy (by omega) (by omega)
        rw [val_words, val_words] at CM
        have HMX := Lib.hid hmx
        have HMY := Lib.hid hmy
        clear hmx hmy
        rcases Nat.lt_trichotomy X Y with hlt | heq | hgt
        · rw [cmpN_lt hlt] at CM
          obtain ⟨ho, hms⟩ := HO.out.swap.less hlt
          have SB := ref_nsub sy sx (by omega) (by omega) (by rw [val_words, val_words]; omega)
          rw [val_words, val_words] at SB
          have hsm : Y - X < W ^ N := Nat.lt_of_le_of_lt (Nat.sub_le _ _) HO.out.2.2.2.1
          have HC := Lib.hid CM
          have HSB := Lib.hid SB
          have HNO := Lib.hid ho
          have HMS := Lib.hid hms
          have HSM := Lib.hid hsm
          clear CM SB ho hms hsm hlt sy
          go_wp2_with fail
          refine HC.out.mono ?_
          rintro e w' ⟨rfl, rfl⟩
          go_wp2_with fail
          refine HSB.out.mono ?_
          rintro e w3 ⟨A3, n3, c3, rfl, s3, b3⟩
          have l3 : n3 ≤ N := s3.small HSM.out
          have hb3 := hb.trans (b3.mono hb.size)
          have sx3 := sx.below b3
          have EV := ref_even s3 (by omega)
          have SR := ref_shr s3 (by omega) (tz (Y - X) : Nat) (by have := tz_small HSM.out hN; omega)
          rw [val_words] at EV SR
          rw [shr_odd] at SR
          generalize ((tz (Y - X) : Nat) : Int) = tt at EV SR
          have HEV := Lib.hid EV
          have HSR := Lib.hid SR
          clear EV SR s3 b3 sx HSB
          go_wp2_with fail
          refine HEV.out.mono ?_
          rintro e w' ⟨rfl, rfl⟩
          go_wp2_with fail
          refine HSR.out.mono ?_
          rintro e w4 ⟨A4, n4, c4, rfl, s4, b4⟩
          have hb4 := hb3.trans (b4.mono hb3.size)
          have sx4 := sx3.below b4
          have m4 := mesV_val s4
          have mx4 := mesV_val sx4
          rw [val_words] at m4 mx4
          have HM4 := Lib.hid m4
          have HMX4 := Lib.hid mx4
          clear m4 mx4 HEV HSR b4 sx3
          go_wp2_with fail
          go_roundw
          case rel => exact ⟨_, _, _, _, _, _, _, _, rfl, rfl, s4, sx4, HNO, hb4⟩
          case measure => rw [HM4.out, HMX4.out, HMX.out, HMY.out]; have := HMS.out; omega
        · subst heq
          rw [cmpN_eq] at CM
          have SL := ref_shl sx (by omega) (m : Int)
          have hG : X = G := by have := HO.out.2.2.2.2; rw [Nat.gcd_self] at this; exact this
          rw [val_words, HMM.out, hG] at SL
          have HC := Lib.hid CM
          have HSL := Lib.hid SL
          clear CM SL hG
          go_wp2_with fail
          refine HC.out.mono ?_
          rintro e w' ⟨rfl, rfl⟩
          go_wp2_with fail
          refine HSL.out.mono ?_
          rintro e w3 ⟨A3, n3, c3, rfl, s3, b3⟩
          go_wp2_with fail
          go_ret
          exact ⟨_, _, _, rfl, s3, hb.trans (b3.mono hb.size)⟩
        · rw [cmpN_gt hgt] at CM
          obtain ⟨ho, hms⟩ := HO.out.less hgt
          have SB := ref_nsub sx sy (by omega) (by omega) (by rw [val_words, val_words]; omega)
          rw [val_words, val_words] at SB
          have hsm : X - Y < W ^ N := Nat.lt_of_le_of_lt (Nat.sub_le _ _) HO.out.2.2.1
          have HC := Lib.hid CM
          have HSB := Lib.hid SB
          have HNO := Lib.hid ho
          have HMS := Lib.hid hms
          have HSM := Lib.hid hsm
          clear CM SB ho hms hsm hgt sx
          go_wp2_with fail
          refine HC.out.mono ?_
          rintro e w' ⟨rfl, rfl⟩
          go_wp2_with fail
          refine HSB.out.mono ?_
          rintro e w3 ⟨A3, n3, c3, rfl, s3, b3⟩
          have l3 : n3 ≤ N := s3.small HSM.out
          have hb3 := hb.trans (b3.mono hb.size)
          have sy3 := sy.below b3
          have EV := ref_even s3 (by omega)
          have SR := ref_shr s3 (by omega) (tz (X - Y) : Nat) (by have := tz_small HSM.out hN; omega)
          rw [val_words] at EV SR
          rw [shr_odd] at SR
          generalize ((tz (X - Y) : Nat) : Int) = tt at EV SR
          have HEV := Lib.hid EV
          have HSR := Lib.hid SR
          clear EV SR s3 b3 sy HSB
          go_wp2_with fail
          refine HEV.out.mono ?_
          rintro e w' ⟨rfl, rfl⟩
          go_wp2_with fail
          refine HSR.out.mono ?_
          rintro e w4 ⟨A4, n4, c4, rfl, s4, b4⟩
          have hb4 := hb3.trans (b4.mono hb3.size)
          have sy4 := sy3.below b4
          have m4 := mesV_val s4
          have my4 := mesV_val sy4
          rw [val_words] at m4 my4
          have HM4 := Lib.hid m4
          have HMY4 := Lib.hid my4
          clear m4 my4 HEV HSR b4 sy3
          go_wp2_with fail
          go_roundw
          case rel => exact ⟨_, _, _, _, _, _, _, _, rfl, rfl, s4, sy4, HNO, hb4⟩
          case measure => rw [HM4.out, HMY4.out, HMX.out, HMY.out]; have := HMS.out; omega
    · have ha1 : ((sz xs : Int) == 1) = false := by simp; omega
      generalize ((sz ys : Nat) : Int) = q at *
      generalize ((sz xs : Nat) : Int) = p at *
      clear ha hb h11 h1
      go_enter Tryz.func120, Tryz.ntmps120
      go_wp2_with fail
      refine HZ.out.mono ?_
      rintro e w' ⟨rfl, rfl⟩
      go_wp2_with fail
      refine HZB.out.mono ?_
      rintro e w' ⟨rfl, rfl⟩
      go_wp2_with fail
      refine HZ.out.mono ?_
      rintro e w' ⟨rfl, rfl⟩
      go_wp2_with fail
      refine (HEA.out _ (Below.refl _ _)).mono ?_
      rintro e w' ⟨rfl, rfl⟩
      go_wp2_with fail
      refine (HEB.out _ (Below.refl _ _)).mono ?_
      rintro e w' ⟨rfl, rfl⟩
      go_wp2_with fail
      refine (HEA.out _ (Below.refl _ _)).mono ?_
      rintro e w' ⟨rfl, rfl⟩
      go_wp2_with fail
      refine (HRA.out _ (Below.refl _ _)).mono ?_
      rintro e w1 ⟨A1, n1, c1, rfl, s1, b1⟩
      go_wp2_with fail
      refine (HEB.out _ b1).mono ?_
      rintro e w' ⟨rfl, rfl⟩
      go_wp2_with fail
      refine (HRB.out _ b1).mono ?_
      rintro e w2 ⟨A2, n2, c2, rfl, s2, b2⟩
      have hb2 := b1.trans (b2.mono b1.size)
      have s1' := s1.below b2
      clear s1 b1 b2 HEA HEB HRA HRB HZ HZB
      go_wp2_with fail
      go_loopw [8, 9] (fun xv yv wr => ∃ (X Y : Nat) (A A' : Option Addr) (n n' c c' : Nat), xv = .slice A n c ∧ yv = .slice A' n' c' ∧ Sl wr A n c (words X) ∧ Sl wr A' n' c' (words Y) ∧ Hid (Odds G N X Y) ∧ Below w.heap.size w wr) (fun xv yv wr => mesV xv wr + mesV yv wr)
      case atStart => exact ⟨_, _, _, _, _, _, _, _, rfl, rfl, s1', s2, HOD, hb2⟩
      case round =>
        clear s1' s2 HOD hb2
        obtain ⟨X, Y, A, A', n, n', c, c', rfl, rfl, sx, sy, HO, hb⟩ := hrel
        have lx : n ≤ N := sx.small HO.out.2.2.1
        have ly : n' ≤ N := sy.small HO.out.2.2.2.1
        have hmx := mesV_val sx
        have hmy := mesV_val sy
        rw [val_words] at hmx hmy
        have CM := ref_cmp sx sy (by omega) (by omega)
        rw [val_words, val_words] at CM
        have HMX := Lib.hid hmx
        have HMY := Lib.hid hmy
        clear hmx hmy
        rcases Nat.lt_trichotomy X Y with hlt | heq | hgt
        · rw [cmpN_lt hlt] at CM
          obtain ⟨ho, hms⟩ := HO.out.swap.less hlt
          have SB := ref_nsub sy sx (by omega) (by omega) (by rw [val_words, val_words]; omega)
          rw [val_words, val_words] at SB
          have hsm : Y - X < W ^ N := Nat.lt_of_le_of_lt (Nat.sub_le _ _) HO.out.2.2.2.1
          have HC := Lib.hid CM
          have HSB := Lib.hid SB
          have HNO := Lib.hid ho
          have HMS := Lib.hid hms
          have HSM := Lib.hid hsm
          clear CM SB ho hms hsm hlt sy
          go_wp2_with fail
          refine HC.out.mono ?_
          rintro e w' ⟨rfl, rfl⟩
          go_wp2_with fail
          refine HSB.out.mono ?_
          rintro e w3 ⟨A3, n3, c3, rfl, s3, b3⟩
          have l3 : n3 ≤ N := s3.small HSM.out
          have hb3 := hb.trans (b3.mono hb.size)
          have sx3 := sx.below b3
          have EV := ref_even s3 (by omega)
          have SR := ref_shr s3 (by omega) (tz (Y - X) : Nat) (by have := tz_small HSM.out hN; omega)
          rw [val_words] at EV SR
          rw [shr_odd] at SR
          generalize ((tz (Y - X) : Nat) : Int) = tt at EV SR
          have HEV := Lib.hid EV
          have HSR := Lib.hid SR
          clear EV SR s3 b3 sx HSB
          go_wp2_with fail
          refine HEV.out.mono ?_
          rintro e w' ⟨rfl, rfl⟩
          go_wp2_with fail
          refine HSR.out.mono ?_
          rintro e w4 ⟨A4, n4, c4, rfl, s4, b4⟩
          have hb4 := hb3.trans (b4.mono hb3.size)
          have sx4 := sx3.below b4
          have m4 := mesV_val s4
          have mx4 := mesV_val sx4
          rw [val_words] at m4 mx4
          have HM4 := Lib.hid m4
          have HMX4 := Lib.hid mx4
          clear m4 mx4 HEV HSR b4 sx3
          go_wp2_with fail
          go_roundw
          case rel => exact ⟨_, _, _, _, _, _, _, _, rfl, rfl, s4, sx4, HNO, hb4⟩
          case measure => rw [HM4.out, HMX4.out, HMX.out, HMY.out]; have := HMS.out; omega
        · subst heq
          rw [cmpN_eq] at CM
          have SL := ref_shl sx (by omega) (m : Int)
          have hG : X = G := by have := HO.out.2.2.2.2; rw [Nat.gcd_self] at this; exact this
          rw [val_words, HMM.out, hG] at SL
          have HC := Lib.hid CM
          have HSL := Lib.hid SL
          clear CM SL hG
          go_wp2_with fail
          refine HC.out.mono ?_
          rintro e w' ⟨rfl, rfl⟩
          go_wp2_with fail
          refine HSL.out.mono ?_
          rintro e w3 ⟨A3, n3, c3, rfl, s3, b3⟩
          go_wp2_with fail
          go_ret
          exact ⟨_, _, _, rfl, s3, hb.trans (b3.mono hb.size)⟩
        · rw [cmpN_gt hgt] at CM
          obtain ⟨ho, hms⟩ := HO.out.less hgt
          have SB := ref_nsub sx sy (by omega) (by omega) (by rw [val_words, val_words]; omega)
          rw [val_words, val_words] at SB
          have hsm : X - Y < W ^ N := Nat.lt_of_le_of_lt (Nat.sub_le _ _) HO.out.2.2.1
          have HC := Lib.hid CM
          have HSB := Lib.hid SB
          have HNO := Lib.hid ho
          have HMS := Lib.hid hms
          have HSM := Lib.hid hsm
          clear CM SB ho hms hsm hgt sx
          go_wp2_with fail
          refine HC.out.mono ?_
          rintro e w' ⟨rfl, rfl⟩
          go_wp2_with fail
          refine HSB.out.mono ?_
          rintro e w3 ⟨A3, n3, c3, rfl, s3, b3⟩
          have l3 : n3 ≤ N := s3.small HSM.out
          have hb3 := hb.trans (b3.mono hb.size)
          have sy3 := sy.below b3
          have EV := ref_even s3 (by omega)
          have SR := ref_shr s3 (by omega) (tz (X - Y) : Nat) (by have := tz_small HSM.out hN; omega)
          rw [val_words] at EV SR
          rw [shr_odd] at SR
          generalize ((tz (X - Y) : Nat) : Int) = tt at EV SR
          have HEV := Lib.hid EV
          have HSR := Lib.hid SR
          clear EV SR s3 b3 sy HSB
          go_wp2_with fail
          refine HEV.out.mono ?_
          rintro e w' ⟨rfl, rfl⟩
          go_wp2_with fail
          refine HSR.out.mono ?_
          rintro e w4 ⟨A4, n4, c4, rfl, s4, b4⟩
          have hb4 := hb3.trans (b4.mono hb3.size)
          have sy4 := sy3.below b4
          have m4 := mesV_val s4
          have my4 := mesV_val sy4
          rw [val_words] at m4 my4
          have HM4 := Lib.hid m4
          have HMY4 := Lib.hid my4
          clear m4 my4 HEV HSR b4 sy3
          go_wp2_with fail
          go_roundw
          case rel => exact ⟨_, _, _, _, _, _, _, _, rfl, rfl, s4, sy4, HNO, hb4⟩
          case measure => rw [HM4.out, HMY4.out, HMX.out, HMY.out]; have := HMS.out; omega

end Go.Proofs.YtibgpeaplmcogaaGreatDoor
