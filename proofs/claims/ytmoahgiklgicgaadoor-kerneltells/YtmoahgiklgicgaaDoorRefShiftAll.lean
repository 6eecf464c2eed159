/-
  The walks of the laws of layer 2: each returns true for any numbers. Conditions: the slices read as lists of words; the integers fit their kind.
-/
import Derived.Test.YtmoahgiklgicgaaDoorNatBitsAll
import Derived.Deep.DeepCutAuto
import Derived.Deep.RegionWith
namespace Go.Proofs.YtmoahgiklgicgaaDoor
set_option maxRecDepth 100000
open Go.RowKit
set_option linter.unusedVariables false
set_option linter.unusedSimpArgs false

theorem Own.addr {t : TypeId} {B : Nat} {w : World} {A : Option Addr} {n c : Nat} {zs : List Int} (h : Own t B w (.slice A n c) zs) (h0 : 0 < zs.length) : ∃ g, A = some ⟨g, 0, none⟩ ∧ B ≤ g := by
  rcases h with ⟨hl, ⟨hv, hn⟩ | ⟨g, cap, cur, hv, hb, _⟩⟩
  · omega
  · injection hv with ha
    exact ⟨g, ha, hb⟩
theorem Own.cell {t : TypeId} {B : Nat} {w : World} {g n c : Nat} {zs : List Int} (h : Own t B w (.slice (some ⟨g, 0, none⟩) n c) zs) {i : Nat} (hi : i < zs.length) : w.cell? ⟨g, i, none⟩ = some (.int .u64 (zs.getD i 0)) := by
  obtain ⟨A', c', e⟩ := own_form h
  injection e with e1 e2 e3
  subst e2
  rw [h.out.cellAt i (by omega)]
  simp [vs, List.getD_eq_getElem?_getD, List.getElem?_eq_getElem hi]
theorem Own.free {t : TypeId} {B : Nat} {w : World} {g n c : Nat} {zs : List Int} (h : Own t B w (.slice (some ⟨g, 0, none⟩) n c) zs) (i : Nat) : w.frozen? ⟨g, i, none⟩ = false := by
  obtain ⟨A', c', e⟩ := own_form h
  injection e with e1 e2 e3
  subst e2
  exact h.out.frozenAt i
theorem Own.set {t : TypeId} {B : Nat} {w : World} {g n c : Nat} {zs : List Int} (h : Own t B w (.slice (some ⟨g, 0, none⟩) n c) zs) (i : Nat) (u : Int) : Own t B (w.setCell ⟨g, i, none⟩ (.int .u64 u)) (.slice (some ⟨g, 0, none⟩) n c) (zs.set i u) := by
  obtain ⟨A', c', e⟩ := own_form h
  injection e with e1 e2 e3
  subst e2
  have := (h.out.stored i (.int .u64 u)).1
  unfold Own
  have ev : vs (zs.set i u) = (vs zs).set i (.int .u64 u) := by unfold vs; rw [List.map_set]
  rw [ev, List.length_set]
  exact this
theorem Own.drew {t : TypeId} {B : Nat} {w : World} {v : Value} {zs : List Int} (h : Own t B w v zs) : Own t B w.drew v zs := h

set_option maxHeartbeats 2000000 in
theorem ref_shl {w : World} {A : Option Addr} {n c : Nat} {xs : List Int} (h : Sl w A n c xs) (hn : n ≤ 1000000) (i : Int) :
    Calls Tryd.prog 61 #[.slice A n c, .int .i64 i] w (RetSl (words (val xs * 2 ^ clampS i)) w) := by
  have hlen := h.len
  have HL := Lib.hid hlen
  clear hlen
  obtain ⟨i0, hi, hz0, hz1, hz2⟩ := info_parts infoW
  obtain ⟨m, hm⟩ : ∃ m, clampS i = m := ⟨_, rfl⟩
  have hm64 := clampS_le i
  rw [hm] at hm64
  rw [hm]
  have HM := Lib.hid hm
  clear hm
  obtain ⟨skip, hskip⟩ : ∃ k, m / 64 = k := ⟨_, rfl⟩
  obtain ⟨s, hs0⟩ : ∃ k, m % 64 = k := ⟨_, rfl⟩
  have hs64 : s < 64 := by omega
  have hsk : skip ≤ 1024 := by omega
  have e1 : (m : Int) / 64 = (skip : Int) := by omega
  have e2 : (m : Int) % 64 = (s : Int) := by omega
  have epow : W ^ skip * 2 ^ s = 2 ^ m := by rw [← hskip, ← hs0]; exact pow_shift m
  have EP := Lib.hid epow
  clear hskip hs0 epow
  go_enter Tryd.func61, Tryd.ntmps61
  go_upto_region 1 with (fail)
  go_cut [1] (fun s1 wx => s1 = .int .i64 m ∧ w = wx)
  case first =>
    by_cases h1 : i < 0
    · go_wp2_with fail
      go_meet
      exact ⟨vint (by have := HM.out; rw [clampS_neg (by omega)] at this; omega), rfl⟩
    · by_cases h2 : i > 65536
      · go_wp2_with fail
        go_meet
        exact ⟨vint (by have := HM.out; rw [clampS_big (by omega)] at this; omega), rfl⟩
      · go_wp2_with fail
        go_meet
        exact ⟨vint (by have := HM.out; rw [clampS_mid (by omega) (by omega)] at this; omega), rfl⟩
  case rest =>
    obtain ⟨rfl, rfl⟩ := hcut
    go_wp2_with fail
    go_loopw [5, 14] (fun v i wr => ∃ (k : Nat) (zs : List Int), k ≤ skip ∧ i = .int .i64 k ∧ Own 22 w.heap.size wr v zs ∧ Below w.heap.size w wr ∧ Hid (zs = List.replicate k 0)) (fun _ i _ => skip - mes i)
    case atStart => exact ⟨0, [], by omega, rfl, Own.nil _ _ _, Below.refl _ _, Lib.hid rfl⟩
    case round =>
      obtain ⟨k, zs, hk, rfl, hown, hb, HZ⟩ := hrel
      have hzl : zs.length ≤ k := by rw [HZ.out]; simp
      by_cases hk2 : k < skip
      · go_wp2_with (at_builtin; refine wpList_append_own _ rfl (.tmp 16) (.tmp 17) 49 rfl w.heap.size 22 i0 (.int .u64 0) 1 8 Tryd.underlying49 hi hz0 hz1 hz2 rfl (by decide) _ _ _ rfl (hown.out.alloc _) ⟨wr.heap.size, 0, none⟩ 1 1 [.int .u64 (0)] rfl rfl ?c1 ?c2 ?c3 ?c4 ?c5 ?_)
        case c1 => exact cell_one_new _ _ _
        case c2 => intro u hu; simp at hu; subst hu; rfl
        case c3 => unfold maxLen; omega
        case c4 => omega
        case c5 => have := hb.size; simp; omega
        intro v' w1 hown' hgrow _
        have hb1 := own_below hb hown hgrow
        have HO := Lib.hid (Own.snoc hown')
        clear hown hown' hgrow
        go_wp2
        go_roundw
        case rel => exact ⟨k + 1, _, by omega, by go_num, HO.out, hb1, Lib.hid (by rw [HZ.out, ← List.replicate_succ'])⟩
        case measure => simp [mes, intOf]; omega
      · obtain rfl : k = skip := by omega
        go_wp2_with fail
        go_loopw [5, 22] (fun v i wr2 => ∃ (j : Nat) (ys : List Int), j ≤ n ∧ i = .int .i64 j ∧ Own 22 w.heap.size wr2 v ys ∧ Below w.heap.size w wr2 ∧ Hid (ys = List.replicate k 0 ++ xs.take j)) (fun _ i _ => n - mes i)
        case atStart => exact ⟨0, zs, by omega, rfl, hown, hb, Lib.hid (by rw [HZ.out]; simp)⟩
        case round =>
          clear hown hb hzl HZ
          obtain ⟨j, ys, hj, rfl, hown, hb, HY⟩ := hrel
          have hyl : ys.length ≤ k + j := by rw [HY.out]; simp [List.length_take]; omega
          by_cases hj2 : j < n
          · obtain ⟨ba, off, rfl, hba, hca⟩ := h.at_ (k := j) (by omega)
            have hac := (hb.cell (p := ⟨ba, off + j, none⟩) hba).trans (hca j (by omega))
            have ht := take_snoc xs j (by have := HL.out; omega)
            obtain ⟨x, hx⟩ : ∃ x, xs.getD j 0 = x := ⟨_, rfl⟩
            rw [hx] at hac ht
            have HT := Lib.hid ht
            clear ht hx hca
            go_wp2_with (at_builtin; refine wpList_append_own _ rfl (.tmp 25) (.tmp 30) 49 rfl w.heap.size 22 i0 (.int .u64 0) 1 8 Tryd.underlying49 hi hz0 hz1 hz2 rfl (by decide) _ _ _ rfl (hown.out.alloc _) ⟨wr.heap.size, 0, none⟩ 1 1 [.int .u64 (x)] rfl rfl ?d1 ?d2 ?d3 ?d4 ?d5 ?_)
            case d1 => exact cell_one_new _ _ _
            case d2 => intro u hu; simp at hu; subst hu; rfl
            case d3 => unfold maxLen; omega
            case d4 => omega
            case d5 => have := hb.size; simp; omega
            intro v' w1 hown' hgrow _
            have hb1 := own_below hb hown hgrow
            have HO := Lib.hid (Own.snoc hown')
            clear hown hown' hgrow hac
            go_wp2
            go_roundw
            case rel => exact ⟨j + 1, _, by omega, by go_num, HO.out, hb1, Lib.hid (by rw [HY.out, HT.out, List.append_assoc])⟩
            case measure => simp [mes, intOf]; omega
          · obtain rfl : j = n := by omega
            have hL : ys = List.replicate k 0 ++ xs := by rw [HY.out, List.take_of_length_le (by have := HL.out; omega)]
            have hdL : Dg W ys := by rw [hL]; exact (Dg.zeros W_pos _).append (Dg_U h.us)
            have hvL : val ys * 2 ^ s = val xs * 2 ^ m := by
              rw [hL, val_zeros_append, ← EP.out, Nat.mul_right_comm, Nat.mul_comm]
            have hlL : ys.length = k + j := by rw [hL]; simp; have := HL.out; omega
            clear HY hL
            have HV := Lib.hid hvL
            have HLL := Lib.hid hlL
            clear hvL hlL
            by_cases hs0 : s = 0
            · subst hs0
              obtain ⟨A2, c2, rfl⟩ := own_form hown
              have R := ref_trim (hown.sl (U_Dg hdL)) (by omega)
              have hv9 := HV.out
              rw [Nat.pow_zero, Nat.mul_one] at hv9
              rw [hv9] at R
              have HR := Lib.hid R
              clear R hown hv9
              go_wp2_with fail
              refine HR.out.mono ?_
              rintro e w' ⟨A3, n3, c3, rfl, s3, b3⟩
              go_wp2_with fail
              go_ret
              exact ⟨_, _, _, rfl, s3, hb.trans (b3.mono hb.size)⟩
            · have hs1 : ((s : Int) == 0) = false := by simp; omega
              go_wp2_with (at_builtin; refine wpList_append_own _ rfl (.tmp 41) (.tmp 42) 49 rfl w.heap.size 22 i0 (.int .u64 0) 1 8 Tryd.underlying49 hi hz0 hz1 hz2 rfl (by decide) _ _ _ rfl (hown.out.alloc _) ⟨wr.heap.size, 0, none⟩ 1 1 [.int .u64 (0)] rfl rfl ?f1 ?f2 ?f3 ?f4 ?f5 ?_)
              case f1 => exact cell_one_new _ _ _
              case f2 => intro u hu; simp at hu; subst hu; rfl
              case f3 => unfold maxLen; omega
              case f4 => omega
              case f5 => have := hb.size; simp; omega
              intro v' w1 hown' hgrow _
              have hb1 := own_below hb hown hgrow
              have hown1 := Own.snoc hown'
              clear hown hown' hgrow hb
              obtain ⟨A2, c2, rfl⟩ := own_form hown1
              obtain ⟨g, rfl, hg⟩ := hown1.addr (by simp)
              obtain ⟨L, hL⟩ : ∃ L, ys ++ [0] = L := ⟨_, rfl⟩
              have hNL : L.length = ys.length + 1 := by rw [← hL]; simp
              have hdL' : Dg W L := by rw [← hL]; exact hdL.snoc (by omega) (by unfold W; omega)
              have hl0 : L.getD ys.length 0 = 0 := by rw [← hL]; simp [List.getD_eq_getElem?_getD]
              have hvL' : val L = val ys := by rw [← hL]; exact val_snoc_zero ys
              rw [hL] at hown1 ⊢
              rw [hNL] at hown1 ⊢
              have hst := shlDown_0 (s := s) hdL' hNL hl0
              generalize hN : ys.length = N at *
              have HN := Lib.hid hN
              have HVL := Lib.hid hvL'
              have HNL := Lib.hid hNL
              clear hL hN hvL' hNL hl0
              go_wp2_with fail
              go_loopw [8] (fun i wr3 => ∃ (p : Nat) (zs : List Int), p ≤ N ∧ i = .int .i64 p ∧ Own 22 w.heap.size wr3 (.slice (some ⟨g, 0, none⟩) (N + 1) c2) zs ∧ Below w.heap.size w wr3 ∧ ShlDown L s p zs) (fun i _ => mes i)
              case atStart => exact ⟨N, L, by omega, rfl, hown1, hb1, hst⟩
              case round =>
                clear hown1 hb1 hst
                obtain ⟨p, zs, hp, rfl, hown, hb, hz⟩ := hrel
                have hzl : zs.length = N + 1 := by rw [hz.1, HNL.out]
                cases p with
                | zero =>
                  have hc0 := hown.cell (i := 0) (by omega)
                  rw [hz.2.2.1 0 (by omega)] at hc0
                  have hf0 := hown.free 0
                  have hux : U (L.getD 0 0) := by have := hdL'.at_ W_pos 0; unfold U; unfold W at this; omega
                  obtain ⟨v, ev, v1, v2, v3⟩ := shl_digit2 hs64 hux U_0
                  have ez : (0 : Int) / 2 ^ (64 - s) = 0 := Int.zero_ediv _
                  have ez' : (0 : Int).toNat / 2 ^ (64 - s) = 0 := by simp
                  rw [ez', Nat.add_zero] at v2
                  have ev2 : IntKind.u64.wrap (L.getD 0 0 * 2 ^ s) = (v : Int) := by
                    rw [← ev, ez]
                    have hw := U_wrap (L.getD 0 0 * 2 ^ s)
                    rw [or_join 0 hw (by simp) (by omega) (by simp) U_0, Int.add_zero]
                  obtain ⟨f1, f2, f3⟩ := shlDown_end hz (by rw [HNL.out]; omega) v1 v2 v3
                  have ho2 := hown.set 0 (v : Int)
                  have hb2 : Below w.heap.size w (wr.setCell ⟨g, 0, none⟩ (.int .u64 (v : Int))) := hb.setCell hg _
                  have R := ref_trim (ho2.sl (U_Dg f2)) (by omega)
                  rw [f1, HVL.out, HV.out] at R
                  generalize L.getD 0 0 = x at *
                  have HR := Lib.hid R
                  have HB2 := Lib.hid hb2
                  clear R ho2 f1 f2 f3 hz hown ev v1 v2 v3 ez ez' hzl hux hb2
                  go_wp2_with fail
                  refine HR.out.mono ?_
                  rintro e w' ⟨A3, n3, c3, rfl, s3, b3⟩
                  go_wp2_with fail
                  go_ret
                  exact ⟨_, _, _, rfl, s3, HB2.out.trans (b3.mono HB2.out.size)⟩
                | succ p =>
                  have hc1 := hown.cell (i := p + 1) (by omega)
                  rw [hz.2.2.1 (p + 1) (by omega)] at hc1
                  have hc0 := hown.cell (i := p) (by omega)
                  rw [hz.2.2.1 p (by omega)] at hc0
                  have hf1 := hown.free (p + 1)
                  have hux : U (L.getD (p + 1) 0) := by have := hdL'.at_ W_pos (p + 1); unfold U; unfold W at this; omega
                  have huy : U (L.getD p 0) := by have := hdL'.at_ W_pos p; unfold U; unfold W at this; omega
                  obtain ⟨v, ev, v1, v2, v3⟩ := shl_digit2 hs64 hux huy
                  have hst := shlDown_step hz (by rw [HNL.out]; omega) v1 v2 v3
                  have ho2 := hown.set (p + 1) (v : Int)
                  generalize L.getD (p + 1) 0 = x at *
                  generalize L.getD p 0 = y at *
                  have HS := Lib.hid hst
                  have HO := Lib.hid ho2
                  have wr1 : IntKind.u64.wrap (64 - (s : Int)) = 64 - (s : Int) := by rw [wrapU_lo, lo_U]; unfold U; omega
                  have wr2 : (64 - (s : Int)).toNat = 64 - s := by omega
                  clear hst ho2 hz hown v1 v2 v3 hzl hux huy
                  go_wp2_with fail
                  go_region
                  go_wp2
                  go_roundw
                  case rel => exact ⟨p, _, by omega, by go_num, HO.out, (hb.setCell hg _).drew, HS.out⟩
                  case measure => exact mes_lt (by omega) (by omega)

set_option maxHeartbeats 2000000 in
theorem ref_shr {w : World} {A : Option Addr} {n c : Nat} {xs : List Int} (h : Sl w A n c xs) (hn : n ≤ 1000000) (i : Int) (hi9 : i ≤ 9223372036854775807) :
    Calls Tryd.prog 60 #[.slice A n c, .int .i64 i] w (RetSl (words (val xs / 2 ^ i.toNat)) w) := by
  have hlen := h.len
  have HL := Lib.hid hlen
  clear hlen
  obtain ⟨i0, hi, hz0, hz1, hz2⟩ := info_parts infoW
  obtain ⟨m, hm⟩ : ∃ m, i.toNat = m := ⟨_, rfl⟩
  have hm64 : m ≤ 9223372036854775807 := by omega
  rw [hm]
  have HM := Lib.hid hm
  clear hm
  obtain ⟨skip, hskip⟩ : ∃ k, m / 64 = k := ⟨_, rfl⟩
  obtain ⟨s, hs0⟩ : ∃ k, m % 64 = k := ⟨_, rfl⟩
  have hs64 : s < 64 := by omega
  have hsk : skip ≤ 144115188075855872 := by omega
  have e1 : (m : Int) / 64 = (skip : Int) := by omega
  have e2 : (m : Int) % 64 = (s : Int) := by omega
  have epow : val (xs.drop skip) / 2 ^ s = val xs / 2 ^ m := by rw [← hskip, ← hs0]; exact val_drop_div (Dg_U h.us) m
  have EP := Lib.hid epow
  clear hskip hs0 epow
  go_enter Tryd.func60, Tryd.ntmps60
  go_upto_region 1 with (fail)
  go_cut [1] (fun s1 wx => s1 = .int .i64 m ∧ w = wx)
  case first =>
    by_cases h1 : i < 0
    · go_wp2_with fail
      go_meet
      exact ⟨vint (by have := HM.out; omega), rfl⟩
    · go_wp2_with fail
      go_meet
      exact ⟨vint (by have := HM.out; omega), rfl⟩
  case rest =>
    obtain ⟨rfl, rfl⟩ := hcut
    go_wp2_with fail
    go_loopw [5, 6] (fun v i wr => ∃ (k : Nat) (zs : List Int), k ≤ n - skip ∧ i = .int .i64 ((skip : Int) + k) ∧ Own 22 w.heap.size wr v zs ∧ Below w.heap.size w wr ∧ Hid (zs = (xs.drop skip).take k)) (fun _ i _ => n - mes i)
    case atStart => exact ⟨0, [], by omega, vint (by omega), Own.nil _ _ _, Below.refl _ _, Lib.hid (by simp)⟩
    case round =>
      obtain ⟨k, zs, hk, rfl, hown, hb, HZ⟩ := hrel
      have hzl : zs.length ≤ k := by rw [HZ.out, List.length_take]; omega
      by_cases hk2 : skip + k < n
      · obtain ⟨ba, off, rfl, hba, hca⟩ := h.at_ (k := skip + k) (by omega)
        have hac := (hb.cell (p := ⟨ba, off + (skip + k), none⟩) hba).trans (hca (skip + k) (by omega))
        have ht := take_snoc (xs.drop skip) k (by rw [List.length_drop]; have := HL.out; omega)
        have hgd : (xs.drop skip).getD k 0 = xs.getD (skip + k) 0 := by simp [List.getD_eq_getElem?_getD, List.getElem?_drop]
        rw [hgd] at ht
        obtain ⟨x, hx⟩ : ∃ x, xs.getD (skip + k) 0 = x := ⟨_, rfl⟩
        rw [hx] at hac ht
        have HT := Lib.hid ht
        have hkn : (skip : Int) + k < n := by omega
        have htn : ((skip : Int) + k).toNat = skip + k := by omega
        clear ht hx hca hgd
        go_wp2_with (at_builtin; refine wpList_append_own _ rfl (.tmp 19) (.tmp 24) 49 rfl w.heap.size 22 i0 (.int .u64 0) 1 8 Tryd.underlying49 hi hz0 hz1 hz2 rfl (by decide) _ _ _ rfl (hown.out.alloc _) ⟨wr.heap.size, 0, none⟩ 1 1 [.int .u64 (x)] rfl rfl ?c1 ?c2 ?c3 ?c4 ?c5 ?_)
        case c1 => exact cell_one_new _ _ _
        case c2 => intro u hu; simp at hu; subst hu; rfl
        case c3 => unfold maxLen; omega
        case c4 => omega
        case c5 => have := hb.size; simp; omega
        intro v' w1 hown' hgrow _
        have hb1 := own_below hb hown hgrow
        have HO := Lib.hid (Own.snoc hown')
        clear hown hown' hgrow hac
        go_wp2
        go_roundw
        case rel => exact ⟨k + 1, _, by omega, by go_num, HO.out, hb1, Lib.hid (by rw [HZ.out, HT.out])⟩
        case measure => simp [mes, intOf]; omega
      · have hk3 : k = n - skip := by omega
        have hL : zs = xs.drop skip := by rw [HZ.out, List.take_of_length_le (by rw [List.length_drop]; have := HL.out; omega)]
        have hdL : Dg W zs := by rw [hL]; exact (Dg_U h.us).drop skip
        have hvL : val zs / 2 ^ s = val xs / 2 ^ m := by rw [hL]; exact EP.out
        have HV := Lib.hid hvL
        have hkn : (n : Int) ≤ (skip : Int) + k := by omega
        have hdec : decide ((skip : Int) + (k : Int) < (n : Int)) = false := by simp; omega
        have hzl2 : zs.length ≤ n := by omega
        clear HZ hL hvL hk3
        obtain ⟨A2, c2, rfl⟩ := own_form hown
        by_cases hs0 : s = 0
        · subst hs0
          have R := ref_trim (hown.sl (U_Dg hdL)) (by omega)
          have hv9 := HV.out
          rw [Nat.pow_zero, Nat.div_one] at hv9
          rw [hv9] at R
          have HR := Lib.hid R
          clear R hown hv9
          go_wp2_with fail
          refine HR.out.mono ?_
          rintro e w' ⟨A3, n3, c3, rfl, s3, b3⟩
          go_wp2_with fail
          go_ret
          exact ⟨_, _, _, rfl, s3, hb.trans (b3.mono hb.size)⟩
        · have hs1 : ((s : Int) == 0) = false := by simp; omega
          obtain ⟨L, hL⟩ : ∃ L, zs = L := ⟨_, rfl⟩
          have hst := shrUp_0 s hdL
          rw [hL] at hown hdL hst HV hzl hzl2 ⊢
          obtain ⟨N, hN⟩ : ∃ N, L.length = N := ⟨_, rfl⟩
          rw [hN] at hown hzl hzl2 ⊢
          have HN := Lib.hid hN
          clear hL hN
          go_wp2_with fail
          go_loopw [36] (fun i wr3 => ∃ (p : Nat) (ys : List Int), p ≤ N ∧ i = .int .i64 p ∧ Own 22 w.heap.size wr3 (.slice A2 N c2) ys ∧ Below w.heap.size w wr3 ∧ ShrUp L s p ys) (fun i _ => N - mes i)
          case atStart => exact ⟨0, L, by omega, rfl, hown, hb, hst⟩
          case round =>
            clear hown hb hst
            obtain ⟨p, ys, hp, rfl, hown, hb, hz⟩ := hrel
            have hyl : ys.length = N := by rw [hz.1, HN.out]
            by_cases hp2 : p < N
            · obtain ⟨g, rfl, hg⟩ := hown.addr (by omega)
              have hc0 := hown.cell (i := p) (by omega)
              rw [hz.2.2.1 p (by omega)] at hc0
              have hf0 := hown.free p
              have hux : U (L.getD p 0) := by have := hdL.at_ W_pos p; unfold U; unfold W at this; omega
              have huy : U (L.getD (p + 1) 0) := by have := hdL.at_ W_pos (p + 1); unfold U; unfold W at this; omega
              obtain ⟨v, ev, v1, v2⟩ := shr_digit hs64 hux huy
              have hst := shrUp_step hs64 hdL hz (by rw [HN.out]; omega) v1 v2
              have ho2 := hown.set p (v : Int)
              have hst0 : p + 1 < N → wr.cell? ⟨g, p + 1, none⟩ = some (.int .u64 (L.getD (p + 1) 0)) := fun h9 => by
                have := hown.cell (i := p + 1) (by omega)
                rw [hz.2.2.1 (p + 1) (by omega)] at this
                exact this
              have hnone : N ≤ p + 1 → L.getD (p + 1) 0 = 0 := fun h9 => by rw [List.getD_eq_getElem?_getD, List.getElem?_eq_none (by rw [HN.out]; omega)]; rfl
              generalize L.getD p 0 = x at *
              generalize L.getD (p + 1) 0 = y at *
              have HS := Lib.hid hst
              have HO := Lib.hid ho2
              have wr1 : IntKind.u64.wrap (64 - (s : Int)) = 64 - (s : Int) := by rw [wrapU_lo, lo_U]; unfold U; omega
              have wr2 : (64 - (s : Int)).toNat = 64 - s := by omega
              by_cases hp3 : p + 1 < N
              · have hc1 := hst0 hp3
                have hp4 : (p : Int) + 1 < N := by omega
                have ho3 := (hown.set p (x / 2 ^ s)).set p (v : Int)
                rw [List.set_set] at ho3
                have HO3 := Lib.hid ho3
                clear hst ho2 hz hown v1 v2 hyl hux huy hst0 hnone ho3 HO
                go_wp2_with fail
                go_region
                go_wp2
                go_roundw
                case rel => exact ⟨p + 1, _, by omega, by go_num, HO3.out, (((hb.setCell hg _).setCell hg _).drew), HS.out⟩
                case measure => simp [mes, intOf]; omega
              · have hy := hnone (by omega)
                subst hy
                have hp4 : (N : Int) ≤ (p : Int) + 1 := by omega
                have evx : x / 2 ^ s = (v : Int) := by
                  rw [v2, show (0 : Int).toNat % 2 ^ s = 0 by simp, Nat.mul_zero, Nat.add_zero, ← cast_shr, Int.toNat_of_nonneg hux.1]
                clear hst ho2 hz hown v1 v2 hyl hux huy hst0 hnone ev wr1 wr2
                go_wp2_with fail
                go_roundw
                case rel => exact ⟨p + 1, _, by omega, by go_num, HO.out, hb.setCell hg _, HS.out⟩
                case measure => simp [mes, intOf]; omega
            · obtain rfl : p = N := by omega
              have f1 : val ys = val L / 2 ^ s := shrUp_end (by rw [HN.out]; exact hz)
              have f2 : Dg W ys := hz.2.1
              have R := ref_trim (hown.sl (U_Dg f2)) (by omega)
              rw [f1, HV.out] at R
              have HR := Lib.hid R
              clear R f1 f2 hz hown hyl
              go_wp2_with fail
              refine HR.out.mono ?_
              rintro e w' ⟨A3, n3, c3, rfl, s3, b3⟩
              go_wp2_with fail
              go_ret
              exact ⟨_, _, _, rfl, s3, hb.trans (b3.mono hb.size)⟩

end Go.Proofs.YtmoahgiklgicgaaDoor

namespace Go.Proofs.YtmoahgiklgicgaaDoor
set_option maxRecDepth 100000
open Go.RowKit
set_option linter.unusedVariables false
set_option linter.unusedSimpArgs false

/-- a call that returns a slice that reads as xs, and a bool, and turns nothing that was there -/
def RetSlB (xs : List Int) (b : Bool) (w : World) (e : Ending) (w' : World) : Prop := ∃ A n c, e = .returned (.tuple #[.slice A n c, .bool b]) ∧ Sl w' A n c xs ∧ Below w.heap.size w w'

/-- .. in new memory -/
def RetSlBN (xs : List Int) (b : Bool) (w : World) (e : Ending) (w' : World) : Prop := ∃ A n c, e = .returned (.tuple #[.slice A n c, .bool b]) ∧ Sl w' A n c xs ∧ Below w.heap.size w w' ∧ New w A

end Go.Proofs.YtmoahgiklgicgaaDoor

namespace Go.Proofs.YtmoahgiklgicgaaDoor
set_option maxRecDepth 100000
open Go.RowKit
set_option linter.unusedVariables false
set_option linter.unusedSimpArgs false

theorem sizeW : (Tryd.prog.info? 22).map (·.size) = some 1 := by kernel_rfl
theorem splice_all (ys cs : List Value) (h : cs.length = ys.length) : splice ys 0 cs = cs := by
  unfold splice; simp [h]

end Go.Proofs.YtmoahgiklgicgaaDoor

namespace Go.Proofs.YtmoahgiklgicgaaDoor
set_option maxRecDepth 100000
open Go.RowKit
set_option linter.unusedVariables false
set_option linter.unusedSimpArgs false

end Go.Proofs.YtmoahgiklgicgaaDoor

namespace Go.Proofs.YtmoahgiklgicgaaDoor
set_option maxRecDepth 100000
open Go.RowKit
set_option linter.unusedVariables false
set_option linter.unusedSimpArgs false

theorem quiet_eq {P : Program} {f : FuncId} {args : Array Value} {w : World} {n : Nat} {v : Value} (h : Calls P f args (w.drewN n) fun e w' => e = .returned v ∧ w.drewN n = w') :
    Calls P f args (w.drewN n) fun e w' => e = .returned v ∧ ∃ m, w' = w.drewN m := h.mono fun _ _ ⟨he, hw⟩ => ⟨he, n, hw.symm⟩
theorem wd_Dg {b : Nat} (hb : 0 < b) {xs : List Int} (h : Dg b xs) (k : Nat) : 0 ≤ wd xs k ∧ wd xs k < b := by rw [wd_nat]; exact h.at_ hb k

set_option maxHeartbeats 1000000 in
theorem ref_nadd {w : World} {A A' : Option Addr} {n n' c c' : Nat} {xs ys : List Int} (h : Sl w A n c xs) (h' : Sl w A' n' c' ys) (hn : n ≤ 1000000) (hn' : n' ≤ 1000000) :
    Calls Tryd.prog 79 #[.slice A n c, .slice A' n' c'] w (RetSl (words (val xs + val ys)) w) := by
  have hl1 := hwords_len (Dg_U h.us) rfl
  have hl2 := hwords_len (Dg_U h'.us) rfl
  have en := h.len
  have en' := h'.len
  have dx := hwords_Dg (val xs)
  have dy := hwords_Dg (val ys)
  have vx := valH_hwords (val xs)
  have vy := valH_hwords (val ys)
  have R1 := ref_halves h (by omega)
  have R2 := fun w1 (hb : Below w.heap.size w w1) => ref_halves (h'.below hb) (by omega)
  generalize hwords (val xs) = X at *
  generalize hwords (val ys) = Y at *
  generalize val xs = a at *
  generalize val ys = b at *
  subst vx vy
  have hX : X.length ≤ 2000000 := by omega
  have hY : Y.length ≤ 2000000 := by omega
  have HR1 := Lib.hid R1
  have HR2 := Lib.hid R2
  clear R1 R2 hl1 hl2 en en'
  obtain ⟨i0, hi, hz0, hz1, hz2⟩ := info_parts infoW
  go_enter Tryd.func79, Tryd.ntmps79
  go_wp2_with fail
  refine HR1.out.mono ?_
  rintro e w1 ⟨A1, n1, c1, rfl, s1, b1⟩
  go_wp2_with fail
  refine (HR2.out w1 b1).mono ?_
  rintro e w2 ⟨A2, n2, c2, rfl, s2, b2⟩
  have s1' := s1.below b2
  have bw : Below w.heap.size w w2 := b1.trans (b2.mono b1.size)
  have l1 : n1 ≤ 2000000 := by rw [s1.len]; exact hX
  have l2 : n2 ≤ 2000000 := by rw [s2.len]; exact hY
  obtain ⟨M, hM⟩ : ∃ M, M = max n1 n2 := ⟨_, rfl⟩
  have hM1 : n1 ≤ M := by omega
  have hM2 : n2 ≤ M := by omega
  have hM3 : M ≤ 2000000 := by omega
  have HM := Lib.hid hM
  have HX := Lib.hid s1.len
  have HY := Lib.hid s2.len
  clear HR1 HR2 s1 b1 b2 h h' hM hX hY
  go_upto_region 4 with (fail)
  go_cut [19, 20] (fun s19 s20 wx => s19 = .int .i64 ((M : Int) + 1) ∧ s20 = .int .i64 0 ∧ w2 = wx)
  case first =>
    by_cases hc : n1 < n2
    · go_wp2_with fail
      go_meet
      exact ⟨vint (by have := HM.out; omega), rfl, rfl⟩
    · go_wp2_with fail
      go_meet
      exact ⟨vint (by have := HM.out; omega), rfl, rfl⟩
  case rest =>
    obtain ⟨rfl, rfl, rfl⟩ := hcut
    go_wp2_with fail
    go_loopw [7, 8, 20] (fun v cv i wr => ∃ (k : Nat) (cy : Int) (zs : List Int), k ≤ M + 1 ∧ i = .int .i64 k ∧ cv = .int .u64 cy ∧ Own 22 w2.heap.size wr v zs ∧ Below w2.heap.size w2 wr ∧ HAddInv X Y k cy zs) (fun _ _ i _ => M + 1 - mes i)
    case atStart => exact ⟨0, 0, [], by omega, rfl, rfl, Own.nil _ _ _, Below.refl _ _, hAddInv_0 X Y⟩
    case round =>
      obtain ⟨k, cy, zs, hk, rfl, rfl, hown, hb, hz⟩ := hrel
      have hzl : zs.length ≤ k := Nat.le_of_eq hz.1
      by_cases hk2 : k < M + 1
      · have g1 := ref_at (s1'.below hb) (by omega) (k : Int) (by omega)
        have g2 := ref_at (s2.below hb) (by omega) (k : Int) (by omega)
        have hst := hAddInv_step dx dy hz
        have hc1 := hz.2.2.1.1
        have hc2 := hz.2.2.1.2
        have q1 := wd_Dg H_pos dx k
        have q2 := wd_Dg H_pos dy k
        rw [← wd_nat, ← wd_nat] at hst
        generalize wd X k = x at *
        generalize wd Y k = y at *
        unfold H at q1 q2
        obtain ⟨q1a, q1b⟩ := q1
        obtain ⟨q2a, q2b⟩ := q2
        have q1c : x < 4294967296 := by omega
        have q2c : y < 4294967296 := by omega
        have ea : bits BinOp.and IntKind.u64 (cy + x + y) 4294967295 = (cy + x + y) % 4294967296 := and32 (by unfold U; omega)
        have G1 := Lib.hid g1
        have G2 := Lib.hid g2
        have HS := Lib.hid hst
        have hk3 : (k : Int) < (M : Int) + 1 := by omega
        clear g1 g2 hst hz q1b q2b
        go_wp2_with fail
        refine G1.out.mono ?_
        rintro e w' ⟨rfl, rfl⟩
        go_wp2_with fail
        refine G2.out.mono ?_
        rintro e w' ⟨rfl, rfl⟩
        go_wp2_with (at_builtin; refine wpList_append_own _ rfl (.tmp 32) (.tmp 35) 49 rfl w2.heap.size 22 i0 (.int .u64 0) 1 8 Tryd.underlying49 hi hz0 hz1 hz2 rfl (by decide) _ _ _ rfl (hown.out.alloc _) ⟨wr.heap.size, 0, none⟩ 1 1 [.int .u64 ((cy + x + y) % 4294967296)] rfl rfl ?c1 ?c2 ?c3 ?c4 ?c5 ?_)
        case c1 => exact cell_one_new _ _ _
        case c2 => intro u hu; simp at hu; subst hu; rfl
        case c3 => unfold maxLen; omega
        case c4 => omega
        case c5 => have := hb.size; simp; omega
        intro v' w3 hown' hgrow _
        have hb1 := own_below hb hown hgrow
        have HO := Lib.hid (Own.snoc hown')
        clear hown hown' hgrow
        go_wp2
        go_roundw
        case rel => exact ⟨k + 1, _, _, by omega, by go_num, rfl, HO.out, hb1, HS.out⟩
        case measure => simp [mes, intOf]; omega
      · obtain rfl : k = M + 1 := by omega
        obtain ⟨A3, c3, rfl⟩ := own_form hown
        have hdz : Dg H zs := hz.2.1
        have hv := hAddInv_end (k := 0) dx dy hz (by rw [← HX.out]; exact hM1) (by rw [← HY.out]; exact hM2)
        have hsl := hown.sl (U_Dg (hdz.mono H_le_W))
        have R := ref_whole hsl hdz (by omega)
        rw [hv] at R
        have HR := Lib.hid R
        clear R hsl hown hz hv
        go_wp2_with fail
        refine HR.out.mono ?_
        rintro e w' ⟨A4, n4, c4, rfl, s4, b4⟩
        go_wp2_with fail
        go_ret
        exact ⟨_, _, _, rfl, s4, bw.trans ((hb.trans (b4.mono hb.size)).mono bw.size)⟩

set_option maxHeartbeats 1000000 in
theorem ref_nsub {w : World} {A A' : Option Addr} {n n' c c' : Nat} {xs ys : List Int} (h : Sl w A n c xs) (h' : Sl w A' n' c' ys) (hn : n ≤ 1000000) (hn' : n' ≤ 1000000) (hle : val ys ≤ val xs) :
    Calls Tryd.prog 63 #[.slice A n c, .slice A' n' c'] w (RetSl (words (val xs - val ys)) w) := by
  have hl1 := hwords_len (Dg_U h.us) rfl
  have hl2 := hwords_len (Dg_U h'.us) rfl
  have en := h.len
  have en' := h'.len
  have dx := hwords_Dg (val xs)
  have dy := hwords_Dg (val ys)
  have vx := valH_hwords (val xs)
  have vy := valH_hwords (val ys)
  have R1 := ref_halves h (by omega)
  have R2 := fun w1 (hb : Below w.heap.size w w1) => ref_halves (h'.below hb) (by omega)
  generalize hwords (val xs) = X at *
  generalize hwords (val ys) = Y at *
  generalize val xs = a at *
  generalize val ys = b at *
  subst vx vy
  have hX : X.length ≤ 2000000 := by omega
  have hY : Y.length ≤ 2000000 := by omega
  have HR1 := Lib.hid R1
  have HR2 := Lib.hid R2
  have HLE := Lib.hid hle
  clear R1 R2 hl1 hl2 en en' hle
  obtain ⟨i0, hi, hz0, hz1, hz2⟩ := info_parts infoW
  go_enter Tryd.func63, Tryd.ntmps63
  go_wp2_with fail
  refine HR1.out.mono ?_
  rintro e w1 ⟨A1, n1, c1, rfl, s1, b1⟩
  go_wp2_with fail
  refine (HR2.out w1 b1).mono ?_
  rintro e w2 ⟨A2, n2, c2, rfl, s2, b2⟩
  have s1' := s1.below b2
  have bw : Below w.heap.size w w2 := b1.trans (b2.mono b1.size)
  have l1 : n1 ≤ 2000000 := by rw [s1.len]; exact hX
  have l2 : n2 ≤ 2000000 := by rw [s2.len]; exact hY
  have HX := Lib.hid s1.len
  clear HR1 HR2 s1 b1 b2 h h' hX hY
  go_wp2_with fail
  go_loopw [7, 8, 17] (fun v cv i wr => ∃ (k : Nat) (cy : Int) (zs : List Int), k ≤ n1 ∧ i = .int .i64 k ∧ cv = .int .u64 cy ∧ Own 22 w2.heap.size wr v zs ∧ Below w2.heap.size w2 wr ∧ HSubInv X Y k cy zs) (fun _ _ i _ => n1 - mes i)
  case atStart => exact ⟨0, 0, [], by omega, rfl, rfl, Own.nil _ _ _, Below.refl _ _, hSubInv_0 X Y⟩
  case round =>
    obtain ⟨k, cy, zs, hk, rfl, rfl, hown, hb, hz⟩ := hrel
    have hzl : zs.length ≤ k := Nat.le_of_eq hz.1
    by_cases hk2 : k < n1
    · obtain ⟨ba, off, rfl, hba, hca⟩ := s1'.at_ (k := k) (by omega)
      have hac := (hb.cell (p := ⟨ba, off + k, none⟩) hba).trans (hca k (by omega))
      have g2 := fun W1 (hW : Sl W1 A2 n2 c2 Y) => ref_at hW (by omega) (k : Int) (by omega)
      have hst := hSubInv_step dx dy hz
      have hc1 := hz.2.2.1.1
      have hc2 := hz.2.2.1.2
      have q1 := wd_Dg H_pos dx k
      have q2 := wd_Dg H_pos dy k
      rw [← wd_nat, ← wd_nat] at hst
      rw [← wd_nat] at hac
      generalize wd X k = x at *
      generalize wd Y k = y at *
      unfold H at q1 q2
      obtain ⟨q1a, q1b⟩ := q1
      obtain ⟨q2a, q2b⟩ := q2
      have q1c : x < 4294967296 := by omega
      have q2c : y < 4294967296 := by omega
      obtain ⟨D, eD⟩ : ∃ D, 4294967296 + x - y - cy = D := ⟨_, rfl⟩
      rw [eD] at hst
      have hD0 : 0 ≤ D := by omega
      have hD1 : D < 8589934592 := by omega
      have ea : bits BinOp.and IntKind.u64 D 4294967295 = D % 4294967296 := and32 (by unfold U; omega)
      have k1 : IntKind.u64.wrap (4294967296 + x) = 4294967296 + x := by rw [wrapU_lo, lo_U]; unfold U; omega
      have k2 : IntKind.u64.wrap (4294967296 + x - y) = 4294967296 + x - y := by rw [wrapU_lo, lo_U]; unfold U; omega
      have k3 : IntKind.u64.wrap (4294967296 + x - y - cy) = D := by rw [wrapU_lo, lo_U, eD]; unfold U; omega
      have k4 : 4294967296 + x - y - cy = D := eD
      have hD2 : 0 ≤ 1 - D / 4294967296 := by omega
      have hD3 : 1 - D / 4294967296 ≤ 1 := by omega
      have HSL := Lib.hid (s2.below hb)
      have G2 := Lib.hid g2
      have HS := Lib.hid hst
      have hk3 : (k : Int) < (n1 : Int) := by omega
      clear g2 hst hz q1b q2b hca eD
      go_wp2_with fail
      go_quiet ((go_at_call 84; exact quiet_eq (G2.out _ (by exact HSL.out))))
      have ho2 : Own 22 w2.heap.size (wr.drewN nq) u7 zs := hown
      have hb2 : Below w2.heap.size w2 (wr.drewN nq) := Below.drewN' hb nq
      clear k1 k2 k3 k4 hown hb hac HSL G2
      generalize wr.drewN nq = wq at ho2 hb2 ⊢
      go_wp2_with (at_builtin; refine wpList_append_own _ rfl (.tmp 31) (.tmp 34) 49 rfl w2.heap.size 22 i0 (.int .u64 0) 1 8 Tryd.underlying49 hi hz0 hz1 hz2 rfl (by decide) _ _ _ rfl (ho2.out.alloc _) ⟨wq.heap.size, 0, none⟩ 1 1 [.int .u64 (D % 4294967296)] rfl rfl ?c1 ?c2 ?c3 ?c4 ?c5 ?_)
      case c1 => exact cell_one_new _ _ _
      case c2 => intro u hu; simp at hu; subst hu; rfl
      case c3 => unfold maxLen; omega
      case c4 => omega
      case c5 => have := hb2.size; simp; omega
      intro v' w3 hown' hgrow _
      have hb1 := own_below hb2 ho2 hgrow
      have HO := Lib.hid (Own.snoc hown')
      clear ho2 hown' hgrow
      go_wp2
      go_roundw
      case rel => exact ⟨k + 1, _, _, by omega, by go_num, rfl, HO.out, hb1, HS.out⟩
      case measure => simp [mes, intOf]; omega
    · obtain rfl : k = n1 := by omega
      obtain ⟨A3, c3, rfl⟩ := own_form hown
      have hdz : Dg H zs := hz.2.1
      have hv := hSubInv_end dx dy hz HX.out.symm HLE.out
      have hsl := hown.sl (U_Dg (hdz.mono H_le_W))
      have R := ref_whole hsl hdz (by omega)
      rw [hv] at R
      have HR := Lib.hid R
      clear R hsl hown hz hv
      go_wp2_with fail
      refine HR.out.mono ?_
      rintro e w' ⟨A4, n4, c4, rfl, s4, b4⟩
      go_wp2_with fail
      go_ret
      exact ⟨_, _, _, rfl, s4, bw.trans ((hb.trans (b4.mono hb.size)).mono bw.size)⟩

end Go.Proofs.YtmoahgiklgicgaaDoor

namespace Go.Proofs.YtmoahgiklgicgaaDoor
set_option maxRecDepth 100000
open Go.RowKit
set_option linter.unusedVariables false
set_option linter.unusedSimpArgs false

theorem words_carry : words (val [18446744073709551615] + val [1]) = [0, 1] := by
  have e : val [18446744073709551615] + val [1] = val [0, 1] := by decide
  rw [e, words_val (by intro x hx; simp at hx; rcases hx with rfl | rfl <;> (unfold W; omega))]
  decide
theorem sl_lit (w : World) (x : Int) (hx : U x) : Sl (w.alloc (.cells #[.int .u64 x] 22)) (some ⟨w.heap.size, 0, none⟩) 1 1 [x] :=
  (Row.lit w 22 [x]).sl (by intro y hy; simp at hy; subst hy; exact hx) (by simp)
theorem below_alloc (w : World) (o : Obj) : Below w.heap.size w (w.alloc o) := (Below.refl _ _).alloc (Nat.le_refl _) _

theorem bits_carry : blen (val [0, 1]) = 65 := by decide
theorem even_twelve : tz (val [12]) = 2 := by decide

theorem val_lt_pow {xs : List Int} (h : ∀ x ∈ xs, U x) {k : Nat} (hk : xs.length ≤ k) : val xs < W ^ k :=
  Nat.lt_of_lt_of_le (valB_lt (Dg_U h)) (Nat.pow_le_pow_right W_pos hk)
theorem add_lt_pow {a b k : Nat} (ha : a < W ^ k) (hb : b < W ^ k) : a + b < W ^ (k + 1) := by
  have : W ^ k * 2 ≤ W ^ k * W := Nat.mul_le_mul_left _ two_le_W
  rw [Nat.pow_succ]
  omega
theorem lt_pow_mono {a k l : Nat} (ha : a < W ^ k) (h : k ≤ l) : a < W ^ l := Nat.lt_of_lt_of_le ha (Nat.pow_le_pow_right W_pos h)
theorem Sl.small {w : World} {A : Option Addr} {n c v k : Nat} (h : Sl w A n c (words v)) (hv : v < W ^ k) : n ≤ k := by
  rw [h.len]; exact words_length v k hv

end Go.Proofs.YtmoahgiklgicgaaDoor
