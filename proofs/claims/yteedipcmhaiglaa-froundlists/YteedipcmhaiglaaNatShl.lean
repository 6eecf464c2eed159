/-
  What nat.Shl and nat.Shr return: the number times, or divided by, a power of two, normalized. Conditions: the slice reads as a list of words, of at most 10^8 words.
-/
import Derived.Test.YteedipcmhaiglaaNatMake
import Derived.Deep.DeepCutAuto
import Derived.Deep.RegionWith
namespace Go.Proofs.Yteedipcmhaiglaa
set_option maxRecDepth 100000
open Go.RowKit
set_option linter.unusedVariables false
set_option linter.unusedSimpArgs false

set_option maxHeartbeats 1000000 in
theorem nat_shl {w : World} {A : Option Addr} {n c : Nat} {xs : List Int} (h : Sl w A n c xs) (hn : n ≤ 100000000) (i : Int) :
    Calls Try.prog 59 #[.slice A n c, .int .i64 i] w (RetSl (words (val xs * 2 ^ clampS i)) w) := by
  have hs : sz xs ≤ n := by rw [h.len]; exact sz_le xs
  have S1 := nat_size h (by omega)
  generalize hp : sz xs = K at S1 hs
  have HP := Lib.hid hp
  have T1 := Lib.hid S1
  clear hp S1
  obtain ⟨m, hm⟩ : ∃ m, clampS i = m := ⟨_, rfl⟩
  have hm64 := clampS_le i
  rw [hm] at hm64
  rw [hm]
  have HM := Lib.hid hm
  clear hm
  obtain ⟨skip, hskip⟩ : ∃ k, m / 64 = k := ⟨_, rfl⟩
  obtain ⟨s, hs0⟩ : ∃ k, m % 64 = k := ⟨_, rfl⟩
  have hs64 : s < 64 := by omega
  have hsk : skip ≤ 1024 := by omega
  have e1 : (m : Int) / 64 = (skip : Int) := by omega
  have e2 : (m : Int) % 64 = (s : Int) := by omega
  have E3 := Lib.hid hskip
  have E4 := Lib.hid hs0
  clear hskip hs0
  have hmk := run_make_row' (P := Try.prog) 37 22 (.int .u64 0) 8 Try.underlying37 infoW rfl .i64 .i64 (K + skip + 1) (by omega) (by omega)
  rw [show ((K + skip + 1 : Nat) : Int) = (K : Int) + (skip : Int) + 1 by omega] at hmk
  go_enter Try.func59, Try.ntmps59
  go_upto_region 1 with (fail)
  go_cut [1] (fun s1 wx => s1 = .int .i64 m ∧ w = wx)
  case first =>
    by_cases h1 : i < 0
    · go_wp2_with fail
      go_meet
      exact ⟨vint (by have := HM.out; rw [clampS_neg (by omega)] at this; omega), rfl⟩
    · by_cases h2 : i > 65536
      · go_wp2_with fail
        go_meet
        exact ⟨vint (by have := HM.out; rw [clampS_big (by omega)] at this; omega), rfl⟩
      · go_wp2_with fail
        go_meet
        exact ⟨vint (by have := HM.out; rw [clampS_mid (by omega) (by omega)] at this; omega), rfl⟩
  case rest =>
    obtain ⟨rfl, rfl⟩ := hcut
    go_wp2_with fail
    refine T1.out.mono ?_
    rintro e w' ⟨rfl, rfl⟩
    go_wp2_with fail
    go_loopw [25] (fun i wr => ∃ (k : Nat) (zs : List Int), k ≤ K ∧ i = .int .i64 k ∧ ShlInv xs K skip s k zs ∧ Row 22 wr w.heap.size zs ∧ Below w.heap.size w wr) (fun i _ => K - mes i)
    case atStart => exact ⟨0, _, by omega, rfl, shlInv_0 xs K skip s, Row.new w 22 (K + skip + 1), (Below.refl _ _).alloc (Nat.le_refl _) _⟩
    case round =>
      obtain ⟨k, zs, hk, rfl, hz, hr, hb⟩ := hrel
      by_cases hk2 : k < K
      · obtain ⟨ba, off, rfl, hba, hca⟩ := h.at_ (k := k) (by omega)
        have hac := (hb.cell (p := ⟨ba, off + k, none⟩) hba).trans (hca k (by omega))
        have hl : zs.length = K + skip + 1 := hz.1
        have hc0 := hr.cell (i := k + skip) (by omega)
        have hc1 := hr.cell (i := k + skip + 1) (by omega)
        have hf0 := hr.free (k + skip)
        have hf1 := hr.free (k + skip + 1)
        have hd0 := hz.2.1.at_ W_pos (k + skip)
        have hux := h.u k
        have hdx := (Dg_U h.us).at_ W_pos k
        obtain ⟨v, ev, v1, v2, v3⟩ := shl_digit hs64 hux hd0.1 hz.2.2.2.1
        have hhi := shl_high hs64 (X := (xs.getD k 0).toNat) (by omega)
        have hst := shlInv_step hz hk2 rfl rfl v1 v2 v3 hhi.1 hhi.2
        have hr2 := (hr.set (k + skip) (v : Int)).set (k + skip + 1) (((xs.getD k 0).toNat / 2 ^ (64 - s) : Nat) : Int)
        obtain ⟨x, hx⟩ : ∃ x, xs.getD k 0 = x := ⟨_, rfl⟩
        obtain ⟨d, hd⟩ : ∃ d, zs.getD (k + skip) 0 = d := ⟨_, rfl⟩
        obtain ⟨H, hH⟩ : ∃ H, (xs.getD k 0).toNat / 2 ^ (64 - s) = H := ⟨_, rfl⟩
        rw [hH] at hst hr2
        have eH : x / 2 ^ (64 - s) = (H : Int) := by
          rw [← hH, hx, ← cast_shr, Int.toNat_of_nonneg (by rw [← hx]; exact hdx.1)]
        rw [hx, hd] at ev
        rw [hx] at hac
        rw [hd] at hc0
        generalize zs.getD (k + skip + 1) 0 = d1 at hc1
        have hkn : (k : Int) < (n : Int) := by omega
        have HS := Lib.hid hst
        have HR := Lib.hid hr2
        clear hst hr2 hr hz v1 v2 v3 hhi hl hca hH hx hd hd0 hux hdx
        go_wp2
        go_region
        go_wp2
        go_roundw
        case rel => exact ⟨k + 1, _, by omega, by go_num, HS.out, HR.out, (((hb.setCell (Nat.le_refl _) _).setCell (Nat.le_refl _) _).drew)⟩
        case measure => simp [mes, intOf]; omega
      · obtain rfl : k = K := by omega
        have hl : zs.length = k + skip + 1 := hz.1
        have hd : Dg W zs := hz.2.1
        have e1 : val zs = val xs * 2 ^ m := by
          have hz2 := hz
          rw [← E3.out, ← E4.out] at hz2
          exact shlInv_end hz2 (by rw [HP.out]; omega)
        have hsl := hr.sl (c := k + skip + 1) (U_Dg hd) (by omega)
        rw [hl] at hsl
        have HC2 := Lib.hid (nat_cut hsl (by omega))
        have HR := Lib.hid hr
        have EV := Lib.hid e1
        have HL := Lib.hid hl
        clear hsl e1 hl hz hr
        go_wp2_with fail
        refine HC2.out.mono ?_
        rintro e w' ⟨rfl, rfl⟩
        go_wp2_with fail
        go_ret
        exact retSl_cut HR.out hd (by rw [HL.out]; omega) EV.out hb

set_option maxHeartbeats 1000000 in
theorem nat_shr {w : World} {A : Option Addr} {n c : Nat} {xs : List Int} (h : Sl w A n c xs) (hn : n ≤ 100000000) (i : Int) (hi : i ≤ 9223372036854775807) :
    Calls Try.prog 62 #[.slice A n c, .int .i64 i] w (RetSl (words (val xs / 2 ^ i.toNat)) w) := by
  have hs : sz xs ≤ n := by rw [h.len]; exact sz_le xs
  have S1 := nat_size h (by omega)
  generalize hp : sz xs = K at S1 hs
  have HP := Lib.hid hp
  have T1 := Lib.hid S1
  clear hp S1
  obtain ⟨m, hm⟩ : ∃ m, i.toNat = m := ⟨_, rfl⟩
  have hm64 : m ≤ 9223372036854775807 := by omega
  rw [hm]
  have HM := Lib.hid hm
  clear hm
  obtain ⟨skip, hskip⟩ : ∃ k, m / 64 = k := ⟨_, rfl⟩
  obtain ⟨s, hs0⟩ : ∃ k, m % 64 = k := ⟨_, rfl⟩
  have hs64 : s < 64 := by omega
  have hsk : skip ≤ 9223372036854775807 := by omega
  have e1 : (m : Int) / 64 = (skip : Int) := by omega
  have e2 : (m : Int) % 64 = (s : Int) := by omega
  have E3 := Lib.hid hskip
  have E4 := Lib.hid hs0
  clear hskip hs0
  by_cases hle : K ≤ skip
  · go_enter Try.func62, Try.ntmps62
    go_upto_region 1 with (fail)
    go_cut [1] (fun s1 wx => s1 = .int .i64 m ∧ w = wx)
    case first =>
      by_cases h1 : i < 0
      · go_wp2_with fail
        go_meet
        exact ⟨vint (by have := HM.out; omega), rfl⟩
      · go_wp2_with fail
        go_meet
        exact ⟨vint (by have := HM.out; omega), rfl⟩
    case rest =>
      obtain ⟨rfl, rfl⟩ := hcut
      go_wp2_with fail
      refine T1.out.mono ?_
      rintro e w' ⟨rfl, rfl⟩
      go_wp2_with fail
      go_ret
      refine ⟨_, _, _, rfl, ?_, Below.refl _ _⟩
      rw [shr_zero (Dg_U h.us) (by rw [HP.out, E3.out]; omega)]
      exact Sl.nil _ _ _
  · obtain ⟨N, hN⟩ : ∃ N, K = N + skip := ⟨K - skip, by omega⟩
    subst hN
    have hmk := run_make_row' (P := Try.prog) 37 22 (.int .u64 0) 8 Try.underlying37 infoW rfl .i64 .i64 N (by omega) (by omega)
    have eN : ((N + skip : Nat) : Int) - (skip : Int) = (N : Int) := by omega
    have hdec : decide ((N : Int) + (skip : Int) ≤ (skip : Int)) = false := by simp; omega
    go_enter Try.func62, Try.ntmps62
    go_upto_region 1 with (fail)
    go_cut [1] (fun s1 wx => s1 = .int .i64 m ∧ w = wx)
    case first =>
      by_cases h1 : i < 0
      · go_wp2_with fail
        go_meet
        exact ⟨vint (by have := HM.out; omega), rfl⟩
      · go_wp2_with fail
        go_meet
        exact ⟨vint (by have := HM.out; omega), rfl⟩
    case rest =>
      obtain ⟨rfl, rfl⟩ := hcut
      go_wp2_with fail
      refine T1.out.mono ?_
      rintro e w' ⟨rfl, rfl⟩
      go_wp2_with fail
      go_loopw [27] (fun i wr => ∃ (k : Nat) (zs : List Int), k ≤ N ∧ i = .int .i64 k ∧ ShrInv xs N skip s k zs ∧ Row 22 wr w.heap.size zs ∧ Below w.heap.size w wr) (fun i _ => N - mes i)
      case atStart => exact ⟨0, _, by omega, rfl, shrInv_0 xs N skip s, Row.new w 22 N, (Below.refl _ _).alloc (Nat.le_refl _) _⟩
      case round =>
        obtain ⟨k, zs, hk, rfl, hz, hr, hb⟩ := hrel
        by_cases hk2 : k < N
        · obtain ⟨ba, off, rfl, hba, hca⟩ := h.at_ (k := k + skip) (by omega)
          have hac := (hb.cell (p := ⟨ba, off + (k + skip), none⟩) hba).trans (hca (k + skip) (by omega))
          have g2 := fun W1 (hW : Sl W1 (some ⟨ba, off, none⟩) n c xs) => nat_wordAt hW (by omega) ((k : Int) + skip + 1) (by omega)
          have hsl' := h.below hb
          have hl : zs.length = N := hz.1
          have hc0 := hr.cell (i := k) (by omega)
          have hf0 := hr.free k
          obtain ⟨v, ev, v1, v2⟩ := shr_digit hs64 (h.u (k + skip)) (h.u (k + skip + 1))
          rw [show k + skip = skip + k by omega] at v2
          have hst := shrInv_step hs64 (Dg_U h.us) hz hk2 v1 v2
          have hr2 := hr.set k (v : Int)
          have ew : wd xs ((k : Int) + skip + 1) = xs.getD (k + skip + 1) 0 := by unfold wd; congr 1
          obtain ⟨x, hx⟩ : ∃ x, xs.getD (k + skip) 0 = x := ⟨_, rfl⟩
          obtain ⟨y, hy⟩ : ∃ y, xs.getD (k + skip + 1) 0 = y := ⟨_, rfl⟩
          rw [ew, hy] at g2
          rw [hx, hy] at ev
          rw [hx] at hac
          generalize zs.getD k 0 = d1 at hc0
          have hkn : (k : Int) + (skip : Int) < (n : Int) := by omega
          have hkn0 : 0 ≤ (k : Int) + (skip : Int) := by omega
          have htn : ((k : Int) + (skip : Int)).toNat = k + skip := by omega
          have wr1 : IntKind.i64.wrap ((k : Int) + (skip : Int)) = (k : Int) + (skip : Int) := IntWalk.i64_in _ (by omega)
          have wr2 : IntKind.i64.wrap ((k : Int) + (skip : Int) + 1) = (k : Int) + (skip : Int) + 1 := IntWalk.i64_in _ (by omega)
          have wr3 : IntKind.i64.wrap (64 - (s : Int)) = 64 - (s : Int) := IntWalk.i64_in _ (by omega)
          have wr4 : (64 - (s : Int)).toNat = 64 - s := by omega
          have G2 := Lib.hid g2
          have HS := Lib.hid hst
          have HR := Lib.hid hr2
          have HSL := Lib.hid hsl'
          clear hst hr2 hr hz v1 v2 hl hca hx hy ew g2 hsl'
          go_wp2_with fail
          go_region_with (go_at_call 86; refine (G2.out _ (by exact HSL.out)).mono ?_; rintro e w' ⟨rfl, rfl⟩)
          all_goals
            clear wr1 wr2 wr3 wr4 htn
            go_wp2
            go_roundw
            case rel => exact ⟨k + 1, _, by omega, by go_num, HS.out, HR.out, (hb.setCell (Nat.le_refl _) _).drew⟩
            case measure => simp [mes, intOf]; omega
        · obtain rfl : k = N := by omega
          have hl : zs.length = k := hz.1
          have hd : Dg W zs := hz.2.1
          have e1 : val zs = val xs / 2 ^ m := by
            have hz2 := hz
            have ek : k = k + skip - m / 64 := by rw [E3.out]; omega
            rw [← E3.out, ← E4.out] at hz2
            refine shrInv_end (K := k + skip) (Dg_U h.us) (by rw [HP.out]; omega) (by rw [E3.out]; omega) ?_
            rw [← ek]; exact hz2
          have hsl := hr.sl (c := k) (U_Dg hd) (by omega)
          rw [hl] at hsl
          have HC2 := Lib.hid (nat_cut hsl (by omega))
          have HR := Lib.hid hr
          have EV := Lib.hid e1
          have HL := Lib.hid hl
          clear hsl e1 hl hz hr
          go_wp2_with fail
          refine HC2.out.mono ?_
          rintro e w' ⟨rfl, rfl⟩
          go_wp2_with fail
          go_ret
          exact retSl_cut HR.out hd (by rw [HL.out]; omega) EV.out hb

end Go.Proofs.Yteedipcmhaiglaa
