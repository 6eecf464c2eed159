/-
  Plain mathematics of long products: a row of a product, sums into a list, the Karatsuba identity, powers by squaring. No Go in sight. Conditions: those that each theorem names.
-/
import Derived.Test.YthpbaaanbimapaaGreatDoorNatReadAllC
import Derived.Deep.DeepCutAuto
import Derived.Deep.RegionWith
import Derived.Test.YthpbaaanbimapaaGreatDoorU64AllC
import Derived.Test.YthpbaaanbimapaaGreatDoorLimbDivAllC
namespace Go.Proofs.YthpbaaanbimapaaGreatDoor
set_option maxRecDepth 100000
open Go.RowKit
set_option linter.unusedVariables false
set_option linter.unusedSimpArgs false

set_option maxHeartbeats 1000000 in
theorem nat_shl {w : World} {A : Option Addr} {n c : Nat} {xs : List Int} (h : Sl w A n c xs) (hn : n ≤ 100000000) (i : Int) :
    Calls Tryz.prog 87 #[.slice A n c, .int .i64 i] w (RetSl (words (val xs * 2 ^ clampS i)) w) := by
  have hs : sz xs ≤ n := by rw [h.len]; exact sz_le xs
  have S1 := nat_size h (by omega)
  generalize hp : sz xs = K at S1 hs
  have HP := Lib.hid hp
  have T1 := Lib.hid S1
  clear hp S1
  obtain ⟨m, hm⟩ : ∃ m, clampS i = m := ⟨_, rfl⟩
  have hm64 := clampS_le i
  rw [hm] at hm64
  rw [hm]
  have HM := Lib.hid hm
  clear hm
  obtain ⟨skip, hskip⟩ : ∃ k, m / 64 = k := ⟨_, rfl⟩
  obtain ⟨s, hs0⟩ : ∃ k, m % 64 = k := ⟨_, rfl⟩
  have hs64 : s < 64 := by omega
  have hsk : skip ≤ 1024 := by omega
  have e1 : (m : Int) / 64 = (skip : Int) := by omega
  have e2 : (m : Int) % 64 = (s : Int) := by omega
  have E3 := Lib.hid hskip
  have E4 := Lib.hid hs0
  clear hskip hs0
  have hmk := run_make_row' (P := Tryz.prog) 49 34 (.int .u64 0) 8 Tryz.underlying49 infoW rfl .i64 .i64 (K + skip + 1) (by omega) (by omega)
  rw [show ((K + skip + 1 : Nat) : Int) = (K : Int) + (skip : Int) + 1 by omega] at hmk
  go_enter Tryz.func87, Tryz.ntmps87
  go_upto_region 1 with (fail)
  go_cut [1] (fun s1 wx => s1 = .int .i64 m ∧ w = wx)
  case first =>
    by_cases h1 : i < 0
    · go_wp2_with fail
      go_meet
      exact ⟨vint (by have := HM.out; rw [clampS_neg (by omega)] at this; omega), rfl⟩
    · by_cases h2 : i > 65536
      · go_wp2_with fail
        go_meet
        exact ⟨vint (by have := HM.out; rw [clampS_big (by omega)] at this; omega), rfl⟩
      · go_wp2_with fail
        go_meet
        exact ⟨vint (by have := HM.out; rw [clampS_mid (by omega) (by omega)] at this; omega), rfl⟩
  case rest =>
    obtain ⟨rfl, rfl⟩ := hcut
    go_wp2_with fail
    refine T1.out.mono ?_
    rintro e w' ⟨rfl, rfl⟩
    go_wp2_with fail
    go_loopw [25] (fun i wr => ∃ (k : Nat) (zs : List Int), k ≤ K ∧ i = .int .i64 k ∧ ShlInv xs K skip s k zs ∧ Row 34 wr w.heap.size zs ∧ Below w.heap.size w wr) (fun i _ => K - mes i)
    case atStart => exact ⟨0, _, by omega, rfl, shlInv_0 xs K skip s, Row.new w 34 (K + skip + 1), (Below.refl _ _).alloc (Nat.le_refl _) _⟩
    case round =>
      obtain ⟨k, zs, hk, rfl, hz, hr, hb⟩ := hrel
      by_cases hk2 : k < K
      · obtain ⟨ba, off, rfl, hba, hca⟩ := h.at_ (k := k) (by omega)
        have hac := (hb.cell (p := ⟨ba, off + k, none⟩) hba).trans (hca k (by omega))
        have hl : zs.length = K + skip + 1 := hz.1
        have hc0 := hr.cell (i := k + skip) (by omega)
        have hc1 := hr.cell (i := k + skip + 1) (by omega)
        have hf0 := hr.free (k + skip)
        have hf1 := hr.free (k + skip + 1)
        have hd0 := hz.2.1.at_ W_pos (k + skip)
        have hux := h.u k
        have hdx := (Dg_U h.us).at_ W_pos k
        obtain ⟨v, ev, v1, v2, v3⟩ := shl_digit hs64 hux hd0.1 hz.2.2.2.1
        have hhi := shl_high hs64 (X := (xs.getD k 0).toNat) (by omega)
        have hst := shlInv_step hz hk2 rfl rfl v1 v2 v3 hhi.1 hhi.2
        have hr2 := (hr.set (k + skip) (v : Int)).set (k + skip + 1) (((xs.getD k 0).toNat / 2 ^ (64 - s) : Nat) : Int)
        obtain ⟨x, hx⟩ : ∃ x, xs.getD k 0 = x := ⟨_, rfl⟩
        obtain ⟨d, hd⟩ : ∃ d, zs.getD (k + skip) 0 = d := ⟨_, rfl⟩
        obtain ⟨H, hH⟩ : ∃ H, (xs.getD k 0).toNat / 2 ^ (64 - s) = H := ⟨_, rfl⟩
        rw [hH] at hst hr2
        have eH : x / 2 ^ (64 - s) = (H : Int) := by
          rw [← hH, hx, ← cast_shr, Int.toNat_of_nonneg (by rw [← hx]; exact hdx.1)]
        rw [hx, hd] at ev
        rw [hx] at hac
        rw [hd] at hc0
        generalize zs.getD (k + skip + 1) 0 = d1 at hc1
        have hkn : (k : Int) < (n : Int) := by omega
        have HS := Lib.hid hst
        have HR := Lib.hid hr2
        clear hst hr2 hr hz v1 v2 v3 hhi hl hca hH hx hd hd0 hux hdx
        go_wp2
        go_region
        go_wp2
        go_roundw
        case rel => exact ⟨k + 1, _, by omega, by go_num, HS.out, HR.out, (((hb.setCell (Nat.le_refl _) _).setCell (Nat.le_refl _) _).drew)⟩
        case measure => simp [mes, intOf]; omega
      · obtain rfl : k = K := by omega
        have hl : zs.length = k + skip + 1 := hz.1
        have hd : Dg W zs := hz.2.1
        have e1 : val zs = val xs * 2 ^ m := by
          have hz2 := hz
          rw [← E3.out, ← E4.out] at hz2
          exact shlInv_end hz2 (by rw [HP.out]; omega)
        have hsl := hr.sl (c := k + skip + 1) (U_Dg hd) (by omega)
        rw [hl] at hsl
        have HC2 := Lib.hid (nat_cut hsl (by omega))
        have HR := Lib.hid hr
        have EV := Lib.hid e1
        have HL := Lib.hid hl
        clear hsl e1 hl hz hr
        go_wp2_with fail
        refine HC2.out.mono ?_
        rintro e w' ⟨rfl, rfl⟩
        go_wp2_with fail
        go_ret
        exact retSl_cut HR.out hd (by rw [HL.out]; omega) EV.out hb

set_option maxHeartbeats 1000000 in
theorem nat_shr {w : World} {A : Option Addr} {n c : Nat} {xs : List Int} (h : Sl w A n c xs) (hn : n ≤ 100000000) (i : Int) (hi : i ≤ 9223372036854775807) :
    Calls Tryz.prog 152 #[.slice A n c, .int .i64 i] w (RetSl (words (val xs / 2 ^ i.toNat)) w) := by
  have hs : sz xs ≤ n := by rw [h.len]; exact sz_le xs
  have S1 := nat_size h (by omega)
  generalize hp : sz xs = K at S1 hs
  have HP := Lib.hid hp
  have T1 := Lib.hid S1
  clear hp S1
  obtain ⟨m, hm⟩ : ∃ m, i.toNat = m := ⟨_, rfl⟩
  have hm64 : m ≤ 9223372036854775807 := by omega
  rw [hm]
  have HM := Lib.hid hm
  clear hm
  obtain ⟨skip, hskip⟩ : ∃ k, m / 64 = k := ⟨_, rfl⟩
  obtain ⟨s, hs0⟩ : ∃ k, m % 64 = k := ⟨_, rfl⟩
  have hs64 : s < 64 := by omega
  have hsk : skip ≤ 9223372036854775807 := by omega
  have e1 : (m : Int) / 64 = (skip : Int) := by omega
  have e2 : (m : Int) % 64 = (s : Int) := by omega
  have E3 := Lib.hid hskip
  have E4 := Lib.hid hs0
  clear hskip hs0
  by_cases hle : K ≤ skip
  · go_enter Tryz.func152, Tryz.ntmps152
    go_upto_region 1 with (fail)
    go_cut [1] (fun s1 wx => s1 = .int .i64 m ∧ w = wx)
    case first =>
      by_cases h1 : i < 0
      · go_wp2_with fail
        go_meet
        exact ⟨vint (by have := HM.out; omega), rfl⟩
      · go_wp2_with fail
        go_meet
        exact ⟨vint (by have := HM.out; omega), rfl⟩
    case rest =>
      obtain ⟨rfl, rfl⟩ := hcut
      go_wp2_with fail
      refine T1.out.mono ?_
      rintro e w' ⟨rfl, rfl⟩
      go_wp2_with fail
      go_ret
      refine ⟨_, _, _, rfl, ?_, Below.refl _ _⟩
      rw [shr_zero (Dg_U h.us) (by rw [HP.out, E3.out]; omega)]
      exact Sl.nil _ _ _
  · obtain ⟨N, hN⟩ : ∃ N, K = N + skip := ⟨K - skip, by omega⟩
    subst hN
    have hmk := run_make_row' (P := Tryz.prog) 49 34 (.int .u64 0) 8 Tryz.underlying49 infoW rfl .i64 .i64 N (by omega) (by omega)
    have eN : ((N + skip : Nat) : Int) - (skip : Int) = (N : Int) := by omega
    have hdec : decide ((N : Int) + (skip : Int) ≤ (skip : Int)) = false := by simp; omega
    go_enter Tryz.func152, Tryz.ntmps152
    go_upto_region 1 with (fail)
    go_cut [1] (fun s1 wx => s1 = .int .i64 m ∧ w = wx)
    case first =>
      by_cases h1 : i < 0
      · go_wp2_with fail
        go_meet
        exact ⟨vint (by have := HM.out; omega), rfl⟩
      · go_wp2_with fail
        go_meet
        exact ⟨vint (by have := HM.out; omega), rfl⟩
    case rest =>
      obtain ⟨rfl, rfl⟩ := hcut
      go_wp2_with fail
      refine T1.out.mono ?_
      rintro e w' ⟨rfl, rfl⟩
      go_wp2_with fail
      go_loopw [27] (fun i wr => ∃ (k : Nat) (zs : List Int), k ≤ N ∧ i = .int .i64 k ∧ ShrInv xs N skip s k zs ∧ Row 34 wr w.heap.size zs ∧ Below w.heap.size w wr) (fun i _ => N - mes i)
      case atStart => exact ⟨0, _, by omega, rfl, shrInv_0 xs N skip s, Row.new w 34 N, (Below.refl _ _).alloc (Nat.le_refl _) _⟩
      case round =>
        obtain ⟨k, zs, hk, rfl, hz, hr, hb⟩ := hrel
        by_cases hk2 : k < N
        · obtain ⟨ba, off, rfl, hba, hca⟩ := h.at_ (k := k + skip) (by omega)
          have hac := (hb.cell (p := ⟨ba, off + (k + skip), none⟩) hba).trans (hca (k + skip) (by omega))
          have g2 := fun W1 (hW : Sl W1 (some ⟨ba, off, none⟩) n c xs) => nat_wordAt hW (by omega) ((k : Int) + skip + 1) (by omega)
          have hsl' := h.below hb
          have hl : zs.length = N := hz.1
          have hc0 := hr.cell (i := k) (by omega)
          have hf0 := hr.free k
          obtain ⟨v, ev, v1, v2⟩ := shr_digit hs64 (h.u (k + skip)) (h.u (k + skip + 1))
          rw [show k + skip = skip + k by omega] at v2
          have hst := shrInv_step hs64 (Dg_U h.us) hz hk2 v1 v2
          have hr2 := hr.set k (v : Int)
          have ew : wd xs ((k : Int) + skip + 1) = xs.getD (k + skip + 1) 0 := by unfold wd; congr 1
          obtain ⟨x, hx⟩ : ∃ x, xs.getD (k + skip) 0 = x := ⟨_, rfl⟩
          obtain ⟨y, hy⟩ : ∃ y, xs.getD (k + skip + 1) 0 = y := ⟨_, rfl⟩
          rw [ew, hy] at g2
          rw [hx, hy] at ev
          rw [hx] at hac
          generalize zs.getD k 0 = d1 at hc0
          have hkn : (k : Int) + (skip : Int) < (n : Int) := by omega
          have hkn0 : 0 ≤ (k : Int) + (skip : Int) := by omega
          have htn : ((k : Int) + (skip : Int)).toNat = k + skip := by omega
          have wr1 : IntKind.i64.wrap ((k : Int) + (skip : Int)) = (k : Int) + (skip : Int) := IntWalk.i64_in _ (by omega)
          have wr2 : IntKind.i64.wrap ((k : Int) + (skip : Int) + 1) = (k : Int) + (skip : Int) + 1 := IntWalk.i64_in _ (by omega)
          have wr3 : IntKind.i64.wrap (64 - (s : Int)) = 64 - (s : Int) := IntWalk.i64_in _ (by omega)
          have wr4 : (64 - (s : Int)).toNat = 64 - s := by omega
          have G2 := Lib.hid g2
          have HS := Lib.hid hst
          have HR := Lib.hid hr2
          have HSL := Lib.hid hsl'
          clear hst hr2 hr hz v1 v2 hl hca hx hy ew g2 hsl'
          go_wp2_with fail
          go_region_with (go_at_call 202; refine (G2.out _ (by exact HSL.out)).mono ?_; rintro e w' ⟨rfl, rfl⟩)
          all_goals
            clear wr1 wr2 wr3 wr4 htn
            go_wp2
            go_roundw
            case rel => exact ⟨k + 1, _, by omega, by go_num, HS.out, HR.out, (hb.setCell (Nat.le_refl _) _).drew⟩
            case measure => simp [mes, intOf]; omega
        · obtain rfl : k = N := by omega
          have hl : zs.length = k := hz.1
          have hd : Dg W zs := hz.2.1
          have e1 : val zs = val xs / 2 ^ m := by
            have hz2 := hz
            have ek : k = k + skip - m / 64 := by rw [E3.out]; omega
            rw [← E3.out, ← E4.out] at hz2
            refine shrInv_end (K := k + skip) (Dg_U h.us) (by rw [HP.out]; omega) (by rw [E3.out]; omega) ?_
            rw [← ek]; exact hz2
          have hsl := hr.sl (c := k) (U_Dg hd) (by omega)
          rw [hl] at hsl
          have HC2 := Lib.hid (nat_cut hsl (by omega))
          have HR := Lib.hid hr
          have EV := Lib.hid e1
          have HL := Lib.hid hl
          clear hsl e1 hl hz hr
          go_wp2_with fail
          refine HC2.out.mono ?_
          rintro e w' ⟨rfl, rfl⟩
          go_wp2_with fail
          go_ret
          exact retSl_cut HR.out hd (by rw [HL.out]; omega) EV.out hb

end Go.Proofs.YthpbaaanbimapaaGreatDoor

namespace Go.Proofs.YthpbaaanbimapaaGreatDoor
set_option maxRecDepth 100000
open Go.RowKit
set_option linter.unusedVariables false
set_option linter.unusedSimpArgs false

/-- the cells of a list of words -/
def vs (zs : List Int) : List Value := zs.map (Value.int .u64)
theorem vs_length (zs : List Int) : (vs zs).length = zs.length := by unfold vs; simp
/-- the slice value v owns, from block B on, the words zs -/
def Own (t : TypeId) (B : Nat) (w : World) (v : Value) (zs : List Int) : Prop := w.ownsRow B t 1 v zs.length (vs zs)
theorem Own.out {t : TypeId} {B : Nat} {w : World} {v : Value} {zs : List Int} (h : Own t B w v zs) : w.ownsRow B t 1 v zs.length (vs zs) := h
theorem Own.nil (t : TypeId) (B : Nat) (w : World) : Own t B w (.slice none 0 0) [] := World.ownsRow_nil _ _ _ _
theorem Own.snoc {t : TypeId} {B : Nat} {w : World} {v : Value} {zs : List Int} {x : Int} (h : w.ownsRow B t 1 v (zs.length + 1) (vs zs ++ [.int .u64 x])) : Own t B w v (zs ++ [x]) := by
  unfold Own
  have e : vs (zs ++ [x]) = vs zs ++ [.int .u64 x] := by unfold vs; simp
  rw [e, List.length_append]
  exact h
theorem own_form {w : World} {base : Nat} {t : TypeId} {v : Value} {zs : List Int} (h : Own t base w v zs) : ∃ A c, v = .slice A zs.length c := by
  rcases h with ⟨hl, ⟨rfl, h0⟩ | ⟨g, cap, cur, rfl, _⟩⟩
  · exact ⟨none, 0, by rw [h0]⟩
  · exact ⟨_, _, rfl⟩
theorem own_below {w wr w1 : World} {t : TypeId} {v : Value} {zs : List Int} {o : Obj} (hb : Below w.heap.size w wr) (hown : Own t w.heap.size wr v zs) (hg : (wr.alloc o).grownBy w1 v.ownBlock) : Below w.heap.size w w1 :=
  (hb.alloc hb.size o).grown hg (by have := hb.size; simp; omega) (fun k e => (hown.out.lt k e).1)
theorem Own.sl {w : World} {base : Nat} {t : TypeId} {A : Option Addr} {n c : Nat} {zs : List Int} (h : Own t base w (.slice A n c) zs) (hu : ∀ x ∈ zs, U x) : Sl w A n c zs := by
  obtain ⟨A', c', e⟩ := own_form h
  injection e with e1 e2 e3
  subst e1 e2 e3
  exact Sl.of_own h.out hu
theorem retSl_own {w w' : World} {t : TypeId} {v : Value} {zs : List Int} (h : Own t w.heap.size w' v zs) (hu : ∀ x ∈ zs, U x) (hb : Below w.heap.size w w') : RetSl zs w (.returned v) w' := by
  obtain ⟨A, c, rfl⟩ := own_form h
  exact ⟨A, _, c, rfl, h.sl hu, hb⟩
theorem take_snoc (xs : List Int) (k : Nat) (h : k < xs.length) : xs.take (k + 1) = xs.take k ++ [xs.getD k 0] := by
  rw [List.take_succ_eq_append_getElem h, List.getD_eq_getElem?_getD, List.getElem?_eq_getElem h]; rfl

/-- a call that returns a row of its own -/
def RetOwn (zs : List Int) (w : World) (e : Ending) (w' : World) : Prop := ∃ v, e = .returned v ∧ Own 34 w.heap.size w' v zs ∧ Below w.heap.size w w'
theorem Own.mono {t : TypeId} {b b' : Nat} {w : World} {v : Value} {zs : List Int} (h : Own t b w v zs) (hb : b' ≤ b) : Own t b' w v zs := by
  obtain ⟨h1, h2⟩ := h
  refine ⟨h1, ?_⟩
  rcases h2 with h2 | ⟨g, cap, cur, hv, hg, r⟩
  · exact .inl h2
  · exact .inr ⟨g, cap, cur, hv, Nat.le_trans hb hg, r⟩

set_option maxHeartbeats 400000 in
theorem ref_trim_own {w : World} {A : Option Addr} {n c : Nat} {xs : List Int} (h : Sl w A n c xs) (hn : n ≤ 100000000) :
    Calls Tryz.prog 164 #[.slice A n c] w (RetOwn (words (val xs)) w) := by
  have hs : sz xs ≤ n := by rw [h.len]; exact sz_le xs
  have S1 := ref_size h (by omega)
  have hlen := h.len
  have hw : words (val xs) = xs.take (sz xs) := words_val (Dg_U h.us)
  generalize hp : sz xs = p at S1 hs hw
  rw [hw]
  have T1 := Lib.hid S1
  have HL := Lib.hid hlen
  clear hp S1 hw hlen
  obtain ⟨i0, hi, hz0, hz1, hz2⟩ := info_parts infoW
  go_enter Tryz.func164, Tryz.ntmps164
  go_wp2_with fail
  refine T1.out.mono ?_
  rintro e w' ⟨rfl, rfl⟩
  go_wp2_with fail
  go_loopw [3, 7] (fun v i wr => ∃ (k : Nat) (zs : List Int), k ≤ p ∧ i = .int .i64 k ∧ Own 34 w.heap.size wr v zs ∧ Below w.heap.size w wr ∧ Hid (zs = xs.take k)) (fun _ i _ => p - mes i)
  case atStart => exact ⟨0, [], by omega, rfl, Own.nil _ _ _, Below.refl _ _, Lib.hid rfl⟩
  case round =>
    obtain ⟨k, zs, hk, rfl, hown, hb, HZ⟩ := hrel
    have hzl : zs.length ≤ k := by rw [HZ.out, List.length_take]; omega
    by_cases hk2 : k < p
    · obtain ⟨ba, off, rfl, hba, hca⟩ := h.at_ (k := k) (by omega)
      have hac := (hb.cell (p := ⟨ba, off + k, none⟩) hba).trans (hca k (by omega))
      have ht := take_snoc xs k (by have := HL.out; omega)
      obtain ⟨x, hx⟩ : ∃ x, xs.getD k 0 = x := ⟨_, rfl⟩
      rw [hx] at hac ht
      have HT := Lib.hid ht
      clear ht hx hca
      go_wp2_with (at_builtin; refine wpList_append_own _ rfl _ _ 49 rfl w.heap.size 34 i0 (.int .u64 0) 1 8 Tryz.underlying49 hi hz0 hz1 hz2 rfl (by decide) _ _ _ rfl (hown.out.alloc _) ⟨wr.heap.size, 0, none⟩ 1 1 [.int .u64 x] rfl rfl ?c1 ?c2 ?c3 ?c4 ?c5 ?_)
      case c1 => exact cell_one_new _ _ _
      case c2 => intro u hu; simp at hu; subst hu; rfl
      case c3 => unfold maxLen; omega
      case c4 => omega
      case c5 => have := hb.size; simp; omega
      intro v' w1 hown' hgrow _
      have hb1 := own_below hb hown hgrow
      have hown2 : Own 34 w.heap.size w1 v' (zs ++ [x]) := Own.snoc hown'
      have HO := Lib.hid hown2
      clear hown hown' hgrow hown2 hac
      go_wp2
      go_roundw
      case rel => exact ⟨k + 1, _, by omega, by go_num, HO.out, hb1, Lib.hid (by rw [HT.out, ← HZ.out])⟩
      case measure => simp [mes, intOf]; omega
    · obtain rfl : k = p := by omega
      go_wp2_with fail
      go_ret
      have hz := HZ.out
      subst hz
      exact ⟨_, rfl, hown, hb⟩
theorem ref_trim {w : World} {A : Option Addr} {n c : Nat} {xs : List Int} (h : Sl w A n c xs) (hn : n ≤ 100000000) :
    Calls Tryz.prog 164 #[.slice A n c] w (RetSl (words (val xs)) w) :=
  (ref_trim_own h hn).mono fun _ _ ⟨_, he, ho, hb⟩ => he ▸ retSl_own ho (words_U _) hb

set_option maxHeartbeats 400000 in
theorem ref_halves_own {w : World} {A : Option Addr} {n c : Nat} {xs : List Int} (h : Sl w A n c xs) (hn : n ≤ 10000000) :
    Calls Tryz.prog 108 #[.slice A n c] w (RetOwn (hwords (val xs)) w) := by
  have hlen := h.len
  have HL := Lib.hid hlen
  clear hlen
  obtain ⟨i0, hi, hz0, hz1, hz2⟩ := info_parts infoW
  go_enter Tryz.func108, Tryz.ntmps108
  go_wp2_with fail
  go_loopw [3, 7] (fun v i wr => ∃ (k : Nat) (zs : List Int), k ≤ n ∧ i = .int .i64 k ∧ Own 34 w.heap.size wr v zs ∧ Below w.heap.size w wr ∧ Hid (zs = hl (xs.take k))) (fun _ i _ => n - mes i)
  case atStart => exact ⟨0, [], by omega, rfl, Own.nil _ _ _, Below.refl _ _, Lib.hid rfl⟩
  case round =>
    obtain ⟨k, zs, hk, rfl, hown, hb, HZ⟩ := hrel
    have hzl : zs.length ≤ 2 * k := by rw [HZ.out, hl_length, List.length_take]; omega
    by_cases hk2 : k < n
    · obtain ⟨ba, off, rfl, hba, hca⟩ := h.at_ (k := k) (by omega)
      have hac := (hb.cell (p := ⟨ba, off + k, none⟩) hba).trans (hca k (by omega))
      have ht := take_snoc xs k (by have := HL.out; omega)
      have hu := h.u k
      obtain ⟨x, hx⟩ : ∃ x, xs.getD k 0 = x := ⟨_, rfl⟩
      rw [hx] at hac ht hu
      have ea := and32 hu
      have HT := Lib.hid ht
      have HC := Lib.hid (hca k (by omega))
      have HX := Lib.hid hx
      clear ht hx hca
      go_wp2_with (at_builtin; refine wpList_append_own _ rfl (.tmp 10) (.tmp 16) 49 rfl w.heap.size 34 i0 (.int .u64 0) 1 8 Tryz.underlying49 hi hz0 hz1 hz2 rfl (by decide) _ _ _ rfl (hown.out.alloc _) ⟨wr.heap.size, 0, none⟩ 1 1 [.int .u64 (x % 4294967296)] rfl rfl ?c1 ?c2 ?c3 ?c4 ?c5 ?_)
      case c1 => exact cell_one_new _ _ _
      case c2 => intro u hu; simp at hu; subst hu; rfl
      case c3 => unfold maxLen; omega
      case c4 => omega
      case c5 => have := hb.size; simp; omega
      intro v' w1 hown' hgrow _
      have hb1 := own_below hb hown hgrow
      have hown1 : Own 34 w.heap.size w1 v' (zs ++ [x % 4294967296]) := Own.snoc hown'
      have hac1 : w1.cell? ⟨ba, off + k, none⟩ = some (.int .u64 x) := (hb1.cell (p := ⟨ba, off + k, none⟩) hba).trans (by rw [HC.out, HX.out])
      generalize hzs1 : zs ++ [x % 4294967296] = zs1 at hown1
      have hzl1 : zs1.length ≤ 2 * k + 1 := by rw [← hzs1]; simp; omega
      have HZ1 := Lib.hid hzs1
      clear hown hown' hgrow hac hzs1 hb
      go_wp2_with (at_builtin; refine wpList_append_own _ rfl (.tmp 18) (.tmp 24) 49 rfl w.heap.size 34 i0 (.int .u64 0) 1 8 Tryz.underlying49 hi hz0 hz1 hz2 rfl (by decide) _ _ _ rfl (hown1.out.alloc _) ⟨w1.heap.size, 0, none⟩ 1 1 [.int .u64 (x / 4294967296)] rfl rfl ?d1 ?d2 ?d3 ?d4 ?d5 ?_)
      case d1 => exact cell_one_new _ _ _
      case d2 => intro u hu; simp at hu; subst hu; rfl
      case d3 => unfold maxLen; omega
      case d4 => omega
      case d5 => have := hb1.size; simp; omega
      intro v2 w2 hown2 hgrow2 _
      have hb2 := own_below hb1 hown1 hgrow2
      have hown3 : Own 34 w.heap.size w2 v2 (zs1 ++ [x / 4294967296]) := Own.snoc hown2
      have HO := Lib.hid hown3
      clear hown1 hown2 hgrow2 hown3 hac1
      go_wp2
      go_roundw
      case rel => exact ⟨k + 1, _, by omega, by go_num, HO.out, hb2, Lib.hid (by rw [HT.out, hl_append, ← HZ.out, ← HZ1.out]; simp [hl])⟩
      case measure => simp [mes, intOf]; omega
    · obtain rfl : k = n := by omega
      obtain ⟨A2, c2, rfl⟩ := own_form hown
      have hz : zs = hl xs := by rw [HZ.out, List.take_of_length_le (by have := HL.out; omega)]
      subst hz
      have hsl := hown.sl (U_Dg ((hl_Dg (Dg_U h.us)).mono H_le_W))
      have R := ref_trim_own hsl (by omega)
      rw [hl_trim (Dg_U h.us)] at R
      have HR := Lib.hid R
      clear R hsl hown
      go_wp2_with fail
      refine HR.out.mono ?_
      rintro e w' ⟨v3, rfl, s3, b3⟩
      go_wp2_with fail
      go_ret
      exact ⟨_, rfl, s3.mono hb.size, hb.trans (b3.mono hb.size)⟩
theorem ref_halves {w : World} {A : Option Addr} {n c : Nat} {xs : List Int} (h : Sl w A n c xs) (hn : n ≤ 10000000) :
    Calls Tryz.prog 108 #[.slice A n c] w (RetSl (hwords (val xs)) w) :=
  (ref_halves_own h hn).mono fun _ _ ⟨_, he, ho, hb⟩ => he ▸ retSl_own ho (hwords_U _) hb

set_option maxHeartbeats 1000000 in
theorem ref_whole {w : World} {A : Option Addr} {n c : Nat} {hs : List Int} (h : Sl w A n c hs) (hd : Dg H hs) (hn : n ≤ 20000000) :
    Calls Tryz.prog 109 #[.slice A n c] w (RetSl (words (valB H hs)) w) := by
  have hlen := h.len
  have HL := Lib.hid hlen
  clear hlen
  obtain ⟨i0, hi, hz0, hz1, hz2⟩ := info_parts infoW
  go_enter Tryz.func109, Tryz.ntmps109
  go_wp2_with fail
  go_loopw [3, 4] (fun v i wr => ∃ (k : Nat) (zs : List Int), k ≤ n ∧ 2 * k ≤ n + 1 ∧ i = .int .i64 (2 * (k : Int)) ∧ Own 34 w.heap.size wr v zs ∧ Below w.heap.size w wr ∧ WholeInv hs k zs) (fun _ i _ => n + 2 - mes i)
  case atStart => exact ⟨0, [], by omega, by omega, rfl, Own.nil _ _ _, Below.refl _ _, wholeInv_0 hs⟩
  case round =>
    obtain ⟨k, zs, hk, hk1, rfl, hown, hb, hz⟩ := hrel
    have hzl : zs.length ≤ k := Nat.le_of_eq hz.1
    by_cases hk2 : 2 * k < n
    · obtain ⟨ba, off, rfl, hba, hca⟩ := h.at_ (k := 2 * k) (by omega)
      have hac := (hb.cell (p := ⟨ba, off + 2 * k, none⟩) hba).trans (hca (2 * k) (by omega))
      have hst := wholeInv_step hd hz
      have d0 := hd.at_ H_pos (2 * k)
      have d1 := hd.at_ H_pos (2 * k + 1)
      have hor := whole_or d0 d1
      have hp : n ≤ 2 * k + 1 → hs.getD (2 * k + 1) 0 = 0 := fun h9 => by rw [List.getD_eq_getElem?_getD, List.getElem?_eq_none (by have := HL.out; omega)]; rfl
      have hcb : 2 * k + 1 < n → wr.cell? ⟨ba, off + (2 * k + 1), none⟩ = some (.int .u64 (hs.getD (2 * k + 1) 0)) := fun h9 => (hb.cell (p := ⟨ba, off + (2 * k + 1), none⟩) hba).trans (hca (2 * k + 1) h9)
      generalize hs.getD (2 * k) 0 = x at *
      generalize hs.getD (2 * k + 1) 0 = y at *
      have e2k : (2 * (k : Int)).toNat = 2 * k := by omega
      have hkn : 2 * (k : Int) < (n : Int) := by omega
      by_cases hk3 : 2 * k + 1 < n
      · have hbc := hcb hk3
        have hkn2 : 2 * (k : Int) + 1 < (n : Int) := by omega
        obtain ⟨z, ez⟩ : ∃ z, x + y * 4294967296 = z := ⟨_, rfl⟩
        rw [ez] at hst
        have d1' : y < 4294967296 := by have := d1.2; unfold H at this; omega
        have d1n := d1.1
        have hor2 : bits BinOp.or IntKind.u64 x (y * 4294967296) = z := by rw [← ez, ← hor, wrapU_lo, lo_U]; unfold U; omega
        have HS := Lib.hid hst
        clear hst d0 d1 hor hp hcb hca hz ez
        go_wp2_with (at_builtin; refine wpList_append_own _ rfl (.tmp 29) (.tmp 31) 49 rfl w.heap.size 34 i0 (.int .u64 0) 1 8 Tryz.underlying49 hi hz0 hz1 hz2 rfl (by decide) _ _ _ rfl (hown.out.alloc _) ⟨wr.heap.size, 0, none⟩ 1 1 [.int .u64 (z)] rfl rfl ?c1 ?c2 ?c3 ?c4 ?c5 ?_)
        case c1 => exact cell_one_new _ _ _
        case c2 => intro u hu; simp at hu; subst hu; rfl
        case c3 => unfold maxLen; omega
        case c4 => omega
        case c5 => have := hb.size; simp; omega
        intro v' w1 hown' hgrow _
        have hb1 := own_below hb hown hgrow
        have HO := Lib.hid (Own.snoc hown')
        clear hown hown' hgrow hac hbc
        go_wp2
        go_roundw
        case rel => exact ⟨k + 1, _, by omega, by omega, by go_num, HO.out, hb1, HS.out⟩
        case measure => simp [mes, intOf]; omega
      · have hy := hp (by omega)
        subst hy
        have hkn2 : (n : Int) ≤ 2 * (k : Int) + 1 := by omega
        rw [Int.zero_mul, Int.add_zero] at hst
        have HS := Lib.hid hst
        clear hst d0 d1 hor hp hcb hca hz
        go_wp2_with (at_builtin; refine wpList_append_own _ rfl (.tmp 29) (.tmp 31) 49 rfl w.heap.size 34 i0 (.int .u64 0) 1 8 Tryz.underlying49 hi hz0 hz1 hz2 rfl (by decide) _ _ _ rfl (hown.out.alloc _) ⟨wr.heap.size, 0, none⟩ 1 1 [.int .u64 (x)] rfl rfl ?d1 ?d2 ?d3 ?d4 ?d5 ?_)
        case d1 => exact cell_one_new _ _ _
        case d2 => intro u hu; simp at hu; subst hu; rfl
        case d3 => unfold maxLen; omega
        case d4 => omega
        case d5 => have := hb.size; simp; omega
        intro v' w1 hown' hgrow _
        have hb1 := own_below hb hown hgrow
        have HO := Lib.hid (Own.snoc hown')
        clear hown hown' hgrow hac
        go_wp2
        go_roundw
        case rel => exact ⟨k + 1, _, by omega, by omega, by go_num, HO.out, hb1, HS.out⟩
        case measure => simp [mes, intOf]; omega
    · obtain ⟨A2, c2, rfl⟩ := own_form hown
      have hdz : Dg W zs := hz.2.1
      have hv := wholeInv_end hz (by have := HL.out; omega)
      have hsl := hown.sl (U_Dg hdz)
      have R := ref_trim hsl (by omega)
      rw [hv] at R
      have HR := Lib.hid R
      have hkn : (n : Int) ≤ 2 * (k : Int) := by omega
      clear R hsl hown hz hv
      go_wp2_with fail
      refine HR.out.mono ?_
      rintro e w' ⟨A3, n3, c3, rfl, s3, b3⟩
      go_wp2_with fail
      go_ret
      exact ⟨_, _, _, rfl, s3, hb.trans (b3.mono hb.size)⟩

end Go.Proofs.YthpbaaanbimapaaGreatDoor

namespace Go.Proofs.YthpbaaanbimapaaGreatDoor
set_option maxRecDepth 100000
open Go.RowKit
set_option linter.unusedVariables false
set_option linter.unusedSimpArgs false

theorem quiet_eq {P : Program} {f : FuncId} {args : Array Value} {w : World} {n : Nat} {v : Value} (h : Calls P f args (w.drewN n) fun e w' => e = .returned v ∧ w.drewN n = w') :
    Calls P f args (w.drewN n) fun e w' => e = .returned v ∧ ∃ m, w' = w.drewN m := h.mono fun _ _ ⟨he, hw⟩ => ⟨he, n, hw.symm⟩
theorem wd_Dg {b : Nat} (hb : 0 < b) {xs : List Int} (h : Dg b xs) (k : Nat) : 0 ≤ wd xs k ∧ wd xs k < b := by rw [wd_nat]; exact h.at_ hb k

set_option maxHeartbeats 1000000 in
theorem ref_nsub {w : World} {A A' : Option Addr} {n n' c c' : Nat} {xs ys : List Int} (h : Sl w A n c xs) (h' : Sl w A' n' c' ys) (hn : n ≤ 1000000) (hn' : n' ≤ 1000000) (hle : val ys ≤ val xs) :
    Calls Tryz.prog 167 #[.slice A n c, .slice A' n' c'] w (RetSl (words (val xs - val ys)) w) := by
  have hl1 := hwords_len (Dg_U h.us) rfl
  have hl2 := hwords_len (Dg_U h'.us) rfl
  have en := h.len
  have en' := h'.len
  have dx := hwords_Dg (val xs)
  have dy := hwords_Dg (val ys)
  have vx := valH_hwords (val xs)
  have vy := valH_hwords (val ys)
  have R1 := ref_halves h (by omega)
  have R2 := fun w1 (hb : Below w.heap.size w w1) => ref_halves (h'.below hb) (by omega)
  generalize hwords (val xs) = X at *
  generalize hwords (val ys) = Y at *
  generalize val xs = a at *
  generalize val ys = b at *
  subst vx vy
  have hX : X.length ≤ 2000000 := by omega
  have hY : Y.length ≤ 2000000 := by omega
  have HR1 := Lib.hid R1
  have HR2 := Lib.hid R2
  have HLE := Lib.hid hle
  clear R1 R2 hl1 hl2 en en' hle
  obtain ⟨i0, hi, hz0, hz1, hz2⟩ := info_parts infoW
  go_enter Tryz.func167, Tryz.ntmps167
  go_wp2_with fail
  refine HR1.out.mono ?_
  rintro e w1 ⟨A1, n1, c1, rfl, s1, b1⟩
  go_wp2_with fail
  refine (HR2.out w1 b1).mono ?_
  rintro e w2 ⟨A2, n2, c2, rfl, s2, b2⟩
  have s1' := s1.below b2
  have bw : Below w.heap.size w w2 := b1.trans (b2.mono b1.size)
  have l1 : n1 ≤ 2000000 := by rw [s1.len]; exact hX
  have l2 : n2 ≤ 2000000 := by rw [s2.len]; exact hY
  have HX := Lib.hid s1.len
  clear HR1 HR2 s1 b1 b2 h h' hX hY
  go_wp2_with fail
  go_loopw [7, 8, 17] (fun v cv i wr => ∃ (k : Nat) (cy : Int) (zs : List Int), k ≤ n1 ∧ i = .int .i64 k ∧ cv = .int .u64 cy ∧ Own 34 w2.heap.size wr v zs ∧ Below w2.heap.size w2 wr ∧ HSubInv X Y k cy zs) (fun _ _ i _ => n1 - mes i)
  case atStart => exact ⟨0, 0, [], by omega, rfl, rfl, Own.nil _ _ _, Below.refl _ _, hSubInv_0 X Y⟩
  case round =>
    obtain ⟨k, cy, zs, hk, rfl, rfl, hown, hb, hz⟩ := hrel
    have hzl : zs.length ≤ k := Nat.le_of_eq hz.1
    by_cases hk2 : k < n1
    · obtain ⟨ba, off, rfl, hba, hca⟩ := s1'.at_ (k := k) (by omega)
      have hac := (hb.cell (p := ⟨ba, off + k, none⟩) hba).trans (hca k (by omega))
      have g2 := fun W1 (hW : Sl W1 A2 n2 c2 Y) => ref_at hW (by omega) (k : Int) (by omega)
      have hst := hSubInv_step dx dy hz
      have hc1 := hz.2.2.1.1
      have hc2 := hz.2.2.1.2
      have q1 := wd_Dg H_pos dx k
      have q2 := wd_Dg H_pos dy k
      rw [← wd_nat, ← wd_nat] at hst
      rw [← wd_nat] at hac
      generalize wd X k = x at *
      generalize wd Y k = y at *
      unfold H at q1 q2
      obtain ⟨q1a, q1b⟩ := q1
      obtain ⟨q2a, q2b⟩ := q2
      have q1c : x < 4294967296 := by omega
      have q2c : y < 4294967296 := by omega
      obtain ⟨D, eD⟩ : ∃ D, 4294967296 + x - y - cy = D := ⟨_, rfl⟩
      rw [eD] at hst
      have hD0 : 0 ≤ D := by omega
      have hD1 : D < 8589934592 := by omega
      have ea : bits BinOp.and IntKind.u64 D 4294967295 = D % 4294967296 := and32 (by unfold U; omega)
      have k1 : IntKind.u64.wrap (4294967296 + x) = 4294967296 + x := by rw [wrapU_lo, lo_U]; unfold U; omega
      have k2 : IntKind.u64.wrap (4294967296 + x - y) = 4294967296 + x - y := by rw [wrapU_lo, lo_U]; unfold U; omega
      have k3 : IntKind.u64.wrap (4294967296 + x - y - cy) = D := by rw [wrapU_lo, lo_U, eD]; unfold U; omega
      have k4 : 4294967296 + x - y - cy = D := eD
      have hD2 : 0 ≤ 1 - D / 4294967296 := by omega
      have hD3 : 1 - D / 4294967296 ≤ 1 := by omega
      have HSL := Lib.hid (s2.below hb)
      have G2 := Lib.hid g2
      have HS := Lib.hid hst
      have hk3 : (k : Int) < (n1 : Int) := by omega
      clear g2 hst hz q1b q2b hca eD
      go_wp2_with fail
      go_quiet ((go_at_call 163; exact quiet_eq (G2.out _ (by exact HSL.out))))
      have ho2 : Own 34 w2.heap.size (wr.drewN nq) u7 zs := hown
      have hb2 : Below w2.heap.size w2 (wr.drewN nq) := Below.drewN' hb nq
      clear k1 k2 k3 k4 hown hb hac HSL G2
      generalize wr.drewN nq = wq at ho2 hb2 ⊢
      go_wp2_with (at_builtin; refine wpList_append_own _ rfl (.tmp 31) (.tmp 34) 49 rfl w2.heap.size 34 i0 (.int .u64 0) 1 8 Tryz.underlying49 hi hz0 hz1 hz2 rfl (by decide) _ _ _ rfl (ho2.out.alloc _) ⟨wq.heap.size, 0, none⟩ 1 1 [.int .u64 (D % 4294967296)] rfl rfl ?c1 ?c2 ?c3 ?c4 ?c5 ?_)
      case c1 => exact cell_one_new _ _ _
      case c2 => intro u hu; simp at hu; subst hu; rfl
      case c3 => unfold maxLen; omega
      case c4 => omega
      case c5 => have := hb2.size; simp; omega
      intro v' w3 hown' hgrow _
      have hb1 := own_below hb2 ho2 hgrow
      have HO := Lib.hid (Own.snoc hown')
      clear ho2 hown' hgrow
      go_wp2
      go_roundw
      case rel => exact ⟨k + 1, _, _, by omega, by go_num, rfl, HO.out, hb1, HS.out⟩
      case measure => simp [mes, intOf]; omega
    · obtain rfl : k = n1 := by omega
      obtain ⟨A3, c3, rfl⟩ := own_form hown
      have hdz : Dg H zs := hz.2.1
      have hv := hSubInv_end dx dy hz HX.out.symm HLE.out
      have hsl := hown.sl (U_Dg (hdz.mono H_le_W))
      have R := ref_whole hsl hdz (by omega)
      rw [hv] at R
      have HR := Lib.hid R
      clear R hsl hown hz hv
      go_wp2_with fail
      refine HR.out.mono ?_
      rintro e w' ⟨A4, n4, c4, rfl, s4, b4⟩
      go_wp2_with fail
      go_ret
      exact ⟨_, _, _, rfl, s4, bw.trans ((hb.trans (b4.mono hb.size)).mono bw.size)⟩

end Go.Proofs.YthpbaaanbimapaaGreatDoor

namespace Go.Proofs.YthpbaaanbimapaaGreatDoor
set_option maxRecDepth 100000
open Go.RowKit
set_option linter.unusedVariables false
set_option linter.unusedSimpArgs false

theorem below_alloc (w : World) (o : Obj) : Below w.heap.size w (w.alloc o) := (Below.refl _ _).alloc (Nat.le_refl _) _
/-- of the blocks that were there, block g alone may have turned -/
structure Keep (g : Nat) (w w' : World) : Prop where
  os : w'.os = w.os
  tape : w'.tape = w.tape
  output : w'.output = w.output
  size : w.heap.size ≤ w'.heap.size
  block : ∀ k, k < w.heap.size → k ≠ g → w'.heap[k]? = w.heap[k]?
theorem Keep.refl (g : Nat) (w : World) : Keep g w w := ⟨rfl, rfl, rfl, Nat.le_refl _, fun _ _ _ => rfl⟩
theorem Keep.trans {g : Nat} {a b c : World} (h : Keep g a b) (k : Keep g b c) : Keep g a c :=
  ⟨k.os.trans h.os, k.tape.trans h.tape, k.output.trans h.output, Nat.le_trans h.size k.size, fun i hi hg => (k.block i (Nat.lt_of_lt_of_le hi h.size) hg).trans (h.block i hi hg)⟩
theorem Keep.setCell {g : Nat} {a w : World} (h : Keep g a w) (i : Nat) (u : Value) : Keep g a (w.setCell ⟨g, i, none⟩ u) :=
  h.trans ⟨rfl, rfl, rfl, by simp [World.setCell], fun k _ hg => Below.heap_setCell _ _ _ _ hg⟩
theorem Keep.drew {g : Nat} {a w : World} (h : Keep g a w) : Keep g a w.drew := ⟨h.os, h.tape, h.output, h.size, h.block⟩
theorem Keep.drewN {g : Nat} {a w : World} (h : Keep g a w) (n : Nat) : Keep g a (w.drewN n) := ⟨h.os, h.tape, h.output, h.size, h.block⟩
theorem Keep.alloc {g : Nat} {a w : World} (h : Keep g a w) (o : Obj) : Keep g a (w.alloc o) :=
  h.trans ⟨rfl, rfl, rfl, by simp, fun k hk _ => Below.heap_alloc _ _ _ hk⟩
theorem Keep.of_below (g : Nat) {w w' : World} (h : Below w.heap.size w w') : Keep g w w' := ⟨h.os, h.tape, h.output, h.size, fun k hk _ => h.block k hk⟩
theorem Keep.below {g B : Nat} {w w' : World} (h : Keep g w w') (hg : B ≤ g) (hB : B ≤ w.heap.size) : Below B w w' :=
  ⟨h.os, h.tape, h.output, h.size, fun k hk => h.block k (by omega) (by omega)⟩
theorem Below.keep {B g : Nat} {a w w' : World} (h : Below B a w) (k : Keep g w w') (hg : B ≤ g) (hB : B ≤ a.heap.size) : Below B a w' :=
  h.trans (k.below hg (Nat.le_trans hB h.size))
theorem Row.keep {t : TypeId} {w w' : World} {g g' : Nat} {zs : List Int} (h : Row t w g zs) (k : Keep g' w w') (hg : g ≠ g') : Row t w' g zs := (k.block g h.lt hg).trans h

/-- block g of w is just the cells vs, none frozen -/
def Box (t : TypeId) (w : World) (g : Nat) (vs : Array Value) : Prop := w.heap[g]? = some (.cells vs t (0, 0))
section
variable {t : TypeId} {w w' : World} {g : Nat} {vs : Array Value}
theorem Box.new (w : World) (t : TypeId) (vs : Array Value) : Box t (w.alloc (.cells vs t)) w.heap.size vs := heap_alloc_new w _
theorem Box.lt (h : Box t w g vs) : g < w.heap.size := by
  rcases Nat.lt_or_ge g w.heap.size with hlt | hge
  · exact hlt
  · unfold Box at h; rw [Array.getElem?_eq_none hge] at h; cases h
theorem Box.below {B : Nat} (h : Box t w g vs) (hb : Below B w w') (hg : g < B) : Box t w' g vs := (hb.block g hg).trans h
theorem Box.below' (h : Box t w g vs) (hb : Below w.heap.size w w') : Box t w' g vs := h.below hb h.lt
theorem Box.alloc (h : Box t w g vs) (o : Obj) : Box t (w.alloc o) g vs := h.below (below_alloc w o) h.lt
theorem Box.cell (h : Box t w g vs) (i : Nat) : w.cell? ⟨g, i, none⟩ = vs[i]? := by
  rw [cell_of_row w g i _ t (0, 0) h]
theorem Box.free (h : Box t w g vs) (i : Nat) : w.frozen? ⟨g, i, none⟩ = false := by
  unfold Box at h
  simp [World.frozen?, h]
/-- the three cells of a box of a number -/
theorem Box.three {v0 v1 v2 : Value} (h : Box t w g #[v0, v1, v2]) :
    (w.cell? ⟨g, 0, none⟩ = some v0 ∧ w.cell? ⟨g, 1, none⟩ = some v1 ∧ w.cell? ⟨g, 2, none⟩ = some v2) ∧
    (w.frozen? ⟨g, 0, none⟩ = false ∧ w.frozen? ⟨g, 1, none⟩ = false ∧ w.frozen? ⟨g, 2, none⟩ = false) :=
  ⟨⟨h.cell 0, h.cell 1, h.cell 2⟩, h.free 0, h.free 1, h.free 2⟩
end
theorem bb {a b c : World} (h : Below a.heap.size a b) (k : Below b.heap.size b c) : Below a.heap.size a c := h.trans (k.mono h.size)
theorem box0 (t : TypeId) (w : World) (vs : Array Value) : ∃ V, w.alloc (.cells vs t) = V ∧ Box t V w.heap.size vs ∧ Below w.heap.size w V := ⟨_, rfl, Box.new w t vs, below_alloc _ _⟩

/-- a call that returns an integer, a bool, and turns nothing that was there -/
def RetI (z : Int) (w : World) (e : Ending) (w' : World) : Prop := e = .returned (.int .i64 z) ∧ Below w.heap.size w w'
def RetBl (b : Bool) (w : World) (e : Ending) (w' : World) : Prop := e = .returned (.bool b) ∧ Below w.heap.size w w'
end Go.Proofs.YthpbaaanbimapaaGreatDoor

namespace Go.Proofs.YthpbaaanbimapaaGreatDoor
set_option maxRecDepth 100000
open Go.RowKit
set_option linter.unusedVariables false
set_option linter.unusedSimpArgs false

theorem sl_lit (w : World) (x : Int) (hx : U x) : Sl (w.alloc (.cells #[.int .u64 x] 34)) (some ⟨w.heap.size, 0, none⟩) 1 1 [x] :=
  (Row.lit w 34 [x]).sl (by intro y hy; simp at hy; subst hy; exact hx) (by simp)

theorem val_lt_pow {xs : List Int} (h : ∀ x ∈ xs, U x) {k : Nat} (hk : xs.length ≤ k) : val xs < W ^ k :=
  Nat.lt_of_lt_of_le (valB_lt (Dg_U h)) (Nat.pow_le_pow_right W_pos hk)
theorem add_lt_pow {a b k : Nat} (ha : a < W ^ k) (hb : b < W ^ k) : a + b < W ^ (k + 1) := by
  have : W ^ k * 2 ≤ W ^ k * W := Nat.mul_le_mul_left _ two_le_W
  rw [Nat.pow_succ]
  omega
theorem Sl.small {w : World} {A : Option Addr} {n c v k : Nat} (h : Sl w A n c (words v)) (hv : v < W ^ k) : n ≤ k := by
  rw [h.len]; exact words_length v k hv

end Go.Proofs.YthpbaaanbimapaaGreatDoor

namespace Go.Proofs.YthpbaaanbimapaaGreatDoor
set_option maxRecDepth 100000
open Go.RowKit
set_option linter.unusedVariables false
set_option linter.unusedSimpArgs false

/-- the slice reads as xs, and does not lie in block g -/
def SlN (g : Nat) (w : World) (A : Option Addr) (n c : Nat) (xs : List Int) : Prop :=
  Sl w A n c xs ∧ (0 < n → ∃ b off, A = some ⟨b, off, none⟩ ∧ b ≠ g)
theorem SlN.sl {g : Nat} {w : World} {A : Option Addr} {n c : Nat} {xs : List Int} (h : SlN g w A n c xs) : Sl w A n c xs := h.1
theorem SlN.keep {g : Nat} {w w' : World} {A : Option Addr} {n c : Nat} {xs : List Int} (h : SlN g w A n c xs) (k : Keep g w w') : SlN g w' A n c xs := by
  refine ⟨⟨h.1.1, fun h0 => ?_⟩, h.2⟩
  obtain ⟨b, off, e, hlt, hc⟩ := h.1.2 h0
  obtain ⟨b', off', e', hne⟩ := h.2 h0
  rw [e] at e'
  injection e' with e'
  injection e' with e1 e2
  subst e1 e2
  exact ⟨b, off, e, Nat.lt_of_lt_of_le hlt k.size, fun j hj => (World.cell?_of_block (w := w) (k.block b hlt hne)).trans (hc j hj)⟩
theorem Sl.apart {g : Nat} {w : World} {A : Option Addr} {n c : Nat} {xs : List Int} (h : Sl w A n c xs) (hg : w.heap.size ≤ g) : SlN g w A n c xs := by
  refine ⟨h, fun h0 => ?_⟩
  obtain ⟨b, off, e, hlt, _⟩ := h.2 h0
  exact ⟨b, off, e, by omega⟩
theorem Sl.apart' {g : Nat} {w w' : World} {A : Option Addr} {n c : Nat} {xs : List Int} (h : Sl w A n c xs) (hb : Below w.heap.size w w') (hg : w.heap.size ≤ g) : SlN g w' A n c xs := by
  refine ⟨h.below hb, fun h0 => ?_⟩
  obtain ⟨b, off, e, hlt, _⟩ := h.2 h0
  exact ⟨b, off, e, by omega⟩
theorem SlN.at_ {g : Nat} {w : World} {A : Option Addr} {n c k : Nat} {xs : List Int} (h : SlN g w A n c xs) (hk : k < n) :
    ∃ b off, A = some ⟨b, off, none⟩ ∧ b ≠ g ∧ w.cell? ⟨b, off + k, none⟩ = some (.int .u64 (xs.getD k 0)) := by
  obtain ⟨b, off, e, hlt, hc⟩ := h.1.2 (by omega)
  obtain ⟨b', off', e', hne⟩ := h.2 (by omega)
  rw [e] at e'
  injection e' with e'
  injection e' with e1 e2
  subst e1 e2
  exact ⟨b, off, e, hne, hc k hk⟩
/-- the part from k on; the model keeps the address where nothing can lie behind it -/
theorem Sl.drop {w : World} {b off n c k : Nat} {xs : List Int} (h : Sl w (some ⟨b, off, none⟩) n c xs) (hk : k ≤ n) : Sl w (some ⟨b, off + k, none⟩) (n - k) (c - k) (xs.drop k) := by
  refine ⟨⟨by rw [List.length_drop, h.1.1], by have := h.cap; omega, fun x hx => h.us x (List.mem_of_mem_drop hx)⟩, fun h0 => ?_⟩
  obtain ⟨b', off', e, hlt, hc⟩ := h.2 (by omega)
  injection e with e
  injection e with e1 e2
  subst e1 e2
  refine ⟨b, off + k, rfl, hlt, fun j hj => ?_⟩
  rw [Nat.add_assoc, hc (k + j) (by omega)]
  simp [List.getD_eq_getElem?_getD, List.getElem?_drop]
/-- a part of a row that is known whole -/
theorem Row.part {t : TypeId} {w : World} {g off n c : Nat} {zs : List Int} (h : Row t w g zs) (hd : Dg W zs) (hfit : off + n ≤ zs.length) (hc : n ≤ c) : Sl w (some ⟨g, off, none⟩) n c ((zs.drop off).take n) := by
  refine ⟨⟨by rw [List.length_take, List.length_drop]; omega, hc, fun x hx => U_Dg hd x (List.mem_of_mem_drop (List.mem_of_mem_take hx))⟩, fun h0 => ⟨g, off, rfl, h.lt, fun j hj => ?_⟩⟩
  rw [h.cell (by omega)]
  simp [List.getD_eq_getElem?_getD, List.getElem?_take, List.getElem?_drop, hj]
/-- make([]uint64, n): a block of zeros; the world behind it is a name -/
theorem make_words (w : World) (n : Nat) (hn : n ≤ 1000000000) : ∃ w1, (Instr.makeSlice 49 (.int .i64 (n : Int)) (.int .i64 (n : Int))).run Tryz.prog w = .ok (.slice (some ⟨w.heap.size, 0, none⟩) n n) w1 ∧ Row 34 w1 w.heap.size (List.replicate n 0) ∧ Below w.heap.size w w1 ∧ w.heap.size < w1.heap.size :=
  ⟨_, run_make_row' (P := Tryz.prog) 49 34 (.int .u64 0) 8 Tryz.underlying49 infoW rfl .i64 .i64 n (by omega) (by omega) w, Row.new w 34 n, (Below.refl _ _).alloc (Nat.le_refl _) _, by simp⟩
theorem Keep.setRow {g : Nat} {a w : World} (h : Keep g a w) (cs : Array Value) : Keep g a (w.setRow g cs) :=
  h.trans ⟨rfl, rfl, rfl, by simp [World.setRow], fun k _ hg => setRow_other w g k cs hg⟩
/-- the list zs with xs laid over it from place off on -/
def spl (zs : List Int) (off : Nat) (xs : List Int) : List Int := zs.take off ++ (xs ++ zs.drop (off + xs.length))
theorem length_spl {zs xs : List Int} {off : Nat} (h : off + xs.length ≤ zs.length) : (spl zs off xs).length = zs.length := by
  unfold spl; simp; omega
theorem Dg.spl {b : Nat} {zs xs : List Int} (hz : Dg b zs) (hx : Dg b xs) (off : Nat) : Dg b (spl zs off xs) := (hz.take _).append (hx.append (hz.drop _))
theorem add_none (b off j : Nat) : ((⟨b, off, none⟩ : Addr).add j) = ⟨b, off + j, none⟩ := by
  unfold Addr.add; split
  · subst_vars; rfl
  · rfl
/-- copy of a list of words into a row that is known whole, the whole source fitting -/
theorem wpList_copy_words {P : Program} {w : World} {ops : Array Oper} {rest : List Oper} {o : Oper} {a : Act} {Q : Exit → Act → World → Prop} (hgd : o.guard = none) (d s : Operand) (dT sT : TypeId)
    (ho : o.op = .call { callee := .builtin .copy, args := #[d, s], argTypes := #[dT, sT] }) (t : TypeId) (hu : P.underlying dT = some (.slice t)) (hsz : (P.info? t).map (·.size) = some 1)
    (g off dLen dCap : Nat) (sp : Option Addr) (sLen sCap : Nat) (hd : a.eval d = .slice (some ⟨g, off, none⟩) dLen dCap) (hs : a.eval s = .slice sp sLen sCap)
    (zs xs : List Int) (hr : Row t w g zs) (hsl : Sl w sp sLen sCap xs) (hle : sLen ≤ dLen) (hfit : off + sLen ≤ zs.length)
    (h : ∀ w', Hid (Row t w' g (spl zs off xs)) → Hid (Keep g w w') → wpList P ops Q rest (a.put o.dst (goInt sLen)) w') : wpList P ops Q (o :: rest) a w := by
  have hl : xs.length = sLen := hsl.len.symm
  by_cases h0 : sLen = 0
  · subst h0
    obtain rfl : xs = [] := List.eq_nil_of_length_eq_zero hl
    refine wpList_copy_nothing hgd d s dT sT ho t hu hsz _ sp dLen dCap 0 sCap hd hs (by simp) ?_
    exact h w (show Row t w g (spl zs off []) by unfold spl; simpa using hr) (Keep.refl _ _)
  · obtain ⟨b, off', rfl, _, hc⟩ := hsl.at_ (k := 0) (by omega)
    have e : (xs.map (Value.int .u64)).length = Nat.min sLen dLen := by rw [List.length_map, hl]; exact (Nat.min_eq_left hle).symm
    refine wpList_copy_own hgd d s dT sT ho t hu hsz g off dLen dCap _ sLen sCap hd hs (zs.map (Value.int .u64)).toArray t hr (xs.map (Value.int .u64)) e ?_ (by simp; omega) (ints_oneCell .u64 _) ?_
    · intro j v hv
      have hj : j < xs.length := by have := (List.getElem?_eq_some_iff.1 hv).1; simpa using this
      rw [add_none, hc j (by omega)]
      rw [List.getElem?_map, List.getElem?_eq_getElem hj] at hv
      rw [← hv]
      simp [List.getD_eq_getElem?_getD, List.getElem?_eq_getElem hj]
    · rw [List.length_map, hl]
      refine h _ ?_ ((Keep.refl _ _).setRow _)
      show Row t _ g _
      have := setRow_heap w g (zs.map (Value.int .u64)).toArray ((zs.map (Value.int .u64)).toArray.toList.take off ++ (xs.map (Value.int .u64) ++ (zs.map (Value.int .u64)).toArray.toList.drop (off + sLen))).toArray t (0, 0) hr
      unfold Row spl
      rw [this, hl]
      simp [List.map_take, List.map_drop]
/-- what a call leaves that writes into block g alone: nothing returned, a new list there of which T holds -/
def Wrote (t : TypeId) (g : Nat) (T : List Int → Prop) (w : World) (e : Ending) (w' : World) : Prop := ∃ zs', e = .returned (.tuple #[]) ∧ Row t w' g zs' ∧ Keep g w w' ∧ T zs'
theorem Sl.new {w w' : World} {A : Option Addr} {n c g : Nat} {xs : List Int} (h : Sl w' A n c xs) (hn : New w A) (hg : g < w.heap.size) : SlN g w' A n c xs := by
  refine ⟨h, fun h0 => ?_⟩
  obtain ⟨b, off, e, _, _⟩ := h.2 h0
  exact ⟨b, off, e, by have := hn b off e; omega⟩
/-- a call that returns a slice of n words that say v, in new memory -/
def RetV (n v : Nat) (w : World) (e : Ending) (w' : World) : Prop := ∃ A c zs, e = .returned (.slice A n c) ∧ Sl w' A n c zs ∧ val zs = v ∧ Below w.heap.size w w' ∧ New w A

end Go.Proofs.YthpbaaanbimapaaGreatDoor

namespace Go.Proofs.YthpbaaanbimapaaGreatDoor
set_option maxRecDepth 100000
open Go.RowKit
set_option linter.unusedVariables false
set_option linter.unusedSimpArgs false

/-! ### a row -/
/-- where a row that is added stands: k words of xs are gone through -/
def RowInv (zs xs : List Int) (off : Nat) (m : Int) (k : Nat) (cy : Int) (ys : List Int) : Prop :=
  ys.length = zs.length ∧ Dg W ys ∧ U cy ∧ valB W ys + W ^ (off + k) * cy.toNat = valB W zs + W ^ off * (valB W (xs.take k) * m.toNat) ∧ ∀ j, off + k ≤ j → ys.getD j 0 = zs.getD j 0
theorem rowInv_0 {zs : List Int} (hd : Dg W zs) (xs : List Int) (off : Nat) (m : Int) : RowInv zs xs off m 0 0 zs :=
  ⟨rfl, hd, U_0, by simp [valB], fun _ _ => rfl⟩
/-- what one word of a row comes to -/
theorem row_word {x m z cy : Int} (hx : U x) (hm : U m) (hz : U z) (hc : U cy) :
    U (hi64 (x * m) + hi64 (lo64 (x * m) + z + cy)) ∧ x.toNat * m.toNat + z.toNat + cy.toNat = (lo64 (lo64 (x * m) + z + cy)).toNat + W * (hi64 (x * m) + hi64 (lo64 (x * m) + z + cy)).toNat := by
  have hb := mul_bound (A := 18446744073709551615) (B := 18446744073709551615) hx.1 (by have := hx.2; omega) hm.1 (by have := hm.2; omega)
  have e : x.toNat * m.toNat = (x * m).toNat := by rw [Int.toNat_mul hx.1 hm.1]
  rw [e]
  generalize x * m = p at *
  unfold U at *
  unfold hi64 lo64 W
  omega
theorem row_alg (b P Q A B X m c d cy' y z : Nat) (h : A + P * Q * c = B + P * (X * m)) (e : y * m + z + c = d + b * cy') : A + P * Q * d + P * Q * b * cy' = B + P * ((X + Q * y) * m) + P * Q * z := by
  have e1 : P * Q * d + P * Q * b * cy' = P * Q * (y * m + z + c) := by rw [e, Nat.mul_add, Nat.mul_assoc (P * Q) b cy']
  have e2 : P * ((X + Q * y) * m) = P * (X * m) + P * Q * (y * m) := by grind
  have e3 : P * Q * (y * m + z + c) = P * Q * (y * m) + P * Q * z + P * Q * c := by rw [Nat.mul_add, Nat.mul_add]
  omega
theorem rowInv_step {zs xs ys : List Int} {off k : Nat} {m cy d cy' : Int} (hx : Dg W xs) (h : RowInv zs xs off m k cy ys) (hk : off + k < zs.length)
    (hd : U d) (hc' : U cy') (e : (xs.getD k 0).toNat * m.toNat + (zs.getD (off + k) 0).toNat + cy.toNat = d.toNat + W * cy'.toNat) : RowInv zs xs off m (k + 1) cy' (ys.set (off + k) d) := by
  obtain ⟨h1, h2, h3, h4, h5⟩ := h
  refine ⟨by rw [List.length_set, h1], h2.set _ hd.1 (by have := hd.2; unfold W; omega), hc', ?_, fun j hj => ?_⟩
  · have hs := valB_set W ys (off + k) (by omega) d
    rw [h5 (off + k) (Nat.le_refl _)] at hs
    rw [valB_take_succ]
    rw [Nat.pow_add] at h4 hs
    have := row_alg W (W ^ off) (W ^ k) _ _ _ _ _ _ _ _ _ h4 e
    rw [show off + (k + 1) = off + k + 1 from rfl, Nat.pow_succ, Nat.pow_add]
    omega
  · rw [getD_set_ne _ (by omega)]
    exact h5 j (by omega)
/-- a row was added: xs * m, from place off on -/
def Rowed (zs xs : List Int) (off n v : Nat) (ys : List Int) : Prop :=
  ys.length = zs.length ∧ Dg W ys ∧ valB W ys = valB W zs + W ^ off * v ∧ ∀ j, off + n < j → ys.getD j 0 = zs.getD j 0
theorem rowInv_end {zs xs ys : List Int} {off n : Nat} {m cy : Int} (h : RowInv zs xs off m n cy ys) (hn : xs.length = n) (hk : off + n < zs.length) (h0 : zs.getD (off + n) 0 = 0) :
    Rowed zs xs off n (val xs * m.toNat) (ys.set (off + n) cy) := by
  obtain ⟨h1, h2, h3, h4, h5⟩ := h
  refine ⟨by rw [List.length_set, h1], h2.set _ h3.1 (by have := h3.2; unfold W; omega), ?_, fun j hj => ?_⟩
  · have hs := valB_set W ys (off + n) (by omega) cy
    rw [h5 (off + n) (Nat.le_refl _), h0] at hs
    rw [List.take_of_length_le (by omega)] at h4
    unfold val
    simp at hs
    omega
  · rw [getD_set_ne _ (by omega)]
    exact h5 j (by omega)

/-! ### row by row -/
/-- where a product row by row stands: i words of ys are gone through -/
def RowsInv (xs ys : List Int) (N i : Nat) (zs : List Int) : Prop :=
  zs.length = N ∧ Dg W zs ∧ valB W zs = valB W xs * valB W (ys.take i) ∧ ∀ j, xs.length + i ≤ j → zs.getD j 0 = 0
theorem rowsInv_0 (xs ys : List Int) (N : Nat) : RowsInv xs ys N 0 (List.replicate N 0) :=
  ⟨by simp, Dg.zeros W_pos _, by rw [valB_zeros]; simp [valB], fun j _ => getD_zeros N j⟩
theorem rowsInv_step {xs ys zs us : List Int} {N i : Nat} (h : RowsInv xs ys N i zs) (hr : Rowed zs xs i xs.length (val xs * (ys.getD i 0).toNat) us) : RowsInv xs ys N (i + 1) us := by
  obtain ⟨h1, h2, h3, h4⟩ := h
  obtain ⟨r1, r2, r3, r4⟩ := hr
  refine ⟨by rw [r1, h1], r2, ?_, fun j hj => ?_⟩
  · rw [r3, h3, valB_take_succ, Nat.mul_add]
    unfold val
    have e : W ^ i * (valB W xs * (ys.getD i 0).toNat) = valB W xs * (W ^ i * (ys.getD i 0).toNat) := by
      rw [← Nat.mul_assoc, Nat.mul_comm (W ^ i), Nat.mul_assoc]
    rw [e]
  · rw [r4 j (by omega)]; exact h4 j (by omega)

/-! ### a number is added into a list -/
/-- where a sum into a list stands: k words are gone through -/
def IntoInv (zs xs : List Int) (off : Nat) (k : Nat) (cy : Int) (ys : List Int) : Prop :=
  ys.length = zs.length ∧ Dg W ys ∧ (0 ≤ cy ∧ cy ≤ 1) ∧ valB W ys + W ^ (off + k) * cy.toNat = valB W zs + W ^ off * valB W (xs.take k) ∧ ∀ j, off + k ≤ j → ys.getD j 0 = zs.getD j 0
theorem intoInv_0 {zs : List Int} (hd : Dg W zs) (xs : List Int) (off : Nat) : IntoInv zs xs off 0 0 zs :=
  ⟨rfl, hd, by omega, by simp [valB], fun _ _ => rfl⟩
theorem into_word {x z cy : Int} (hx : U x) (hz : U z) (hc : 0 ≤ cy ∧ cy ≤ 1) :
    (0 ≤ hi64 (z + x + cy) ∧ hi64 (z + x + cy) ≤ 1) ∧ x.toNat + z.toNat + cy.toNat = (lo64 (z + x + cy)).toNat + W * (hi64 (z + x + cy)).toNat := by
  unfold U at *
  unfold hi64 lo64 W
  omega
theorem into_alg (b P Q A B X c d cy' y z : Nat) (h : A + P * Q * c = B + P * X) (e : y + z + c = d + b * cy') : A + P * Q * d + P * Q * b * cy' = B + P * (X + Q * y) + P * Q * z := by
  have e1 : P * Q * d + P * Q * b * cy' = P * Q * (y + z + c) := by rw [e, Nat.mul_add, Nat.mul_assoc (P * Q) b cy']
  have e2 : P * (X + Q * y) = P * X + P * Q * y := by rw [Nat.mul_add, Nat.mul_assoc]
  have e3 : P * Q * (y + z + c) = P * Q * y + P * Q * z + P * Q * c := by rw [Nat.mul_add, Nat.mul_add]
  omega
theorem intoInv_step {zs xs ys : List Int} {off k : Nat} {cy d cy' : Int} (h : IntoInv zs xs off k cy ys) (hk : off + k < zs.length)
    (hd : U d) (hc' : 0 ≤ cy' ∧ cy' ≤ 1) (e : (xs.getD k 0).toNat + (zs.getD (off + k) 0).toNat + cy.toNat = d.toNat + W * cy'.toNat) : IntoInv zs xs off (k + 1) cy' (ys.set (off + k) d) := by
  obtain ⟨h1, h2, h3, h4, h5⟩ := h
  refine ⟨by rw [List.length_set, h1], h2.set _ hd.1 (by have := hd.2; unfold W; omega), hc', ?_, fun j hj => ?_⟩
  · have hs := valB_set W ys (off + k) (by omega) d
    rw [h5 (off + k) (Nat.le_refl _)] at hs
    rw [valB_take_succ]
    rw [Nat.pow_add] at h4 hs
    have := into_alg W (W ^ off) (W ^ k) _ _ _ _ _ _ _ _ h4 e
    rw [show off + (k + 1) = off + k + 1 from rfl, Nat.pow_succ, Nat.pow_add]
    omega
  · rw [getD_set_ne _ (by omega)]
    exact h5 j (by omega)
/-- a number was added from place off on -/
def Intoed (zs : List Int) (off v : Nat) (ys : List Int) : Prop := ys.length = zs.length ∧ Dg W ys ∧ valB W ys = valB W zs + W ^ off * v
/-- nothing is left to add -/
theorem intoInv_stop {zs xs ys : List Int} {off k : Nat} (h : IntoInv zs xs off k 0 ys) (hk : xs.length ≤ k) : Intoed zs off (val xs) ys := by
  obtain ⟨h1, h2, h3, h4, h5⟩ := h
  rw [List.take_of_length_le hk] at h4
  exact ⟨h1, h2, by simpa [val] using h4⟩
/-- at the list's end the sum fits: no carry is left -/
theorem intoInv_end {zs xs ys : List Int} {off k : Nat} {cy : Int} (h : IntoInv zs xs off k cy ys) (hk : xs.length ≤ k) (hl : off + k = zs.length) (hfit : valB W zs + W ^ off * val xs < W ^ zs.length) : Intoed zs off (val xs) ys := by
  have h' := h
  obtain ⟨h1, h2, h3, h4, h5⟩ := h
  have h0 : cy = 0 := by
    rcases (show cy = 0 ∨ cy = 1 by omega) with e | e
    · exact e
    · exfalso
      subst e
      rw [List.take_of_length_le hk, hl] at h4
      unfold val at hfit
      simp at h4
      omega
  subst h0
  exact intoInv_stop h' hk

/-! ### three products of halves -/
theorem kara (b x y : Nat) {al ah bl bh low high mid : Nat} (hx : x = al + b * ah) (hy : y = bl + b * bh) (hl : low = al * bl) (hh : high = ah * bh) (hm : mid + (low + high) = (al + ah) * (bl + bh)) : low + b * b * high + b * mid = x * y := by
  subst hx hy
  have e : (al + b * ah) * (bl + b * bh) = al * bl + b * b * (ah * bh) + b * (al * bh + ah * bl) := by grind
  have e2 : (al + ah) * (bl + bh) = al * bl + ah * bh + (al * bh + ah * bl) := by grind
  rw [e, ← hl, ← hh]
  have : mid = al * bh + ah * bl := by omega
  rw [this]
theorem kara_le {al ah bl bh : Nat} : al * bl + ah * bh ≤ (al + ah) * (bl + bh) := by
  have e2 : (al + ah) * (bl + bh) = al * bl + ah * bh + (al * bh + ah * bl) := by grind
  omega

theorem valB_over (b : Nat) (xs : List Int) (k : Nat) : valB b (xs ++ List.replicate k 0) = valB b xs := by rw [valB_append, valB_zeros]; simp
/-- parts of a number -/
theorem val_take_drop (xs : List Int) (k : Nat) : val xs = val (xs.take k) + W ^ k * val (xs.drop k) := valB_split W xs k
theorem prod_fits {xs ys : List Int} (hx : Dg W xs) (hy : Dg W ys) : val xs * val ys < W ^ (xs.length + ys.length) := by
  rw [Nat.pow_add]; exact Nat.mul_lt_mul_of_lt_of_le (valB_lt hx) (Nat.le_of_lt (valB_lt hy)) (Nat.pow_pos W_pos)
theorem lt_of_mul_lt_pow {a k l : Nat} (h : W ^ k * a < W ^ (k + l)) : a < W ^ l := by
  rw [Nat.pow_add] at h
  exact Nat.lt_of_mul_lt_mul_left h
theorem prod_halves_eq (b x y : Nat) {al ah p q : Nat} (hx : x = al + b * ah) (hp : p = al * y) (hq : q = ah * y) : p + b * q = x * y := by
  subst hx hp hq; grind

/-! ### powers -/
theorem mul_lt_powW {a b k l : Nat} (ha : a < W ^ k) (hb : b < W ^ l) : a * b < W ^ (k + l) := by
  rw [Nat.pow_add]; exact Nat.mul_lt_mul_of_lt_of_le ha (Nat.le_of_lt hb) (Nat.pow_pos W_pos)
end Go.Proofs.YthpbaaanbimapaaGreatDoor
