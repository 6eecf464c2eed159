/-
  What the document's own quotients and roots (package gradineref04) return. Conditions: the slices read as lists of words, of at most 1000 words.
-/
import Derived.Test.YtmoahgiklgicgaaQuotRoot
import Derived.Test.YtmoahgiklgicgaaRefProd
import Derived.Test.YtmoahgiklgicgaaRefShift
import Derived.Deep.RegionHeld3
namespace Go.Proofs.Ytmoahgiklgicgaa
set_option maxRecDepth 100000
open Go.RowKit
set_option linter.unusedVariables false
set_option linter.unusedSimpArgs false

/-! ### a bit more: plain -/
/-- word k of a list that is continued by zeros, with bit s set if k is p -/
def setWord (xs : List Int) (p s k : Nat) : Int := if k = p then xs.getD k 0 + ((2 ^ s : Nat) : Int) else xs.getD k 0
/-- where a list with a bit more stands -/
def SetInv (xs : List Int) (p s k : Nat) (zs : List Int) : Prop :=
  zs.length = k ∧ Dg W zs ∧ valB W zs = valB W (xs.take k) + (if p < k then W ^ p * 2 ^ s else 0)
theorem setInv_0 (xs : List Int) (p s : Nat) : SetInv xs p s 0 [] := ⟨rfl, Dg.nil _, by simp [valB]⟩
theorem setInv_step {xs zs : List Int} {p s k : Nat} (h : SetInv xs p s k zs) (hu : 0 ≤ setWord xs p s k ∧ setWord xs p s k < (W : Int)) (h0 : 0 ≤ xs.getD k 0) : SetInv xs p s (k + 1) (zs ++ [setWord xs p s k]) := by
  obtain ⟨h1, h2, h3⟩ := h
  refine ⟨by simp [h1], h2.snoc hu.1 hu.2, ?_⟩
  rw [valB_snoc, h1, h3, valB_take_succ]
  unfold setWord
  by_cases e : k = p
  · subst e
    rw [if_pos rfl, if_neg (Nat.lt_irrefl k), if_pos (Nat.lt_succ_self k)]
    have : (xs.getD k 0 + ((2 ^ s : Nat) : Int)).toNat = (xs.getD k 0).toNat + 2 ^ s := by
      generalize 2 ^ s = X
      omega
    rw [this, Nat.mul_add]
    omega
  · rw [if_neg e]
    by_cases e2 : p < k
    · rw [if_pos e2, if_pos (show p < k + 1 by omega)]; omega
    · rw [if_neg e2, if_neg (show ¬ p < k + 1 by omega)]; omega
theorem setInv_end {xs zs : List Int} {p s N : Nat} (h : SetInv xs p s N zs) (hp : p < N) (hN : xs.length ≤ N) : val zs = val xs + W ^ p * 2 ^ s := by
  obtain ⟨h1, h2, h3⟩ := h
  rw [if_pos hp, List.take_of_length_le hN] at h3
  exact h3
theorem or_bit_nat {n s : Nat} (h0 : n / 2 ^ s % 2 = 0) : n ||| 2 ^ s = n + 2 ^ s := by
  have hp : 0 < 2 ^ s := Nat.two_pow_pos s
  have hl : n % 2 ^ s < 2 ^ s := Nat.mod_lt _ hp
  have hn : n = 2 ^ (s + 1) * (n / 2 ^ s / 2) + n % 2 ^ s := by
    have h1 := Nat.div_add_mod n (2 ^ s)
    have h2 : n / 2 ^ s = 2 * (n / 2 ^ s / 2) := by omega
    rw [h2] at h1
    rw [Nat.pow_succ, Nat.mul_assoc]
    exact h1.symm
  generalize n / 2 ^ s / 2 = q at hn
  generalize n % 2 ^ s = lo at hn hl
  have hz : 2 ^ (s + 1) * q % 2 ^ (s + 1) = 0 := Nat.mul_mod_right _ _
  have e1 : 2 ^ (s + 1) * q ||| lo = 2 ^ (s + 1) * q + lo := nat_join (s + 1) _ _ hz (by rw [Nat.pow_succ]; omega)
  have e2 : 2 ^ s ||| lo = 2 ^ s + lo := nat_join s _ _ (Nat.mod_self _) hl
  have e3 : 2 ^ (s + 1) * q ||| (2 ^ s + lo) = 2 ^ (s + 1) * q + (2 ^ s + lo) := nat_join (s + 1) _ _ hz (by rw [Nat.pow_succ]; omega)
  rw [hn, ← e1, Nat.or_assoc, Nat.or_comm lo, e2, e3]
  rw [e1]
  omega
/-- a bit that is not set can be set by a sum -/
theorem or_bit {x : Int} {s : Nat} (hx : U x) (hs : s < 64) (h0 : x.toNat / 2 ^ s % 2 = 0) : bits BinOp.or IntKind.u64 x ((2 ^ s : Nat) : Int) = x + ((2 ^ s : Nat) : Int) ∧ U (x + ((2 ^ s : Nat) : Int)) := by
  obtain ⟨n, rfl⟩ := Int.eq_ofNat_of_zero_le hx.1
  have hn : n < 18446744073709551616 := by have := hx.2; omega
  have hp : 2 ^ s < 18446744073709551616 := by
    have := Nat.pow_lt_pow_right (show 1 < 2 by omega) hs; simpa using this
  rw [Int.toNat_natCast] at h0
  have ho := or_bit_nat h0
  have hlt : n ||| 2 ^ s < 2 ^ 64 := Nat.or_lt_two_pow (by omega) (by omega)
  rw [u64_or_nat n _ hn hp, ho]
  rw [ho] at hlt
  refine ⟨by simp, ?_⟩
  generalize 2 ^ s = X at *
  unfold U
  omega

/-- a call that returns a slice of at most K words that say v -/
def RetLe (K v : Nat) (w : World) (e : Ending) (w' : World) : Prop := ∃ A n c zs, e = .returned (.slice A n c) ∧ n ≤ K ∧ Sl w' A n c zs ∧ val zs = v ∧ Below w.heap.size w w'

set_option maxHeartbeats 2000000 in
theorem ref_set {w : World} {A : Option Addr} {n c : Nat} {xs : List Int} (h : Sl w A n c xs) (hn : n ≤ 100000) (i : Nat) (hi : i ≤ 6400000) (hbit : val xs / 2 ^ i % 2 = 0) (K : Nat) (hK1 : n ≤ K) (hK2 : i / 64 + 1 ≤ K) :
    Calls Try.prog 67 #[.slice A n c, .int .i64 i] w (RetLe K (val xs + 2 ^ i) w) := by
  have hlen := h.len
  have hbw := bit_word (Dg_U h.us) i
  rw [hbit] at hbw
  have epow := pow_shift i
  obtain ⟨p, hp⟩ : ∃ p, i / 64 = p := ⟨_, rfl⟩
  obtain ⟨s, hs⟩ : ∃ s, i % 64 = s := ⟨_, rfl⟩
  rw [hp, hs] at hbw epow
  rw [hp] at hK2
  have e1 : (i : Int) / 64 = (p : Int) := by omega
  have e2 : (i : Int) % 64 = (s : Int) := by omega
  have hs64 : s < 64 := by omega
  have hpb : p ≤ 100000 := by omega
  have hub : ∀ k, k = p → bits BinOp.or IntKind.u64 (xs.getD k 0) ((2 ^ s : Nat) : Int) = setWord xs p s k := fun k e => by
    subst e
    unfold setWord
    rw [if_pos rfl]
    exact (or_bit (h.u k) hs64 hbw.symm).1
  have huU : ∀ k, 0 ≤ setWord xs p s k ∧ setWord xs p s k < (W : Int) := fun k => by
    unfold setWord
    by_cases e : k = p
    · subst e
      rw [if_pos rfl]
      have := (or_bit (h.u k) hs64 hbw.symm).2
      unfold U at this
      unfold W
      exact this
    · rw [if_neg e]
      have := h.u k
      unfold U at this
      unfold W
      exact this
  have hne : ∀ k, k ≠ p → setWord xs p s k = xs.getD k 0 := fun k e => by unfold setWord; rw [if_neg e]
  have hpw : 2 ^ s < 18446744073709551616 := by
    have := Nat.pow_lt_pow_right (show 1 < 2 by omega) hs64; simpa using this
  have hwr : IntKind.u64.wrap ((2 : Int) ^ s) = ((2 ^ s : Nat) : Int) := by
    rw [show ((2 : Int) ^ s) = ((2 ^ s : Nat) : Int) by push_cast; rfl, wrapU_lo, lo_U]; exact U_nat hpw
  have hwr1 : IntKind.u64.wrap (1 * (2 : Int) ^ s) = ((2 ^ s : Nat) : Int) := by rw [Int.one_mul, hwr]
  obtain ⟨N, hN⟩ : ∃ N, max n (p + 1) = N := ⟨_, rfl⟩
  have hN1 : n ≤ N := by omega
  have hN2 : p + 1 ≤ N := by omega
  have hN3 : N ≤ K := by omega
  have hN4 : N ≤ 200000 := by omega
  have HN := Lib.hid hN
  have HUB := Lib.hid hub
  have HUU := Lib.hid huU
  have HNE := Lib.hid hne
  have HL := Lib.hid hlen
  have HEP := Lib.hid epow
  have HU := Lib.hid h.u
  generalize hX : 2 ^ s = X at hwr hwr1 hub hpw
  rw [hX] at HUB
  clear hN hub huU hne hlen epow hbw hp hs hbit hX hpw
  obtain ⟨i0, hi0, hz0, hz1, hz2⟩ := info_parts infoW
  go_enter Try.func67, Try.ntmps67
  go_upto_region 2 with (fail)
  go_cut [13, 14] (fun s13 s14 wx => s13 = .int .i64 N ∧ s14 = .int .i64 0 ∧ w = wx)
  case first =>
    by_cases hlt : n < p + 1
    · have hlt' : (n : Int) < (p : Int) + 1 := by omega
      go_wp2_with fail
      go_meet
      exact ⟨vint (by have := HN.out; omega), rfl, rfl⟩
    · have hlt' : ¬ ((n : Int) < (p : Int) + 1) := by omega
      go_wp2_with fail
      go_meet
      exact ⟨vint (by have := HN.out; omega), rfl, rfl⟩
  case rest =>
    obtain ⟨rfl, rfl, rfl⟩ := hcut
    go_wp2_with fail
    go_loopw [5, 14] (fun v iv wr => ∃ (k : Nat) (zs : List Int), k ≤ N ∧ iv = .int .i64 k ∧ Own 22 w.heap.size wr v zs ∧ Below w.heap.size w wr ∧ Hid (SetInv xs p s k zs)) (fun _ iv _ => N - mes iv)
    case atStart => exact ⟨0, [], by omega, rfl, Own.nil _ _ _, Below.refl _ _, Lib.hid (setInv_0 xs p s)⟩
    case round =>
      obtain ⟨k, zs, hk, rfl, hown, hb, HZ⟩ := hrel
      have hzl : zs.length ≤ k := Nat.le_of_eq HZ.out.1
      by_cases hk2 : k < N
      · have hst := setInv_step HZ.out (HUU.out k) (HU.out k).1
        have HST := Lib.hid hst
        clear hst
        by_cases hkn : k < n
        · obtain ⟨ba, off, rfl, hba, hca⟩ := h.at_ (k := k) (by omega)
          have hac := (hb.cell (p := ⟨ba, off + k, none⟩) hba).trans (hca k (by omega))
          clear hca
          by_cases hkp : k = p
          · subst hkp
            have hor := HUB.out k rfl
            generalize setWord xs k s k = v at *
            generalize xs.getD k 0 = y at *
            go_wp2_with (at_builtin; refine wpList_append_own _ rfl (.tmp 35) (.tmp 37) 34 rfl w.heap.size 22 i0 (.int .u64 0) 1 8 Try.underlying34 hi0 hz0 hz1 hz2 rfl (by decide) _ _ _ rfl (hown.out.alloc _) ⟨wr.heap.size, 0, none⟩ 1 1 [.int .u64 v] rfl rfl ?c1 ?c2 ?c3 ?c4 ?c5 ?_)
            case c1 => exact cell_one_new _ _ _
            case c2 => intro u hu; simp at hu; subst hu; rfl
            case c3 => unfold maxLen; omega
            case c4 => omega
            case c5 => have := hb.size; simp; omega
            intro v' w1 hown' hgrow _
            have hb1 := own_below hb hown hgrow
            have HO := Lib.hid (Own.snoc hown')
            clear hown hown' hgrow hac
            go_wp2
            go_roundw
            case rel => exact ⟨k + 1, _, by omega, by go_num, HO.out, hb1, HST⟩
            case measure => simp [mes, intOf]; omega
          · have hor := HNE.out k hkp
            rw [← hor] at hac
            have hkp1 : ((k : Int) == (p : Int)) = false := by simp; omega
            have hkp2 : (k == p) = false := by simpa using hkp
            generalize setWord xs p s k = v at *
            clear hor
            go_wp2_with (at_builtin; refine wpList_append_own _ rfl (.tmp 35) (.tmp 37) 34 rfl w.heap.size 22 i0 (.int .u64 0) 1 8 Try.underlying34 hi0 hz0 hz1 hz2 rfl (by decide) _ _ _ rfl (hown.out.alloc _) ⟨wr.heap.size, 0, none⟩ 1 1 [.int .u64 v] rfl rfl ?d1 ?d2 ?d3 ?d4 ?d5 ?_)
            case d1 => exact cell_one_new _ _ _
            case d2 => intro u hu; simp at hu; subst hu; rfl
            case d3 => unfold maxLen; omega
            case d4 => omega
            case d5 => have := hb.size; simp; omega
            intro v' w1 hown' hgrow _
            have hb1 := own_below hb hown hgrow
            have HO := Lib.hid (Own.snoc hown')
            clear hown hown' hgrow hac
            go_wp2
            go_roundw
            case rel => exact ⟨k + 1, _, by omega, by go_num, HO.out, hb1, HST⟩
            case measure => simp [mes, intOf]; omega
        · have hy : xs.getD k 0 = 0 := by rw [List.getD_eq_getElem?_getD, List.getElem?_eq_none (by have := HL.out; omega)]; rfl
          by_cases hkp : k = p
          · subst hkp
            have hor := HUB.out k rfl
            rw [hy] at hor
            generalize setWord xs k s k = v at *
            clear hy
            go_wp2_with (at_builtin; refine wpList_append_own _ rfl (.tmp 35) (.tmp 37) 34 rfl w.heap.size 22 i0 (.int .u64 0) 1 8 Try.underlying34 hi0 hz0 hz1 hz2 rfl (by decide) _ _ _ rfl (hown.out.alloc _) ⟨wr.heap.size, 0, none⟩ 1 1 [.int .u64 v] rfl rfl ?e1 ?e2 ?e3 ?e4 ?e5 ?_)
            case e1 => exact cell_one_new _ _ _
            case e2 => intro u hu; simp at hu; subst hu; rfl
            case e3 => unfold maxLen; omega
            case e4 => omega
            case e5 => have := hb.size; simp; omega
            intro v' w1 hown' hgrow _
            have hb1 := own_below hb hown hgrow
            have HO := Lib.hid (Own.snoc hown')
            clear hown hown' hgrow
            go_wp2
            go_roundw
            case rel => exact ⟨k + 1, _, by omega, by go_num, HO.out, hb1, HST⟩
            case measure => simp [mes, intOf]; omega
          · have hor := HNE.out k hkp
            rw [hy] at hor
            rw [hor] at HST
            have hkp1 : ((k : Int) == (p : Int)) = false := by simp; omega
            have hkp2 : (k == p) = false := by simpa using hkp
            clear hor hy
            go_wp2_with (at_builtin; refine wpList_append_own _ rfl (.tmp 35) (.tmp 37) 34 rfl w.heap.size 22 i0 (.int .u64 0) 1 8 Try.underlying34 hi0 hz0 hz1 hz2 rfl (by decide) _ _ _ rfl (hown.out.alloc _) ⟨wr.heap.size, 0, none⟩ 1 1 [.int .u64 0] rfl rfl ?f1 ?f2 ?f3 ?f4 ?f5 ?_)
            case f1 => exact cell_one_new _ _ _
            case f2 => intro u hu; simp at hu; subst hu; rfl
            case f3 => unfold maxLen; omega
            case f4 => omega
            case f5 => have := hb.size; simp; omega
            intro v' w1 hown' hgrow _
            have hb1 := own_below hb hown hgrow
            have HO := Lib.hid (Own.snoc hown')
            clear hown hown' hgrow
            go_wp2
            go_roundw
            case rel => exact ⟨k + 1, _, by omega, by go_num, HO.out, hb1, HST⟩
            case measure => simp [mes, intOf]; omega
      · obtain rfl : k = N := by omega
        have hv := setInv_end HZ.out (by omega) (by rw [← HL.out]; omega)
        rw [HEP.out] at hv
        have HV := Lib.hid hv
        have HD := Lib.hid HZ.out.2.1
        clear hv
        go_wp2_with fail
        go_ret
        obtain ⟨A2, c2, rfl⟩ := own_form hown
        exact ⟨_, _, _, _, rfl, by omega, hown.sl (U_Dg HD.out), HV.out, hb⟩

end Go.Proofs.Ytmoahgiklgicgaa
