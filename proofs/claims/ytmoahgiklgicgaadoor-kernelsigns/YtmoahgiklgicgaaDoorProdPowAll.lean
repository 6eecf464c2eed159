/-
  What the document's own quotients and roots (package gradineref04) return. Conditions: the slices read as lists of words, of at most 1000 words.
-/
import Derived.Test.YtmoahgiklgicgaaDoorMem2All
import Derived.Deep.DeepCutAuto
import Derived.Test.YtmoahgiklgicgaaDoorRefShiftAll
import Derived.Deep.RegionHeld3
namespace Go.Proofs.YtmoahgiklgicgaaDoor
set_option maxRecDepth 100000
open Go.RowKit
set_option linter.unusedVariables false
set_option linter.unusedSimpArgs false

theorem pow_bits : ∀ m, m < 65 → ∀ j, j < 7 → bits BinOp.and IntKind.i64 ((m : Nat) : Int) ((2 ^ j : Nat) : Int) = if m / 2 ^ j % 2 = 1 then ((2 ^ j : Nat) : Int) else 0 := by decide +kernel
theorem pow_bit_yes {m j : Nat} (hm : m ≤ 64) (hj : j < 7) (h : m / 2 ^ j % 2 = 1) : (bits BinOp.and IntKind.i64 ((m : Nat) : Int) ((2 ^ j : Nat) : Int) != 0) = true := by
  rw [pow_bits m (by omega) j hj, if_pos h]
  have := Nat.two_pow_pos j
  generalize 2 ^ j = p at this
  simp
  omega
theorem pow_bit_no {m j : Nat} (hm : m ≤ 64) (hj : j < 7) (h : ¬ m / 2 ^ j % 2 = 1) : (bits BinOp.and IntKind.i64 ((m : Nat) : Int) ((2 ^ j : Nat) : Int) != 0) = false := by
  rw [pow_bits m (by omega) j hj, if_neg h]
  rfl
theorem pow_half (m j : Nat) : m / 2 ^ j = 2 * (m / 2 ^ (j + 1)) + m / 2 ^ j % 2 := by
  rw [Nat.pow_succ, ← Nat.div_div_eq_div_mul]; omega
theorem pow_le_64 {j : Nat} (h : j < 7) : 2 ^ j ≤ 64 ∧ 0 < 2 ^ j := ⟨by have := Nat.pow_le_pow_right (n := 2) (by omega) (show j ≤ 6 by omega); simpa using this, Nat.two_pow_pos j⟩
theorem Sl.powSmall {w : World} {A : Option Addr} {n c a e k : Nat} (h : Sl w A n c (words (a ^ e))) (ha : a < W ^ k) (hk : k ≤ 1000) (he : e ≤ 128) : n ≤ 128001 := by
  have := h.small (pow_lt_powW ha e)
  have : k * e ≤ 1000 * 128 := Nat.mul_le_mul hk he
  omega

end Go.Proofs.YtmoahgiklgicgaaDoor

namespace Go.Proofs.YtmoahgiklgicgaaDoor
set_option maxRecDepth 100000
open Go.RowKit
set_option linter.unusedVariables false
set_option linter.unusedSimpArgs false

/-! ### products by halves: plain -/
/-- where the inner round stands: i digits of xs are done, of the next one k digits of ys -/
def HMulIn (xs ys : List Int) (N i k : Nat) (cy : Int) (zs : List Int) : Prop :=
  zs.length = N ∧ Dg H zs ∧ (0 ≤ cy ∧ cy < (H : Int)) ∧ valB H zs + H ^ (i + k) * cy.toNat = valB H (xs.take i) * valB H ys + H ^ i * ((xs.getD i 0).toNat * valB H (ys.take k)) ∧ ∀ j, i + ys.length ≤ j → zs.getD j 0 = 0
/-- where the outer round stands -/
def HMulOut (xs ys : List Int) (N i : Nat) (zs : List Int) : Prop :=
  zs.length = N ∧ Dg H zs ∧ valB H zs = valB H (xs.take i) * valB H ys ∧ ∀ j, i + ys.length ≤ j → zs.getD j 0 = 0
theorem hmulOut_0 (xs ys : List Int) (N : Nat) : HMulOut xs ys N 0 (List.replicate N 0) :=
  ⟨by simp, Dg.zeros H_pos _, by rw [valB_zeros]; simp [valB], fun j _ => getD_zeros N j⟩
theorem hmulIn_0 {xs ys zs : List Int} {N i : Nat} (h : HMulOut xs ys N i zs) : HMulIn xs ys N i 0 0 zs := by
  obtain ⟨h1, h2, h3, h4⟩ := h
  exact ⟨h1, h2, by unfold H; omega, by rw [h3]; simp [valB], h4⟩
theorem hmul_word {x y z cy : Int} (hx : 0 ≤ x ∧ x < (H : Int)) (hy : 0 ≤ y ∧ y < (H : Int)) (hz : 0 ≤ z ∧ z < (H : Int)) (hc : 0 ≤ cy ∧ cy < (H : Int)) :
    0 ≤ x * y ∧ cy + x * y + z < 18446744073709551616 ∧ x.toNat * y.toNat + z.toNat + cy.toNat = ((cy + x * y + z) % 4294967296).toNat + H * ((cy + x * y + z) / 4294967296).toNat ∧ (0 ≤ (cy + x * y + z) / 4294967296 ∧ (cy + x * y + z) / 4294967296 < (H : Int)) := by
  have hb := mul_bound (A := 4294967295) (B := 4294967295) hx.1 (by have := hx.2; unfold H at this; omega) hy.1 (by have := hy.2; unfold H at this; omega)
  have e : x.toNat * y.toNat = (x * y).toNat := by rw [Int.toNat_mul hx.1 hy.1]
  rw [e]
  generalize x * y = p at *
  unfold H at *
  omega
theorem hmul_alg (b P Q A X Y m c d cy' y z : Nat) (h : A + P * Q * c = X + P * (m * Y)) (e : m * y + z + c = d + b * cy') : A + P * Q * d + P * Q * b * cy' = X + P * (m * (Y + Q * y)) + P * Q * z := by
  have e1 : P * Q * d + P * Q * b * cy' = P * Q * (m * y + z + c) := by rw [e, Nat.mul_add, Nat.mul_assoc (P * Q) b cy']
  have e2 : P * (m * (Y + Q * y)) = P * (m * Y) + P * Q * (m * y) := by grind
  have e3 : P * Q * (m * y + z + c) = P * Q * (m * y) + P * Q * z + P * Q * c := by rw [Nat.mul_add, Nat.mul_add]
  omega
theorem hmulIn_step {xs ys zs : List Int} {N i k : Nat} {cy d cy' : Int} (h : HMulIn xs ys N i k cy zs) (hk : k < ys.length) (hN : i + ys.length < N)
    (hd : 0 ≤ d ∧ d < (H : Int)) (hc' : 0 ≤ cy' ∧ cy' < (H : Int)) (e : (xs.getD i 0).toNat * (ys.getD k 0).toNat + (zs.getD (i + k) 0).toNat + cy.toNat = d.toNat + H * cy'.toNat) : HMulIn xs ys N i (k + 1) cy' (zs.set (i + k) d) := by
  obtain ⟨h1, h2, h3, h4, h5⟩ := h
  refine ⟨by rw [List.length_set, h1], h2.set _ hd.1 hd.2, hc', ?_, fun j hj => ?_⟩
  · have hs := valB_set H zs (i + k) (by omega) d
    rw [valB_take_succ]
    rw [Nat.pow_add] at h4 hs
    have := hmul_alg H (H ^ i) (H ^ k) _ _ _ _ _ _ _ _ _ h4 e
    rw [show i + (k + 1) = i + k + 1 from rfl, Nat.pow_succ, Nat.pow_add]
    omega
  · rw [getD_set_ne _ (by omega)]
    exact h5 j hj
theorem hmulIn_end {xs ys zs : List Int} {N i : Nat} {cy : Int} (h : HMulIn xs ys N i ys.length cy zs) (hN : i + ys.length < N) : HMulOut xs ys N (i + 1) (zs.set (i + ys.length) cy) := by
  obtain ⟨h1, h2, h3, h4, h5⟩ := h
  refine ⟨by rw [List.length_set, h1], h2.set _ h3.1 h3.2, ?_, fun j hj => ?_⟩
  · have hs := valB_set H zs (i + ys.length) (by omega) cy
    rw [h5 _ (Nat.le_refl _)] at hs
    rw [List.take_of_length_le (Nat.le_refl _)] at h4
    rw [valB_take_succ, Nat.add_mul, Nat.mul_assoc]
    simp at hs
    omega
  · rw [getD_set_ne _ (by omega)]
    exact h5 j (by omega)

set_option maxHeartbeats 2000000 in
theorem ref_nmul {w : World} {A A' : Option Addr} {n n' c c' : Nat} {xs ys : List Int} (h : Sl w A n c xs) (h' : Sl w A' n' c' ys) (hn : n ≤ 1000000) (hn' : n' ≤ 1000000) :
    Calls Tryd.prog 65 #[.slice A n c, .slice A' n' c'] w (RetSl (words (val xs * val ys)) w) := by
  have hl1 := hwords_len (Dg_U h.us) rfl
  have hl2 := hwords_len (Dg_U h'.us) rfl
  rw [← h.len] at hl1
  rw [← h'.len] at hl2
  have e1 := valH_hwords (val xs)
  have e2 := valH_hwords (val ys)
  have d1 := hwords_Dg (val xs)
  have d2 := hwords_Dg (val ys)
  have T1 := ref_halves h (by omega)
  generalize hwords (val xs) = hx at *
  have T2 := fun w1 (hb : Below w.heap.size w w1) => ref_halves (h'.below hb) (by omega)
  generalize hwords (val ys) = hy at *
  have HT1 := Lib.hid T1
  have HT2 := Lib.hid T2
  have E1 := Lib.hid e1
  have E2 := Lib.hid e2
  have D1 := Lib.hid d1
  have D2 := Lib.hid d2
  clear T1 T2 e1 e2 d1 d2
  go_enter Tryd.func65, Tryd.ntmps65
  go_wp2_with fail
  refine HT1.out.mono ?_
  rintro e w1 ⟨A1, n1, c1, rfl, s1, b1⟩
  go_wp2_with fail
  refine (HT2.out _ b1).mono ?_
  rintro e w2 ⟨A2, n2, c2, rfl, s2, b2⟩
  have hb2 := b1.trans (b2.mono b1.size)
  have s1' := s1.below b2
  have ln1 := s1'.len
  have ln2 := s2.len
  have q1 : n1 ≤ 2000000 := by omega
  have q2 : n2 ≤ 2000000 := by omega
  have LN1 := Lib.hid ln1
  have LN2 := Lib.hid ln2
  clear ln1 ln2 hl1 hl2 s1 b1 b2 HT1 HT2
  obtain ⟨w3, hmk, hr3, hb3, _⟩ := make_words w2 (n1 + n2 + 1) (by omega)
  rw [show ((n1 + n2 + 1 : Nat) : Int) = (n1 : Int) + (n2 : Int) + 1 by omega] at hmk
  have HR3 := Lib.hid hr3
  clear hr3
  go_wp2_with fail
  go_loopw [9, 24] (fun cv i wr => ∃ (k : Nat) (zs : List Int), k ≤ n1 ∧ i = .int .i64 k ∧ HMulOut hx hy (n1 + n2 + 1) k zs ∧ Row 22 wr w2.heap.size zs ∧ Below w2.heap.size w2 wr) (fun _ i _ => n1 - mes i)
  case atStart => exact ⟨0, _, by omega, rfl, hmulOut_0 hx hy _, HR3.out, hb3⟩
  case round =>
    clear HR3
    obtain ⟨i, zs, hi, rfl, hz, hr, hb⟩ := hrel
    by_cases hi2 : i < n1
    · go_wp2_with fail
      go_loopw [9, 29] (fun cv k wr => ∃ (j : Nat) (c0 : Int) (us : List Int), j ≤ n2 ∧ k = .int .i64 j ∧ cv = .int .u64 c0 ∧ HMulIn hx hy (n1 + n2 + 1) i j c0 us ∧ Row 22 wr w2.heap.size us ∧ Below w2.heap.size w2 wr) (fun _ k _ => n2 - mes k)
      case atStart => exact ⟨0, 0, zs, by omega, rfl, rfl, hmulIn_0 hz, hr, hb⟩
      case round =>
        clear hz hr hb
        obtain ⟨j, c0, us, hj, rfl, rfl, hz, hr, hb⟩ := hrel
        by_cases hj2 : j < n2
        · obtain ⟨ba, offa, rfl, _, hac⟩ := (s1'.apart' hb (Nat.le_refl _)).at_ hi2
          obtain ⟨bb, offb, rfl, _, hbc⟩ := (s2.apart' hb (Nat.le_refl _)).at_ hj2
          have hlz : us.length = n1 + n2 + 1 := hz.1
          have hcell := hr.cell (i := i + j) (by omega)
          have hfree := hr.free (i + j)
          obtain ⟨m1, m2, m3, m4⟩ := hmul_word (D1.out.at_ H_pos i) (D2.out.at_ H_pos j) (hz.2.1.at_ H_pos (i + j)) hz.2.2.1
          have hst := hmulIn_step hz (by rw [← LN2.out]; exact hj2) (by rw [← LN2.out]; omega) ⟨by omega, by unfold H; omega⟩ m4 m3
          have hc0 := hz.2.2.1.1
          have hz0 := (hz.2.1.at_ H_pos (i + j)).1
          obtain ⟨T, hT⟩ : ∃ T, c0 + hx.getD i 0 * hy.getD j 0 + us.getD (i + j) 0 = T := ⟨_, rfl⟩
          have hw1 : IntKind.u64.wrap (hx.getD i 0 * hy.getD j 0) = hx.getD i 0 * hy.getD j 0 := by rw [wrapU_lo, lo_U]; unfold U; omega
          have hw2 : IntKind.u64.wrap (c0 + hx.getD i 0 * hy.getD j 0) = c0 + hx.getD i 0 * hy.getD j 0 := by rw [wrapU_lo, lo_U]; unfold U; omega
          have hw3 : IntKind.u64.wrap (c0 + hx.getD i 0 * hy.getD j 0 + us.getD (i + j) 0) = T := by rw [wrapU_lo, lo_U, hT]; unfold U; omega
          have hw4 : bits BinOp.and IntKind.u64 T 4294967295 = T % 4294967296 := and32 (by unfold U; omega)
          rw [hT] at hst
          have hT0 : 0 ≤ T := by omega
          generalize hx.getD i 0 = x at *
          generalize hy.getD j 0 = y at *
          generalize us.getD (i + j) 0 = z at *
          generalize T % 4294967296 = dd at *
          generalize hq : T / 4294967296 = qq at *
          have HS := Lib.hid hst
          have HR := Lib.hid hr
          clear hst hr hz hlz m1 m2 m3 m4 hT hc0 hz0
          go_wp2_with fail
          go_region
          all_goals try go_wp2
          all_goals
            go_roundw
            case rel => exact ⟨j + 1, _, _, by omega, by go_num, rfl, HS.out, HR.out.drew.set (i + j) _, hb.drew.setCell (Nat.le_refl _) _⟩
            case measure => simp [mes, intOf]; omega
        · obtain rfl : j = n2 := by omega
          have hlz : us.length = n1 + j + 1 := hz.1
          have hcell := hr.cell (i := i + j) (by omega)
          have hfree := hr.free (i + j)
          have e9 := LN2.out
          have hst := hmulIn_end (xs := hx) (ys := hy) (N := n1 + j + 1) (i := i) (cy := c0) (zs := us) (by rw [← e9]; exact hz) (by rw [← e9]; omega)
          rw [← e9] at hst
          have HS := Lib.hid hst
          have HR := Lib.hid hr
          clear hst hr hz hlz e9
          go_wp2_with fail
          go_roundw
          case rel => exact ⟨i + 1, _, by omega, by go_num, HS.out, HR.out.set (i + j) _, hb.setCell (Nat.le_refl _) _⟩
          case measure => simp [mes, intOf]; omega
    · obtain rfl : i = n1 := by omega
      obtain ⟨z1, z2, z3, z4⟩ := hz
      have hsl := hr.sl (c := i + n2 + 1) (U_Dg (z2.mono H_le_W)) (by omega)
      rw [z1] at hsl
      rw [List.take_of_length_le (by have := LN1.out; omega), E1.out, E2.out] at z3
      have WH := ref_whole hsl z2 (by omega)
      rw [z3] at WH
      have HW := Lib.hid WH
      have hbb := hb2.trans (hb.mono hb2.size)
      clear z1 z2 z3 z4 hsl WH hr
      go_wp2_with fail
      refine HW.out.mono ?_
      rintro e w5 ⟨A5, n5, c5, rfl, s5, b5⟩
      go_wp2_with fail
      go_ret
      exact ⟨_, _, _, rfl, s5, hbb.trans (b5.mono hbb.size)⟩

theorem sl_one (w : World) (x : Int) (hx : U x) : Sl (w.alloc (.cells #[.int .u64 x] 22)) (some ⟨w.heap.size, 0, none⟩) 1 1 [x] := sl_lit w x hx
theorem val_one (x : Int) : val [x] = x.toNat := by simp [val, valB]

theorem words_one : words 1 = [1] := by
  have e : (1 : Nat) = val [1] := by simp [val, valB]
  rw [e, words_val (by intro x hx; simp at hx; subst hx; unfold W; omega)]
  decide

end Go.Proofs.YtmoahgiklgicgaaDoor

namespace Go.Proofs.YtmoahgiklgicgaaDoor
set_option maxRecDepth 100000
open Go.RowKit
set_option linter.unusedVariables false
set_option linter.unusedSimpArgs false

/-! ### a bit more: plain -/
/-- word k of a list that is continued by zeros, with bit s set if k is p -/
def setWord (xs : List Int) (p s k : Nat) : Int := if k = p then xs.getD k 0 + ((2 ^ s : Nat) : Int) else xs.getD k 0
/-- where a list with a bit more stands -/
def SetInv (xs : List Int) (p s k : Nat) (zs : List Int) : Prop :=
  zs.length = k ∧ Dg W zs ∧ valB W zs = valB W (xs.take k) + (if p < k then W ^ p * 2 ^ s else 0)
theorem setInv_0 (xs : List Int) (p s : Nat) : SetInv xs p s 0 [] := ⟨rfl, Dg.nil _, by simp [valB]⟩
theorem setInv_step {xs zs : List Int} {p s k : Nat} (h : SetInv xs p s k zs) (hu : 0 ≤ setWord xs p s k ∧ setWord xs p s k < (W : Int)) (h0 : 0 ≤ xs.getD k 0) : SetInv xs p s (k + 1) (zs ++ [setWord xs p s k]) := by
  obtain ⟨h1, h2, h3⟩ := h
  refine ⟨by simp [h1], h2.snoc hu.1 hu.2, ?_⟩
  rw [valB_snoc, h1, h3, valB_take_succ]
  unfold setWord
  by_cases e : k = p
  · subst e
    rw [if_pos rfl, if_neg (Nat.lt_irrefl k), if_pos (Nat.lt_succ_self k)]
    have : (xs.getD k 0 + ((2 ^ s : Nat) : Int)).toNat = (xs.getD k 0).toNat + 2 ^ s := by
      generalize 2 ^ s = X
      omega
    rw [this, Nat.mul_add]
    omega
  · rw [if_neg e]
    by_cases e2 : p < k
    · rw [if_pos e2, if_pos (show p < k + 1 by omega)]; omega
    · rw [if_neg e2, if_neg (show ¬ p < k + 1 by omega)]; omega
theorem setInv_end {xs zs : List Int} {p s N : Nat} (h : SetInv xs p s N zs) (hp : p < N) (hN : xs.length ≤ N) : val zs = val xs + W ^ p * 2 ^ s := by
  obtain ⟨h1, h2, h3⟩ := h
  rw [if_pos hp, List.take_of_length_le hN] at h3
  exact h3
theorem or_bit_nat {n s : Nat} (h0 : n / 2 ^ s % 2 = 0) : n ||| 2 ^ s = n + 2 ^ s := by
  have hp : 0 < 2 ^ s := Nat.two_pow_pos s
  have hl : n % 2 ^ s < 2 ^ s := Nat.mod_lt _ hp
  have hn : n = 2 ^ (s + 1) * (n / 2 ^ s / 2) + n % 2 ^ s := by
    have h1 := Nat.div_add_mod n (2 ^ s)
    have h2 : n / 2 ^ s = 2 * (n / 2 ^ s / 2) := by omega
    rw [h2] at h1
    rw [Nat.pow_succ, Nat.mul_assoc]
    exact h1.symm
  generalize n / 2 ^ s / 2 = q at hn
  generalize n % 2 ^ s = lo at hn hl
  have hz : 2 ^ (s + 1) * q % 2 ^ (s + 1) = 0 := Nat.mul_mod_right _ _
  have e1 : 2 ^ (s + 1) * q ||| lo = 2 ^ (s + 1) * q + lo := nat_join (s + 1) _ _ hz (by rw [Nat.pow_succ]; omega)
  have e2 : 2 ^ s ||| lo = 2 ^ s + lo := nat_join s _ _ (Nat.mod_self _) hl
  have e3 : 2 ^ (s + 1) * q ||| (2 ^ s + lo) = 2 ^ (s + 1) * q + (2 ^ s + lo) := nat_join (s + 1) _ _ hz (by rw [Nat.pow_succ]; omega)
  rw [hn, ← e1, Nat.or_assoc, Nat.or_comm lo, e2, e3]
  rw [e1]
  omega
/-- a bit that is not set can be set by a sum -/
theorem or_bit {x : Int} {s : Nat} (hx : U x) (hs : s < 64) (h0 : x.toNat / 2 ^ s % 2 = 0) : bits BinOp.or IntKind.u64 x ((2 ^ s : Nat) : Int) = x + ((2 ^ s : Nat) : Int) ∧ U (x + ((2 ^ s : Nat) : Int)) := by
  obtain ⟨n, rfl⟩ := Int.eq_ofNat_of_zero_le hx.1
  have hn : n < 18446744073709551616 := by have := hx.2; omega
  have hp : 2 ^ s < 18446744073709551616 := by
    have := Nat.pow_lt_pow_right (show 1 < 2 by omega) hs; simpa using this
  rw [Int.toNat_natCast] at h0
  have ho := or_bit_nat h0
  have hlt : n ||| 2 ^ s < 2 ^ 64 := Nat.or_lt_two_pow (by omega) (by omega)
  rw [u64_or_nat n _ hn hp, ho]
  rw [ho] at hlt
  refine ⟨by simp, ?_⟩
  generalize 2 ^ s = X at *
  unfold U
  omega

/-- a call that returns a slice of at most K words that say v -/
def RetLe (K v : Nat) (w : World) (e : Ending) (w' : World) : Prop := ∃ A n c zs, e = .returned (.slice A n c) ∧ n ≤ K ∧ Sl w' A n c zs ∧ val zs = v ∧ Below w.heap.size w w'

set_option maxHeartbeats 2000000 in
theorem ref_set {w : World} {A : Option Addr} {n c : Nat} {xs : List Int} (h : Sl w A n c xs) (hn : n ≤ 100000) (i : Nat) (hi : i ≤ 6400000) (hbit : val xs / 2 ^ i % 2 = 0) (K : Nat) (hK1 : n ≤ K) (hK2 : i / 64 + 1 ≤ K) :
    Calls Tryd.prog 94 #[.slice A n c, .int .i64 i] w (RetLe K (val xs + 2 ^ i) w) := by
  have hlen := h.len
  have hbw := bit_word (Dg_U h.us) i
  rw [hbit] at hbw
  have epow := pow_shift i
  obtain ⟨p, hp⟩ : ∃ p, i / 64 = p := ⟨_, rfl⟩
  obtain ⟨s, hs⟩ : ∃ s, i % 64 = s := ⟨_, rfl⟩
  rw [hp, hs] at hbw epow
  rw [hp] at hK2
  have e1 : (i : Int) / 64 = (p : Int) := by omega
  have e2 : (i : Int) % 64 = (s : Int) := by omega
  have hs64 : s < 64 := by omega
  have hpb : p ≤ 100000 := by omega
  have hub : ∀ k, k = p → bits BinOp.or IntKind.u64 (xs.getD k 0) ((2 ^ s : Nat) : Int) = setWord xs p s k := fun k e => by
    subst e
    unfold setWord
    rw [if_pos rfl]
    exact (or_bit (h.u k) hs64 hbw.symm).1
  have huU : ∀ k, 0 ≤ setWord xs p s k ∧ setWord xs p s k < (W : Int) := fun k => by
    unfold setWord
    by_cases e : k = p
    · subst e
      rw [if_pos rfl]
      have := (or_bit (h.u k) hs64 hbw.symm).2
      unfold U at this
      unfold W
      exact this
    · rw [if_neg e]
      have := h.u k
      unfold U at this
      unfold W
      exact this
  have hne : ∀ k, k ≠ p → setWord xs p s k = xs.getD k 0 := fun k e => by unfold setWord; rw [if_neg e]
  have hpw : 2 ^ s < 18446744073709551616 := by
    have := Nat.pow_lt_pow_right (show 1 < 2 by omega) hs64; simpa using this
  have hwr : IntKind.u64.wrap ((2 : Int) ^ s) = ((2 ^ s : Nat) : Int) := by
    rw [show ((2 : Int) ^ s) = ((2 ^ s : Nat) : Int) by push_cast; rfl, wrapU_lo, lo_U]; exact U_nat hpw
  have hwr1 : IntKind.u64.wrap (1 * (2 : Int) ^ s) = ((2 ^ s : Nat) : Int) := by rw [Int.one_mul, hwr]
  obtain ⟨N, hN⟩ : ∃ N, max n (p + 1) = N := ⟨_, rfl⟩
  have hN1 : n ≤ N := by omega
  have hN2 : p + 1 ≤ N := by omega
  have hN3 : N ≤ K := by omega
  have hN4 : N ≤ 200000 := by omega
  have HN := Lib.hid hN
  have HUB := Lib.hid hub
  have HUU := Lib.hid huU
  have HNE := Lib.hid hne
  have HL := Lib.hid hlen
  have HEP := Lib.hid epow
  have HU := Lib.hid h.u
  generalize hX : 2 ^ s = X at hwr hwr1 hub hpw
  rw [hX] at HUB
  clear hN hub huU hne hlen epow hbw hp hs hbit hX hpw
  obtain ⟨i0, hi0, hz0, hz1, hz2⟩ := info_parts infoW
  go_enter Tryd.func94, Tryd.ntmps94
  go_upto_region 2 with (fail)
  go_cut [13, 14] (fun s13 s14 wx => s13 = .int .i64 N ∧ s14 = .int .i64 0 ∧ w = wx)
  case first =>
    by_cases hlt : n < p + 1
    · have hlt' : (n : Int) < (p : Int) + 1 := by omega
      go_wp2_with fail
      go_meet
      exact ⟨vint (by have := HN.out; omega), rfl, rfl⟩
    · have hlt' : ¬ ((n : Int) < (p : Int) + 1) := by omega
      go_wp2_with fail
      go_meet
      exact ⟨vint (by have := HN.out; omega), rfl, rfl⟩
  case rest =>
    obtain ⟨rfl, rfl, rfl⟩ := hcut
    go_wp2_with fail
    go_loopw [5, 14] (fun v iv wr => ∃ (k : Nat) (zs : List Int), k ≤ N ∧ iv = .int .i64 k ∧ Own 22 w.heap.size wr v zs ∧ Below w.heap.size w wr ∧ Hid (SetInv xs p s k zs)) (fun _ iv _ => N - mes iv)
    case atStart => exact ⟨0, [], by omega, rfl, Own.nil _ _ _, Below.refl _ _, Lib.hid (setInv_0 xs p s)⟩
    case round =>
      obtain ⟨k, zs, hk, rfl, hown, hb, HZ⟩ := hrel
      have hzl : zs.length ≤ k := Nat.le_of_eq HZ.out.1
      by_cases hk2 : k < N
      · have hst := setInv_step HZ.out (HUU.out k) (HU.out k).1
        have HST := Lib.hid hst
        clear hst
        by_cases hkn : k < n
        · obtain ⟨ba, off, rfl, hba, hca⟩ := h.at_ (k := k) (by omega)
          have hac := (hb.cell (p := ⟨ba, off + k, none⟩) hba).trans (hca k (by omega))
          clear hca
          by_cases hkp : k = p
          · subst hkp
            have hor := HUB.out k rfl
            generalize setWord xs k s k = v at *
            generalize xs.getD k 0 = y at *
            go_wp2_with (at_builtin; refine wpList_append_own _ rfl (.tmp 35) (.tmp 37) 49 rfl w.heap.size 22 i0 (.int .u64 0) 1 8 Tryd.underlying49 hi0 hz0 hz1 hz2 rfl (by decide) _ _ _ rfl (hown.out.alloc _) ⟨wr.heap.size, 0, none⟩ 1 1 [.int .u64 v] rfl rfl ?c1 ?c2 ?c3 ?c4 ?c5 ?_)
            case c1 => exact cell_one_new _ _ _
            case c2 => intro u hu; simp at hu; subst hu; rfl
            case c3 => unfold maxLen; omega
            case c4 => omega
            case c5 => have := hb.size; simp; omega
            intro v' w1 hown' hgrow _
            have hb1 := own_below hb hown hgrow
            have HO := Lib.hid (Own.snoc hown')
            clear hown hown' hgrow hac
            go_wp2
            go_roundw
            case rel => exact ⟨k + 1, _, by omega, by go_num, HO.out, hb1, HST⟩
            case measure => simp [mes, intOf]; omega
          · have hor := HNE.out k hkp
            rw [← hor] at hac
            have hkp1 : ((k : Int) == (p : Int)) = false := by simp; omega
            have hkp2 : (k == p) = false := by simpa using hkp
            generalize setWord xs p s k = v at *
            clear hor
            go_wp2_with (at_builtin; refine wpList_append_own _ rfl (.tmp 35) (.tmp 37) 49 rfl w.heap.size 22 i0 (.int .u64 0) 1 8 Tryd.underlying49 hi0 hz0 hz1 hz2 rfl (by decide) _ _ _ rfl (hown.out.alloc _) ⟨wr.heap.size, 0, none⟩ 1 1 [.int .u64 v] rfl rfl ?d1 ?d2 ?d3 ?d4 ?d5 ?_)
            case d1 => exact cell_one_new _ _ _
            case d2 => intro u hu; simp at hu; subst hu; rfl
            case d3 => unfold maxLen; omega
            case d4 => omega
            case d5 => have := hb.size; simp; omega
            intro v' w1 hown' hgrow _
            have hb1 := own_below hb hown hgrow
            have HO := Lib.hid (Own.snoc hown')
            clear hown hown' hgrow hac
            go_wp2
            go_roundw
            case rel => exact ⟨k + 1, _, by omega, by go_num, HO.out, hb1, HST⟩
            case measure => simp [mes, intOf]; omega
        · have hy : xs.getD k 0 = 0 := by rw [List.getD_eq_getElem?_getD, List.getElem?_eq_none (by have := HL.out; omega)]; rfl
          by_cases hkp : k = p
          · subst hkp
            have hor := HUB.out k rfl
            rw [hy] at hor
            generalize setWord xs k s k = v at *
            clear hy
            go_wp2_with (at_builtin; refine wpList_append_own _ rfl (.tmp 35) (.tmp 37) 49 rfl w.heap.size 22 i0 (.int .u64 0) 1 8 Tryd.underlying49 hi0 hz0 hz1 hz2 rfl (by decide) _ _ _ rfl (hown.out.alloc _) ⟨wr.heap.size, 0, none⟩ 1 1 [.int .u64 v] rfl rfl ?e1 ?e2 ?e3 ?e4 ?e5 ?_)
            case e1 => exact cell_one_new _ _ _
            case e2 => intro u hu; simp at hu; subst hu; rfl
            case e3 => unfold maxLen; omega
            case e4 => omega
            case e5 => have := hb.size; simp; omega
            intro v' w1 hown' hgrow _
            have hb1 := own_below hb hown hgrow
            have HO := Lib.hid (Own.snoc hown')
            clear hown hown' hgrow
            go_wp2
            go_roundw
            case rel => exact ⟨k + 1, _, by omega, by go_num, HO.out, hb1, HST⟩
            case measure => simp [mes, intOf]; omega
          · have hor := HNE.out k hkp
            rw [hy] at hor
            rw [hor] at HST
            have hkp1 : ((k : Int) == (p : Int)) = false := by simp; omega
            have hkp2 : (k == p) = false := by simpa using hkp
            clear hor hy
            go_wp2_with (at_builtin; refine wpList_append_own _ rfl (.tmp 35) (.tmp 37) 49 rfl w.heap.size 22 i0 (.int .u64 0) 1 8 Tryd.underlying49 hi0 hz0 hz1 hz2 rfl (by decide) _ _ _ rfl (hown.out.alloc _) ⟨wr.heap.size, 0, none⟩ 1 1 [.int .u64 0] rfl rfl ?f1 ?f2 ?f3 ?f4 ?f5 ?_)
            case f1 => exact cell_one_new _ _ _
            case f2 => intro u hu; simp at hu; subst hu; rfl
            case f3 => unfold maxLen; omega
            case f4 => omega
            case f5 => have := hb.size; simp; omega
            intro v' w1 hown' hgrow _
            have hb1 := own_below hb hown hgrow
            have HO := Lib.hid (Own.snoc hown')
            clear hown hown' hgrow
            go_wp2
            go_roundw
            case rel => exact ⟨k + 1, _, by omega, by go_num, HO.out, hb1, HST⟩
            case measure => simp [mes, intOf]; omega
      · obtain rfl : k = N := by omega
        have hv := setInv_end HZ.out (by omega) (by rw [← HL.out]; omega)
        rw [HEP.out] at hv
        have HV := Lib.hid hv
        have HD := Lib.hid HZ.out.2.1
        clear hv
        go_wp2_with fail
        go_ret
        obtain ⟨A2, c2, rfl⟩ := own_form hown
        exact ⟨_, _, _, _, rfl, by omega, hown.sl (U_Dg HD.out), HV.out, hb⟩

end Go.Proofs.YtmoahgiklgicgaaDoor
