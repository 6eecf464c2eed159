/-
  What the document's own quotients and roots (package gradineref04) return. Conditions: the slices read as lists of words, of at most 1000 words.
-/
import Derived.Test.YtfhihapgjiaobaaGreatQuotMathAllB
import Derived.Test.YtfhihapgjiaobaaGreatNatShlAllB
import Derived.Test.YtfhihapgjiaobaaGreatNatMathOneB
import Derived.Deep.DeepCutAuto
import Derived.Deep.RegionHeld3
namespace Go.Proofs.YtfhihapgjiaobaaGreat
set_option maxRecDepth 100000
open Go.RowKit
set_option linter.unusedVariables false
set_option linter.unusedSimpArgs false

/-! ### products by halves: plain -/
/-- where the inner round stands: i digits of xs are done, of the next one k digits of ys -/
def HMulIn (xs ys : List Int) (N i k : Nat) (cy : Int) (zs : List Int) : Prop :=
  zs.length = N ∧ Dg H zs ∧ (0 ≤ cy ∧ cy < (H : Int)) ∧ valB H zs + H ^ (i + k) * cy.toNat = valB H (xs.take i) * valB H ys + H ^ i * ((xs.getD i 0).toNat * valB H (ys.take k)) ∧ ∀ j, i + ys.length ≤ j → zs.getD j 0 = 0
/-- where the outer round stands -/
def HMulOut (xs ys : List Int) (N i : Nat) (zs : List Int) : Prop :=
  zs.length = N ∧ Dg H zs ∧ valB H zs = valB H (xs.take i) * valB H ys ∧ ∀ j, i + ys.length ≤ j → zs.getD j 0 = 0
theorem hmulOut_0 (xs ys : List Int) (N : Nat) : HMulOut xs ys N 0 (List.replicate N 0) :=
  ⟨by simp, Dg.zeros H_pos _, by rw [valB_zeros]; simp [valB], fun j _ => getD_zeros N j⟩
theorem hmulIn_0 {xs ys zs : List Int} {N i : Nat} (h : HMulOut xs ys N i zs) : HMulIn xs ys N i 0 0 zs := by
  obtain ⟨h1, h2, h3, h4⟩ := h
  exact ⟨h1, h2, by unfold H; omega, by rw [h3]; simp [valB], h4⟩
theorem hmul_word {x y z cy : Int} (hx : 0 ≤ x ∧ x < (H : Int)) (hy : 0 ≤ y ∧ y < (H : Int)) (hz : 0 ≤ z ∧ z < (H : Int)) (hc : 0 ≤ cy ∧ cy < (H : Int)) :
    0 ≤ x * y ∧ cy + x * y + z < 18446744073709551616 ∧ x.toNat * y.toNat + z.toNat + cy.toNat = ((cy + x * y + z) % 4294967296).toNat + H * ((cy + x * y + z) / 4294967296).toNat ∧ (0 ≤ (cy + x * y + z) / 4294967296 ∧ (cy + x * y + z) / 4294967296 < (H : Int)) := by
  have hb := mul_bound (A := 4294967295) (B := 4294967295) hx.1 (by have := hx.2; unfold H at this; omega) hy.1 (by have := hy.2; unfold H at this; omega)
  have e : x.toNat * y.toNat = (x * y).toNat := by rw [Int.toNat_mul hx.1 hy.1]
  rw [e]
  generalize x * y = p at *
  unfold H at *
  omega
theorem hmul_alg (b P Q A X Y m c d cy' y z : Nat) (h : A + P * Q * c = X + P * (m * Y)) (e : m * y + z + c = d + b * cy') : A + P * Q * d + P * Q * b * cy' = X + P * (m * (Y + Q * y)) + P * Q * z := by
  have e1 : P * Q * d + P * Q * b * cy' = P * Q * (m * y + z + c) := by rw [e, Nat.mul_add, Nat.mul_assoc (P * Q) b cy']
  have e2 : P * (m * (Y + Q * y)) = P * (m * Y) + P * Q * (m * y) := by grind
  have e3 : P * Q * (m * y + z + c) = P * Q * (m * y) + P * Q * z + P * Q * c := by rw [Nat.mul_add, Nat.mul_add]
  omega
theorem hmulIn_step {xs ys zs : List Int} {N i k : Nat} {cy d cy' : Int} (h : HMulIn xs ys N i k cy zs) (hk : k < ys.length) (hN : i + ys.length < N)
    (hd : 0 ≤ d ∧ d < (H : Int)) (hc' : 0 ≤ cy' ∧ cy' < (H : Int)) (e : (xs.getD i 0).toNat * (ys.getD k 0).toNat + (zs.getD (i + k) 0).toNat + cy.toNat = d.toNat + H * cy'.toNat) : HMulIn xs ys N i (k + 1) cy' (zs.set (i + k) d) := by
  obtain ⟨h1, h2, h3, h4, h5⟩ := h
  refine ⟨by rw [List.length_set, h1], h2.set _ hd.1 hd.2, hc', ?_, fun j hj => ?_⟩
  · have hs := valB_set H zs (i + k) (by omega) d
    rw [valB_take_succ]
    rw [Nat.pow_add] at h4 hs
    have := hmul_alg H (H ^ i) (H ^ k) _ _ _ _ _ _ _ _ _ h4 e
    rw [show i + (k + 1) = i + k + 1 from rfl, Nat.pow_succ, Nat.pow_add]
    omega
  · rw [getD_set_ne _ (by omega)]
    exact h5 j hj
theorem hmulIn_end {xs ys zs : List Int} {N i : Nat} {cy : Int} (h : HMulIn xs ys N i ys.length cy zs) (hN : i + ys.length < N) : HMulOut xs ys N (i + 1) (zs.set (i + ys.length) cy) := by
  obtain ⟨h1, h2, h3, h4, h5⟩ := h
  refine ⟨by rw [List.length_set, h1], h2.set _ h3.1 h3.2, ?_, fun j hj => ?_⟩
  · have hs := valB_set H zs (i + ys.length) (by omega) cy
    rw [h5 _ (Nat.le_refl _)] at hs
    rw [List.take_of_length_le (Nat.le_refl _)] at h4
    rw [valB_take_succ, Nat.add_mul, Nat.mul_assoc]
    simp at hs
    omega
  · rw [getD_set_ne _ (by omega)]
    exact h5 j (by omega)

set_option maxHeartbeats 2000000 in
theorem ref_nmul {w : World} {A A' : Option Addr} {n n' c c' : Nat} {xs ys : List Int} (h : Sl w A n c xs) (h' : Sl w A' n' c' ys) (hn : n ≤ 1000000) (hn' : n' ≤ 1000000) :
    Calls Tryz.prog 52 #[.slice A n c, .slice A' n' c'] w (RetSl (words (val xs * val ys)) w) := by
  have hl1 := hwords_len (Dg_U h.us) rfl
  have hl2 := hwords_len (Dg_U h'.us) rfl
  rw [← h.len] at hl1
  rw [← h'.len] at hl2
  have e1 := valH_hwords (val xs)
  have e2 := valH_hwords (val ys)
  have d1 := hwords_Dg (val xs)
  have d2 := hwords_Dg (val ys)
  have T1 := ref_halves h (by omega)
  generalize hwords (val xs) = hx at *
  have T2 := fun w1 (hb : Below w.heap.size w w1) => ref_halves (h'.below hb) (by omega)
  generalize hwords (val ys) = hy at *
  have HT1 := Lib.hid T1
  have HT2 := Lib.hid T2
  have E1 := Lib.hid e1
  have E2 := Lib.hid e2
  have D1 := Lib.hid d1
  have D2 := Lib.hid d2
  clear T1 T2 e1 e2 d1 d2
  go_enter Tryz.func52, Tryz.ntmps52
  go_wp2_with fail
  refine HT1.out.mono ?_
  rintro e w1 ⟨A1, n1, c1, rfl, s1, b1⟩
  go_wp2_with fail
  refine (HT2.out _ b1).mono ?_
  rintro e w2 ⟨A2, n2, c2, rfl, s2, b2⟩
  have hb2 := b1.trans (b2.mono b1.size)
  have s1' := s1.below b2
  have ln1 := s1'.len
  have ln2 := s2.len
  have q1 : n1 ≤ 2000000 := by omega
  have q2 : n2 ≤ 2000000 := by omega
  have LN1 := Lib.hid ln1
  have LN2 := Lib.hid ln2
  clear ln1 ln2 hl1 hl2 s1 b1 b2 HT1 HT2
  obtain ⟨w3, hmk, hr3, hb3, _⟩ := make_words w2 (n1 + n2 + 1) (by omega)
  rw [show ((n1 + n2 + 1 : Nat) : Int) = (n1 : Int) + (n2 : Int) + 1 by omega] at hmk
  have HR3 := Lib.hid hr3
  clear hr3
  go_wp2_with fail
  go_loopw [9, 24] (fun cv i wr => ∃ (k : Nat) (zs : List Int), k ≤ n1 ∧ i = .int .i64 k ∧ HMulOut hx hy (n1 + n2 + 1) k zs ∧ Row 76 wr w2.heap.size zs ∧ Below w2.heap.size w2 wr) (fun _ i _ => n1 - mes i)
  case atStart => exact ⟨0, _, by omega, rfl, hmulOut_0 hx hy _, HR3.out, hb3⟩
  case round =>
    clear HR3
    obtain ⟨i, zs, hi, rfl, hz, hr, hb⟩ := hrel
    by_cases hi2 : i < n1
    · go_wp2_with fail
      go_loopw [9, 29] (fun cv k wr => ∃ (j : Nat) (c0 : Int) (us : List Int), j ≤ n2 ∧ k = .int .i64 j ∧ cv = .int .u64 c0 ∧ HMulIn hx hy (n1 + n2 + 1) i j c0 us ∧ Row 76 wr w2.heap.size us ∧ Below w2.heap.size w2 wr) (fun _ k _ => n2 - mes k)
      case atStart => exact ⟨0, 0, zs, by omega, rfl, rfl, hmulIn_0 hz, hr, hb⟩
      case round =>
        clear hz hr hb
        obtain ⟨j, c0, us, hj, rfl, rfl, hz, hr, hb⟩ := hrel
        by_cases hj2 : j < n2
        · obtain ⟨ba, offa, rfl, _, hac⟩ := (s1'.apart' hb (Nat.le_refl _)).at_ hi2
          obtain ⟨bb, offb, rfl, _, hbc⟩ := (s2.apart' hb (Nat.le_refl _)).at_ hj2
          have hlz : us.length = n1 + n2 + 1 := hz.1
          have hcell := hr.cell (i := i + j) (by omega)
          have hfree := hr.free (i + j)
          obtain ⟨m1, m2, m3, m4⟩ := hmul_word (D1.out.at_ H_pos i) (D2.out.at_ H_pos j) (hz.2.1.at_ H_pos (i + j)) hz.2.2.1
          have hst := hmulIn_step hz (by rw [← LN2.out]; exact hj2) (by rw [← LN2.out]; omega) ⟨by omega, by unfold H; omega⟩ m4 m3
          have hc0 := hz.2.2.1.1
          have hz0 := (hz.2.1.at_ H_pos (i + j)).1
          obtain ⟨T, hT⟩ : ∃ T, c0 + hx.getD i 0 * hy.getD j 0 + us.getD (i + j) 0 = T := ⟨_, rfl⟩
          have hw1 : IntKind.u64.wrap (hx.getD i 0 * hy.getD j 0) = hx.getD i 0 * hy.getD j 0 := by rw [wrapU_lo, lo_U]; unfold U; omega
          have hw2 : IntKind.u64.wrap (c0 + hx.getD i 0 * hy.getD j 0) = c0 + hx.getD i 0 * hy.getD j 0 := by rw [wrapU_lo, lo_U]; unfold U; omega
          have hw3 : IntKind.u64.wrap (c0 + hx.getD i 0 * hy.getD j 0 + us.getD (i + j) 0) = T := by rw [wrapU_lo, lo_U, hT]; unfold U; omega
          have hw4 : bits BinOp.and IntKind.u64 T 4294967295 = T % 4294967296 := and32 (by unfold U; omega)
          rw [hT] at hst
          have hT0 : 0 ≤ T := by omega
          generalize hx.getD i 0 = x at *
          generalize hy.getD j 0 = y at *
          generalize us.getD (i + j) 0 = z at *
          generalize T % 4294967296 = dd at *
          generalize hq : T / 4294967296 = qq at *
          have HS := Lib.hid hst
          have HR := Lib.hid hr
          clear hst hr hz hlz m1 m2 m3 m4 hT hc0 hz0
          go_wp2_with fail
          go_region
          all_goals try go_wp2
          all_goals
            go_roundw
            case rel => exact ⟨j + 1, _, _, by omega, by go_num, rfl, HS.out, HR.out.drew.set (i + j) _, hb.drew.setCell (Nat.le_refl _) _⟩
            case measure => simp [mes, intOf]; omega
        · obtain rfl : j = n2 := by omega
          have hlz : us.length = n1 + j + 1 := hz.1
          have hcell := hr.cell (i := i + j) (by omega)
          have hfree := hr.free (i + j)
          have e9 := LN2.out
          have hst := hmulIn_end (xs := hx) (ys := hy) (N := n1 + j + 1) (i := i) (cy := c0) (zs := us) (by rw [← e9]; exact hz) (by rw [← e9]; omega)
          rw [← e9] at hst
          have HS := Lib.hid hst
          have HR := Lib.hid hr
          clear hst hr hz hlz e9
          go_wp2_with fail
          go_roundw
          case rel => exact ⟨i + 1, _, by omega, by go_num, HS.out, HR.out.set (i + j) _, hb.setCell (Nat.le_refl _) _⟩
          case measure => simp [mes, intOf]; omega
    · obtain rfl : i = n1 := by omega
      obtain ⟨z1, z2, z3, z4⟩ := hz
      have hsl := hr.sl (c := i + n2 + 1) (U_Dg (z2.mono H_le_W)) (by omega)
      rw [z1] at hsl
      rw [List.take_of_length_le (by have := LN1.out; omega), E1.out, E2.out] at z3
      have WH := ref_whole hsl z2 (by omega)
      rw [z3] at WH
      have HW := Lib.hid WH
      have hbb := hb2.trans (hb.mono hb2.size)
      clear z1 z2 z3 z4 hsl WH hr
      go_wp2_with fail
      refine HW.out.mono ?_
      rintro e w5 ⟨A5, n5, c5, rfl, s5, b5⟩
      go_wp2_with fail
      go_ret
      exact ⟨_, _, _, rfl, s5, hbb.trans (b5.mono hbb.size)⟩

theorem val_one (x : Int) : val [x] = x.toNat := by simp [val, valB]

theorem words_one : words 1 = [1] := by
  have e : (1 : Nat) = val [1] := by simp [val, valB]
  rw [e, words_val (by intro x hx; simp at hx; subst hx; unfold W; omega)]
  decide

end Go.Proofs.YtfhihapgjiaobaaGreat

namespace Go.Proofs.YtfhihapgjiaobaaGreat
set_option maxRecDepth 100000
open Go.RowKit
set_option linter.unusedVariables false
set_option linter.unusedSimpArgs false

theorem shl_digit2 {x y : Int} {s : Nat} (hs : s < 64) (hx : U x) (hy : U y) :
    ∃ v : Nat, bits BinOp.or IntKind.u64 (IntKind.u64.wrap (x * 2 ^ s)) (y / 2 ^ (64 - s)) = (v : Int) ∧ v < W ∧ v = x.toNat * 2 ^ s % W + y.toNat / 2 ^ (64 - s) ∧ x.toNat * 2 ^ s = x.toNat * 2 ^ s % W + W * (x.toNat / 2 ^ (64 - s)) := by
  obtain ⟨n, rfl⟩ := Int.eq_ofNat_of_zero_le hx.1
  obtain ⟨e, rfl⟩ := Int.eq_ofNat_of_zero_le hy.1
  have hW := W_split (s := s) (by omega)
  have p0 : 0 < 2 ^ s := Nat.two_pow_pos s
  have hm : n * 2 ^ s % W < W := Nat.mod_lt _ W_pos
  have hm0 : n * 2 ^ s % W % 2 ^ s = 0 := by
    rw [hW, Nat.mod_mul_right_mod, Nat.mul_mod_left]
  have heW : e < W := by have := hy.2; unfold W; omega
  obtain ⟨hb, hb'⟩ := shl_high hs heW
  have hlt : n * 2 ^ s % W + 2 ^ s ≤ W := by
    have e1 : n * 2 ^ s % W = 2 ^ s * (n * 2 ^ s % W / 2 ^ s) := by
      have := Nat.div_add_mod (n * 2 ^ s % W) (2 ^ s); omega
    have e2 : n * 2 ^ s % W / 2 ^ s < 2 ^ (64 - s) := by
      rw [Nat.div_lt_iff_lt_mul p0, Nat.mul_comm (2 ^ (64 - s)), ← hW]; exact hm
    have e3 : 2 ^ s * (n * 2 ^ s % W / 2 ^ s + 1) ≤ 2 ^ s * 2 ^ (64 - s) := Nat.mul_le_mul_left _ e2
    rw [← hW, Nat.mul_add] at e3
    omega
  refine ⟨n * 2 ^ s % W + e / 2 ^ (64 - s), ?_, by omega, by simp, ?_⟩
  · rw [cast_shl, cast_shr, wrapU]
    have ew : ((n * 2 ^ s : Nat) : Int) % 18446744073709551616 = ((n * 2 ^ s % W : Nat) : Int) := by rw [Int.natCast_emod]; rfl
    rw [ew]
    generalize n * 2 ^ s % W = a at *
    generalize e / 2 ^ (64 - s) = b at *
    have := shl_or a b s (by unfold W at hm; omega) hm0 hb (by unfold W at hb'; omega)
    rw [wrapU_lo, lo_U (by unfold U; unfold W at hm; omega)] at this
    exact this
  · simp only [Int.toNat_natCast]
    have e5 : n * 2 ^ s / W = n / 2 ^ (64 - s) := by rw [hW, Nat.mul_comm (2 ^ s), Nat.mul_div_mul_right _ _ p0]
    have := Nat.div_add_mod (n * 2 ^ s) W
    rw [e5] at this
    omega

/-- places above i hold shifted words, those up to i hold what they held -/
def ShlDown (L : List Int) (s i : Nat) (zs : List Int) : Prop :=
  zs.length = L.length ∧ Dg W zs ∧ (∀ j, j ≤ i → zs.getD j 0 = L.getD j 0) ∧ valB W (zs.drop (i + 1)) = valB W (L.drop (i + 1)) * 2 ^ s + (L.getD i 0).toNat / 2 ^ (64 - s)
theorem shlDown_0 {L : List Int} {s N : Nat} (hd : Dg W L) (hN : L.length = N + 1) (h0 : L.getD N 0 = 0) : ShlDown L s N L := by
  refine ⟨rfl, hd, fun j _ => rfl, ?_⟩
  rw [List.drop_eq_nil_of_le (by omega), h0]
  simp [valB]
theorem shlDown_alg (b T X Lx Hx V2 Y v R : Nat) (hv : v = Lx + Y) (hx : X * T = Lx + b * Hx) (hR : R = V2 * T + Hx) : v + b * R = (X + b * V2) * T + Y := by
  subst hv hR
  rw [Nat.add_mul, hx, Nat.mul_add, Nat.mul_assoc]
  omega
theorem shlDown_step {L zs : List Int} {s k v : Nat} (h : ShlDown L s (k + 1) zs) (hk : k + 1 < L.length) (hv1 : v < W) (hv : v = (L.getD (k + 1) 0).toNat * 2 ^ s % W + (L.getD k 0).toNat / 2 ^ (64 - s))
    (hx : (L.getD (k + 1) 0).toNat * 2 ^ s = (L.getD (k + 1) 0).toNat * 2 ^ s % W + W * ((L.getD (k + 1) 0).toNat / 2 ^ (64 - s))) : ShlDown L s k (zs.set (k + 1) (v : Int)) := by
  obtain ⟨h1, h2, h3, h4⟩ := h
  refine ⟨by simpa using h1, h2.set _ (Int.natCast_nonneg _) (Int.ofNat_lt.2 hv1), fun j hj => ?_, ?_⟩
  · rw [getD_set_ne _ (by omega)]; exact h3 j (by omega)
  · rw [valB_drop W _ (k + 1), getD_set_self _ (by omega), Int.toNat_natCast, List.drop_set_of_lt (by omega), valB_drop W L (k + 1)]
    exact shlDown_alg W _ _ _ _ _ _ _ _ hv hx h4
theorem shlDown_end {L zs : List Int} {s v : Nat} (h : ShlDown L s 0 zs) (hk : 0 < L.length) (hv1 : v < W) (hv : v = (L.getD 0 0).toNat * 2 ^ s % W)
    (hx : (L.getD 0 0).toNat * 2 ^ s = (L.getD 0 0).toNat * 2 ^ s % W + W * ((L.getD 0 0).toNat / 2 ^ (64 - s))) : val (zs.set 0 (v : Int)) = val L * 2 ^ s ∧ Dg W (zs.set 0 (v : Int)) ∧ (zs.set 0 (v : Int)).length = L.length := by
  obtain ⟨h1, h2, h3, h4⟩ := h
  refine ⟨?_, h2.set _ (Int.natCast_nonneg _) (Int.ofNat_lt.2 hv1), by simpa using h1⟩
  unfold val
  have e1 := valB_drop W (zs.set 0 (v : Int)) 0
  have e2 := valB_drop W L 0
  rw [List.drop_zero] at e1 e2
  rw [e1, getD_set_self _ (by omega), Int.toNat_natCast, List.drop_set_of_lt (by omega), e2]
  have := shlDown_alg W (2 ^ s) (L.getD 0 0).toNat _ _ _ 0 v _ (by rw [Nat.add_zero]; exact hv) hx h4
  rw [Nat.add_zero] at this
  exact this
theorem val_zeros_append (k : Nat) (xs : List Int) : val (List.replicate k 0 ++ xs) = W ^ k * val xs := by
  unfold val
  rw [valB_append, valB_zeros, List.length_replicate, Nat.zero_add]
theorem val_snoc_zero (xs : List Int) : val (xs ++ [0]) = val xs := by
  unfold val
  rw [valB_snoc]
  simp

/-- places below k hold shifted words, those from k on hold what they held -/
def ShrUp (L : List Int) (s k : Nat) (zs : List Int) : Prop :=
  zs.length = L.length ∧ Dg W zs ∧ (∀ j, k ≤ j → zs.getD j 0 = L.getD j 0) ∧ valB W (zs.take k) + W ^ k * (valB W (L.drop k) / 2 ^ s) = valB W L / 2 ^ s
theorem shrUp_0 {L : List Int} (s : Nat) (hd : Dg W L) : ShrUp L s 0 L := by
  refine ⟨rfl, hd, fun j _ => rfl, ?_⟩
  simp [valB]
theorem shrUp_step {L zs : List Int} {s k v : Nat} (hs : s < 64) (hd : Dg W L) (h : ShrUp L s k zs) (hk : k < L.length) (hv1 : v < W) (hv : v = (L.getD k 0).toNat / 2 ^ s + 2 ^ (64 - s) * ((L.getD (k + 1) 0).toNat % 2 ^ s)) :
    ShrUp L s (k + 1) (zs.set k (v : Int)) := by
  obtain ⟨h1, h2, h3, h4⟩ := h
  have hR := shr_half W (2 ^ s) (2 ^ (64 - s)) (L.getD k 0).toNat (L.getD (k + 1) 0).toNat _ _ (W_split (by omega)) (Nat.two_pow_pos s) (valB_drop W L (k + 1))
  rw [← valB_drop, ← hv] at hR
  refine ⟨by simpa using h1, h2.set _ (Int.natCast_nonneg _) (Int.ofNat_lt.2 hv1), fun j hj => ?_, ?_⟩
  · rw [getD_set_ne _ (by omega)]; exact h3 j (by omega)
  · rw [valB_take_succ, getD_set_self _ (by omega), Int.toNat_natCast, List.take_set_of_le (by omega), Nat.pow_succ]
    exact shr_algebra W _ _ _ _ _ _ _ rfl h4 hR
theorem shrUp_end {L zs : List Int} {s : Nat} (h : ShrUp L s L.length zs) : val zs = val L / 2 ^ s := by
  obtain ⟨h1, h2, h3, h4⟩ := h
  rw [List.drop_length, List.take_of_length_le (by omega)] at h4
  unfold val
  have e : valB W [] / 2 ^ s = 0 := by simp [valB]
  rw [e, Nat.mul_zero, Nat.add_zero] at h4
  exact h4
theorem val_drop_div {xs : List Int} (h : Dg W xs) (m : Nat) : val (xs.drop (m / 64)) / 2 ^ (m % 64) = val xs / 2 ^ m := by
  unfold val
  rw [← valB_div W_pos h, Nat.div_div_eq_div_mul, pow_shift]

end Go.Proofs.YtfhihapgjiaobaaGreat

namespace Go.Proofs.YtfhihapgjiaobaaGreat
set_option maxRecDepth 100000
open Go.RowKit
set_option linter.unusedVariables false
set_option linter.unusedSimpArgs false

theorem Own.addr {t : TypeId} {B : Nat} {w : World} {A : Option Addr} {n c : Nat} {zs : List Int} (h : Own t B w (.slice A n c) zs) (h0 : 0 < zs.length) : ∃ g, A = some ⟨g, 0, none⟩ ∧ B ≤ g := by
  rcases h with ⟨hl, ⟨hv, hn⟩ | ⟨g, cap, cur, hv, hb, _⟩⟩
  · omega
  · injection hv with ha
    exact ⟨g, ha, hb⟩
theorem Own.cell {t : TypeId} {B : Nat} {w : World} {g n c : Nat} {zs : List Int} (h : Own t B w (.slice (some ⟨g, 0, none⟩) n c) zs) {i : Nat} (hi : i < zs.length) : w.cell? ⟨g, i, none⟩ = some (.int .u64 (zs.getD i 0)) := by
  obtain ⟨A', c', e⟩ := own_form h
  injection e with e1 e2 e3
  subst e2
  rw [h.out.cellAt i (by omega)]
  simp [vs, List.getD_eq_getElem?_getD, List.getElem?_eq_getElem hi]
theorem Own.free {t : TypeId} {B : Nat} {w : World} {g n c : Nat} {zs : List Int} (h : Own t B w (.slice (some ⟨g, 0, none⟩) n c) zs) (i : Nat) : w.frozen? ⟨g, i, none⟩ = false := by
  obtain ⟨A', c', e⟩ := own_form h
  injection e with e1 e2 e3
  subst e2
  exact h.out.frozenAt i
theorem Own.set {t : TypeId} {B : Nat} {w : World} {g n c : Nat} {zs : List Int} (h : Own t B w (.slice (some ⟨g, 0, none⟩) n c) zs) (i : Nat) (u : Int) : Own t B (w.setCell ⟨g, i, none⟩ (.int .u64 u)) (.slice (some ⟨g, 0, none⟩) n c) (zs.set i u) := by
  obtain ⟨A', c', e⟩ := own_form h
  injection e with e1 e2 e3
  subst e2
  have := (h.out.stored i (.int .u64 u)).1
  unfold Own
  have ev : vs (zs.set i u) = (vs zs).set i (.int .u64 u) := by unfold vs; rw [List.map_set]
  rw [ev, List.length_set]
  exact this
theorem Own.drew {t : TypeId} {B : Nat} {w : World} {v : Value} {zs : List Int} (h : Own t B w v zs) : Own t B w.drew v zs := h

set_option maxHeartbeats 2000000 in
theorem ref_shl {w : World} {A : Option Addr} {n c : Nat} {xs : List Int} (h : Sl w A n c xs) (hn : n ≤ 1000000) (i : Int) :
    Calls Tryz.prog 106 #[.slice A n c, .int .i64 i] w (RetSl (words (val xs * 2 ^ clampS i)) w) := by
  have hlen := h.len
  have HL := Lib.hid hlen
  clear hlen
  obtain ⟨i0, hi, hz0, hz1, hz2⟩ := info_parts infoW
  obtain ⟨m, hm⟩ : ∃ m, clampS i = m := ⟨_, rfl⟩
  have hm64 := clampS_le i
  rw [hm] at hm64
  rw [hm]
  have HM := Lib.hid hm
  clear hm
  obtain ⟨skip, hskip⟩ : ∃ k, m / 64 = k := ⟨_, rfl⟩
  obtain ⟨s, hs0⟩ : ∃ k, m % 64 = k := ⟨_, rfl⟩
  have hs64 : s < 64 := by omega
  have hsk : skip ≤ 1024 := by omega
  have e1 : (m : Int) / 64 = (skip : Int) := by omega
  have e2 : (m : Int) % 64 = (s : Int) := by omega
  have epow : W ^ skip * 2 ^ s = 2 ^ m := by rw [← hskip, ← hs0]; exact pow_shift m
  have EP := Lib.hid epow
  clear hskip hs0 epow
  go_enter Tryz.func106, Tryz.ntmps106
  go_upto_region 1 with (fail)
  go_cut [1] (fun s1 wx => s1 = .int .i64 m ∧ w = wx)
  case first =>
    by_cases h1 : i < 0
    · go_wp2_with fail
      go_meet
      exact ⟨vint (by have := HM.out; rw [clampS_neg (by omega)] at this; omega), rfl⟩
    · by_cases h2 : i > 65536
      · go_wp2_with fail
        go_meet
        exact ⟨vint (by have := HM.out; rw [clampS_big (by omega)] at this; omega), rfl⟩
      · go_wp2_with fail
        go_meet
        exact ⟨vint (by have := HM.out; rw [clampS_mid (by omega) (by omega)] at this; omega), rfl⟩
  case rest =>
    obtain ⟨rfl, rfl⟩ := hcut
    go_wp2_with fail
    go_loopw [5, 14] (fun v i wr => ∃ (k : Nat) (zs : List Int), k ≤ skip ∧ i = .int .i64 k ∧ Own 76 w.heap.size wr v zs ∧ Below w.heap.size w wr ∧ Hid (zs = List.replicate k 0)) (fun _ i _ => skip - mes i)
    case atStart => exact ⟨0, [], by omega, rfl, Own.nil _ _ _, Below.refl _ _, Lib.hid rfl⟩
    case round =>
      obtain ⟨k, zs, hk, rfl, hown, hb, HZ⟩ := hrel
      have hzl : zs.length ≤ k := by rw [HZ.out]; simp
      by_cases hk2 : k < skip
      · go_wp2_with (at_builtin; refine wpList_append_own _ rfl (.tmp 16) (.tmp 17) 43 rfl w.heap.size 76 i0 (.int .u64 0) 1 8 Tryz.underlying43 hi hz0 hz1 hz2 rfl (by decide) _ _ _ rfl (hown.out.alloc _) ⟨wr.heap.size, 0, none⟩ 1 1 [.int .u64 (0)] rfl rfl ?c1 ?c2 ?c3 ?c4 ?c5 ?_)
        case c1 => exact cell_one_new _ _ _
        case c2 => intro u hu; simp at hu; subst hu; rfl
        case c3 => unfold maxLen; omega
        case c4 => omega
        case c5 => have := hb.size; simp; omega
        intro v' w1 hown' hgrow _
        have hb1 := own_below hb hown hgrow
        have HO := Lib.hid (Own.snoc hown')
        clear hown hown' hgrow
        go_wp2
        go_roundw
        case rel => exact ⟨k + 1, _, by omega, by go_num, HO.out, hb1, Lib.hid (by rw [HZ.out, ← List.replicate_succ'])⟩
        case measure => simp [mes, intOf]; omega
      · obtain rfl : k = skip := by omega
        go_wp2_with fail
        go_loopw [5, 22] (fun v i wr2 => ∃ (j : Nat) (ys : List Int), j ≤ n ∧ i = .int .i64 j ∧ Own 76 w.heap.size wr2 v ys ∧ Below w.heap.size w wr2 ∧ Hid (ys = List.replicate k 0 ++ xs.take j)) (fun _ i _ => n - mes i)
        case atStart => exact ⟨0, zs, by omega, rfl, hown, hb, Lib.hid (by rw [HZ.out]; simp)⟩
        case round =>
          clear hown hb hzl HZ
          obtain ⟨j, ys, hj, rfl, hown, hb, HY⟩ := hrel
          have hyl : ys.length ≤ k + j := by rw [HY.out]; simp [List.length_take]; omega
          by_cases hj2 : j < n
          · obtain ⟨ba, off, rfl, hba, hca⟩ := h.at_ (k := j) (by omega)
            have hac := (hb.cell (p := ⟨ba, off + j, none⟩) hba).trans (hca j (by omega))
            have ht := take_snoc xs j (by have := HL.out; omega)
            obtain ⟨x, hx⟩ : ∃ x, xs.getD j 0 = x := ⟨_, rfl⟩
            rw [hx] at hac ht
            have HT := Lib.hid ht
            clear ht hx hca
            go_wp2_with (at_builtin; refine wpList_append_own _ rfl (.tmp 25) (.tmp 30) 43 rfl w.heap.size 76 i0 (.int .u64 0) 1 8 Tryz.underlying43 hi hz0 hz1 hz2 rfl (by decide) _ _ _ rfl (hown.out.alloc _) ⟨wr.heap.size, 0, none⟩ 1 1 [.int .u64 (x)] rfl rfl ?d1 ?d2 ?d3 ?d4 ?d5 ?_)
            case d1 => exact cell_one_new _ _ _
            case d2 => intro u hu; simp at hu; subst hu; rfl
            case d3 => unfold maxLen; omega
            case d4 => omega
            case d5 => have := hb.size; simp; omega
            intro v' w1 hown' hgrow _
            have hb1 := own_below hb hown hgrow
            have HO := Lib.hid (Own.snoc hown')
            clear hown hown' hgrow hac
            go_wp2
            go_roundw
            case rel => exact ⟨j + 1, _, by omega, by go_num, HO.out, hb1, Lib.hid (by rw [HY.out, HT.out, List.append_assoc])⟩
            case measure => simp [mes, intOf]; omega
          · obtain rfl : j = n := by omega
            have hL : ys = List.replicate k 0 ++ xs := by rw [HY.out, List.take_of_length_le (by have := HL.out; omega)]
            have hdL : Dg W ys := by rw [hL]; exact (Dg.zeros W_pos _).append (Dg_U h.us)
            have hvL : val ys * 2 ^ s = val xs * 2 ^ m := by
              rw [hL, val_zeros_append, ← EP.out, Nat.mul_right_comm, Nat.mul_comm]
            have hlL : ys.length = k + j := by rw [hL]; simp; have := HL.out; omega
            clear HY hL
            have HV := Lib.hid hvL
            have HLL := Lib.hid hlL
            clear hvL hlL
            by_cases hs0 : s = 0
            · subst hs0
              obtain ⟨A2, c2, rfl⟩ := own_form hown
              have R := ref_trim (hown.sl (U_Dg hdL)) (by omega)
              have hv9 := HV.out
              rw [Nat.pow_zero, Nat.mul_one] at hv9
              rw [hv9] at R
              have HR := Lib.hid R
              clear R hown hv9
              go_wp2_with fail
              refine HR.out.mono ?_
              rintro e w' ⟨A3, n3, c3, rfl, s3, b3⟩
              go_wp2_with fail
              go_ret
              exact ⟨_, _, _, rfl, s3, hb.trans (b3.mono hb.size)⟩
            · have hs1 : ((s : Int) == 0) = false := by simp; omega
              go_wp2_with (at_builtin; refine wpList_append_own _ rfl (.tmp 41) (.tmp 42) 43 rfl w.heap.size 76 i0 (.int .u64 0) 1 8 Tryz.underlying43 hi hz0 hz1 hz2 rfl (by decide) _ _ _ rfl (hown.out.alloc _) ⟨wr.heap.size, 0, none⟩ 1 1 [.int .u64 (0)] rfl rfl ?f1 ?f2 ?f3 ?f4 ?f5 ?_)
              case f1 => exact cell_one_new _ _ _
              case f2 => intro u hu; simp at hu; subst hu; rfl
              case f3 => unfold maxLen; omega
              case f4 => omega
              case f5 => have := hb.size; simp; omega
              intro v' w1 hown' hgrow _
              have hb1 := own_below hb hown hgrow
              have hown1 := Own.snoc hown'
              clear hown hown' hgrow hb
              obtain ⟨A2, c2, rfl⟩ := own_form hown1
              obtain ⟨g, rfl, hg⟩ := hown1.addr (by simp)
              obtain ⟨L, hL⟩ : ∃ L, ys ++ [0] = L := ⟨_, rfl⟩
              have hNL : L.length = ys.length + 1 := by rw [← hL]; simp
              have hdL' : Dg W L := by rw [← hL]; exact hdL.snoc (by omega) (by unfold W; omega)
              have hl0 : L.getD ys.length 0 = 0 := by rw [← hL]; simp [List.getD_eq_getElem?_getD]
              have hvL' : val L = val ys := by rw [← hL]; exact val_snoc_zero ys
              rw [hL] at hown1 ⊢
              rw [hNL] at hown1 ⊢
              have hst := shlDown_0 (s := s) hdL' hNL hl0
              generalize hN : ys.length = N at *
              have HN := Lib.hid hN
              have HVL := Lib.hid hvL'
              have HNL := Lib.hid hNL
              clear hL hN hvL' hNL hl0
              go_wp2_with fail
              go_loopw [8] (fun i wr3 => ∃ (p : Nat) (zs : List Int), p ≤ N ∧ i = .int .i64 p ∧ Own 76 w.heap.size wr3 (.slice (some ⟨g, 0, none⟩) (N + 1) c2) zs ∧ Below w.heap.size w wr3 ∧ ShlDown L s p zs) (fun i _ => mes i)
              case atStart => exact ⟨N, L, by omega, rfl, hown1, hb1, hst⟩
              case round =>
                clear hown1 hb1 hst
                obtain ⟨p, zs, hp, rfl, hown, hb, hz⟩ := hrel
                have hzl : zs.length = N + 1 := by rw [hz.1, HNL.out]
                cases p with
                | zero =>
                  have hc0 := hown.cell (i := 0) (by omega)
                  rw [hz.2.2.1 0 (by omega)] at hc0
                  have hf0 := hown.free 0
                  have hux : U (L.getD 0 0) := by have := hdL'.at_ W_pos 0; unfold U; unfold W at this; omega
                  obtain ⟨v, ev, v1, v2, v3⟩ := shl_digit2 hs64 hux U_0
                  have ez : (0 : Int) / 2 ^ (64 - s) = 0 := Int.zero_ediv _
                  have ez' : (0 : Int).toNat / 2 ^ (64 - s) = 0 := by simp
                  rw [ez', Nat.add_zero] at v2
                  have ev2 : IntKind.u64.wrap (L.getD 0 0 * 2 ^ s) = (v : Int) := by
                    rw [← ev, ez]
                    have hw := U_wrap (L.getD 0 0 * 2 ^ s)
                    rw [or_join 0 hw (by simp) (by omega) (by simp) U_0, Int.add_zero]
                  obtain ⟨f1, f2, f3⟩ := shlDown_end hz (by rw [HNL.out]; omega) v1 v2 v3
                  have ho2 := hown.set 0 (v : Int)
                  have hb2 : Below w.heap.size w (wr.setCell ⟨g, 0, none⟩ (.int .u64 (v : Int))) := hb.setCell hg _
                  have R := ref_trim (ho2.sl (U_Dg f2)) (by omega)
                  rw [f1, HVL.out, HV.out] at R
                  generalize L.getD 0 0 = x at *
                  have HR := Lib.hid R
                  have HB2 := Lib.hid hb2
                  clear R ho2 f1 f2 f3 hz hown ev v1 v2 v3 ez ez' hzl hux hb2
                  go_wp2_with fail
                  refine HR.out.mono ?_
                  rintro e w' ⟨A3, n3, c3, rfl, s3, b3⟩
                  go_wp2_with fail
                  go_ret
                  exact ⟨_, _, _, rfl, s3, HB2.out.trans (b3.mono HB2.out.size)⟩
                | succ p =>
                  have hc1 := hown.cell (i := p + 1) (by omega)
                  rw [hz.2.2.1 (p + 1) (by omega)] at hc1
                  have hc0 := hown.cell (i := p) (by omega)
                  rw [hz.2.2.1 p (by omega)] at hc0
                  have hf1 := hown.free (p + 1)
                  have hux : U (L.getD (p + 1) 0) := by have := hdL'.at_ W_pos (p + 1); unfold U; unfold W at this; omega
                  have huy : U (L.getD p 0) := by have := hdL'.at_ W_pos p; unfold U; unfold W at this; omega
                  obtain ⟨v, ev, v1, v2, v3⟩ := shl_digit2 hs64 hux huy
                  have hst := shlDown_step hz (by rw [HNL.out]; omega) v1 v2 v3
                  have ho2 := hown.set (p + 1) (v : Int)
                  generalize L.getD (p + 1) 0 = x at *
                  generalize L.getD p 0 = y at *
                  have HS := Lib.hid hst
                  have HO := Lib.hid ho2
                  have wr1 : IntKind.u64.wrap (64 - (s : Int)) = 64 - (s : Int) := by rw [wrapU_lo, lo_U]; unfold U; omega
                  have wr2 : (64 - (s : Int)).toNat = 64 - s := by omega
                  clear hst ho2 hz hown v1 v2 v3 hzl hux huy
                  go_wp2_with fail
                  go_region
                  go_wp2
                  go_roundw
                  case rel => exact ⟨p, _, by omega, by go_num, HO.out, (hb.setCell hg _).drew, HS.out⟩
                  case measure => exact mes_lt (by omega) (by omega)

set_option maxHeartbeats 2000000 in
theorem ref_shr {w : World} {A : Option Addr} {n c : Nat} {xs : List Int} (h : Sl w A n c xs) (hn : n ≤ 1000000) (i : Int) (hi9 : i ≤ 9223372036854775807) :
    Calls Tryz.prog 105 #[.slice A n c, .int .i64 i] w (RetSl (words (val xs / 2 ^ i.toNat)) w) := by
  have hlen := h.len
  have HL := Lib.hid hlen
  clear hlen
  obtain ⟨i0, hi, hz0, hz1, hz2⟩ := info_parts infoW
  obtain ⟨m, hm⟩ : ∃ m, i.toNat = m := ⟨_, rfl⟩
  have hm64 : m ≤ 9223372036854775807 := by omega
  rw [hm]
  have HM := Lib.hid hm
  clear hm
  obtain ⟨skip, hskip⟩ : ∃ k, m / 64 = k := ⟨_, rfl⟩
  obtain ⟨s, hs0⟩ : ∃ k, m % 64 = k := ⟨_, rfl⟩
  have hs64 : s < 64 := by omega
  have hsk : skip ≤ 144115188075855872 := by omega
  have e1 : (m : Int) / 64 = (skip : Int) := by omega
  have e2 : (m : Int) % 64 = (s : Int) := by omega
  have epow : val (xs.drop skip) / 2 ^ s = val xs / 2 ^ m := by rw [← hskip, ← hs0]; exact val_drop_div (Dg_U h.us) m
  have EP := Lib.hid epow
  clear hskip hs0 epow
  go_enter Tryz.func105, Tryz.ntmps105
  go_upto_region 1 with (fail)
  go_cut [1] (fun s1 wx => s1 = .int .i64 m ∧ w = wx)
  case first =>
    by_cases h1 : i < 0
    · go_wp2_with fail
      go_meet
      exact ⟨vint (by have := HM.out; omega), rfl⟩
    · go_wp2_with fail
      go_meet
      exact ⟨vint (by have := HM.out; omega), rfl⟩
  case rest =>
    obtain ⟨rfl, rfl⟩ := hcut
    go_wp2_with fail
    go_loopw [5, 6] (fun v i wr => ∃ (k : Nat) (zs : List Int), k ≤ n - skip ∧ i = .int .i64 ((skip : Int) + k) ∧ Own 76 w.heap.size wr v zs ∧ Below w.heap.size w wr ∧ Hid (zs = (xs.drop skip).take k)) (fun _ i _ => n - mes i)
    case atStart => exact ⟨0, [], by omega, vint (by omega), Own.nil _ _ _, Below.refl _ _, Lib.hid (by simp)⟩
    case round =>
      obtain ⟨k, zs, hk, rfl, hown, hb, HZ⟩ := hrel
      have hzl : zs.length ≤ k := by rw [HZ.out, List.length_take]; omega
      by_cases hk2 : skip + k < n
      · obtain ⟨ba, off, rfl, hba, hca⟩ := h.at_ (k := skip + k) (by omega)
        have hac := (hb.cell (p := ⟨ba, off + (skip + k), none⟩) hba).trans (hca (skip + k) (by omega))
        have ht := take_snoc (xs.drop skip) k (by rw [List.length_drop]; have := HL.out; omega)
        have hgd : (xs.drop skip).getD k 0 = xs.getD (skip + k) 0 := by simp [List.getD_eq_getElem?_getD, List.getElem?_drop]
        rw [hgd] at ht
        obtain ⟨x, hx⟩ : ∃ x, xs.getD (skip + k) 0 = x := ⟨_, rfl⟩
        rw [hx] at hac ht
        have HT := Lib.hid ht
        have hkn : (skip : Int) + k < n := by omega
        have htn : ((skip : Int) + k).toNat = skip + k := by omega
        clear ht hx hca hgd
        go_wp2_with (at_builtin; refine wpList_append_own _ rfl (.tmp 19) (.tmp 24) 43 rfl w.heap.size 76 i0 (.int .u64 0) 1 8 Tryz.underlying43 hi hz0 hz1 hz2 rfl (by decide) _ _ _ rfl (hown.out.alloc _) ⟨wr.heap.size, 0, none⟩ 1 1 [.int .u64 (x)] rfl rfl ?c1 ?c2 ?c3 ?c4 ?c5 ?_)
        case c1 => exact cell_one_new _ _ _
        case c2 => intro u hu; simp at hu; subst hu; rfl
        case c3 => unfold maxLen; omega
        case c4 => omega
        case c5 => have := hb.size; simp; omega
        intro v' w1 hown' hgrow _
        have hb1 := own_below hb hown hgrow
        have HO := Lib.hid (Own.snoc hown')
        clear hown hown' hgrow hac
        go_wp2
        go_roundw
        case rel => exact ⟨k + 1, _, by omega, by go_num, HO.out, hb1, Lib.hid (by rw [HZ.out, HT.out])⟩
        case measure => simp [mes, intOf]; omega
      · have hk3 : k = n - skip := by omega
        have hL : zs = xs.drop skip := by rw [HZ.out, List.take_of_length_le (by rw [List.length_drop]; have := HL.out; omega)]
        have hdL : Dg W zs := by rw [hL]; exact (Dg_U h.us).drop skip
        have hvL : val zs / 2 ^ s = val xs / 2 ^ m := by rw [hL]; exact EP.out
        have HV := Lib.hid hvL
        have hkn : (n : Int) ≤ (skip : Int) + k := by omega
        have hdec : decide ((skip : Int) + (k : Int) < (n : Int)) = false := by simp; omega
        have hzl2 : zs.length ≤ n := by omega
        clear HZ hL hvL hk3
        obtain ⟨A2, c2, rfl⟩ := own_form hown
        by_cases hs0 : s = 0
        · subst hs0
          have R := ref_trim (hown.sl (U_Dg hdL)) (by omega)
          have hv9 := HV.out
          rw [Nat.pow_zero, Nat.div_one] at hv9
          rw [hv9] at R
          have HR := Lib.hid R
          clear R hown hv9
          go_wp2_with fail
          refine HR.out.mono ?_
          rintro e w' ⟨A3, n3, c3, rfl, s3, b3⟩
          go_wp2_with fail
          go_ret
          exact ⟨_, _, _, rfl, s3, hb.trans (b3.mono hb.size)⟩
        · have hs1 : ((s : Int) == 0) = false := by simp; omega
          obtain ⟨L, hL⟩ : ∃ L, zs = L := ⟨_, rfl⟩
          have hst := shrUp_0 s hdL
          rw [hL] at hown hdL hst HV hzl hzl2 ⊢
          obtain ⟨N, hN⟩ : ∃ N, L.length = N := ⟨_, rfl⟩
          rw [hN] at hown hzl hzl2 ⊢
          have HN := Lib.hid hN
          clear hL hN
          go_wp2_with fail
          go_loopw [36] (fun i wr3 => ∃ (p : Nat) (ys : List Int), p ≤ N ∧ i = .int .i64 p ∧ Own 76 w.heap.size wr3 (.slice A2 N c2) ys ∧ Below w.heap.size w wr3 ∧ ShrUp L s p ys) (fun i _ => N - mes i)
          case atStart => exact ⟨0, L, by omega, rfl, hown, hb, hst⟩
          case round =>
            clear hown hb hst
            obtain ⟨p, ys, hp, rfl, hown, hb, hz⟩ := hrel
            have hyl : ys.length = N := by rw [hz.1, HN.out]
            by_cases hp2 : p < N
            · obtain ⟨g, rfl, hg⟩ := hown.addr (by omega)
              have hc0 := hown.cell (i := p) (by omega)
              rw [hz.2.2.1 p (by omega)] at hc0
              have hf0 := hown.free p
              have hux : U (L.getD p 0) := by have := hdL.at_ W_pos p; unfold U; unfold W at this; omega
              have huy : U (L.getD (p + 1) 0) := by have := hdL.at_ W_pos (p + 1); unfold U; unfold W at this; omega
              obtain ⟨v, ev, v1, v2⟩ := shr_digit hs64 hux huy
              have hst := shrUp_step hs64 hdL hz (by rw [HN.out]; omega) v1 v2
              have ho2 := hown.set p (v : Int)
              have hst0 : p + 1 < N → wr.cell? ⟨g, p + 1, none⟩ = some (.int .u64 (L.getD (p + 1) 0)) := fun h9 => by
                have := hown.cell (i := p + 1) (by omega)
                rw [hz.2.2.1 (p + 1) (by omega)] at this
                exact this
              have hnone : N ≤ p + 1 → L.getD (p + 1) 0 = 0 := fun h9 => by rw [List.getD_eq_getElem?_getD, List.getElem?_eq_none (by rw [HN.out]; omega)]; rfl
              generalize L.getD p 0 = x at *
              generalize L.getD (p + 1) 0 = y at *
              have HS := Lib.hid hst
              have HO := Lib.hid ho2
              have wr1 : IntKind.u64.wrap (64 - (s : Int)) = 64 - (s : Int) := by rw [wrapU_lo, lo_U]; unfold U; omega
              have wr2 : (64 - (s : Int)).toNat = 64 - s := by omega
              by_cases hp3 : p + 1 < N
              · have hc1 := hst0 hp3
                have hp4 : (p : Int) + 1 < N := by omega
                have ho3 := (hown.set p (x / 2 ^ s)).set p (v : Int)
                rw [List.set_set] at ho3
                have HO3 := Lib.hid ho3
                clear hst ho2 hz hown v1 v2 hyl hux huy hst0 hnone ho3 HO
                go_wp2_with fail
                go_region
                go_wp2
                go_roundw
                case rel => exact ⟨p + 1, _, by omega, by go_num, HO3.out, (((hb.setCell hg _).setCell hg _).drew), HS.out⟩
                case measure => simp [mes, intOf]; omega
              · have hy := hnone (by omega)
                subst hy
                have hp4 : (N : Int) ≤ (p : Int) + 1 := by omega
                have evx : x / 2 ^ s = (v : Int) := by
                  rw [v2, show (0 : Int).toNat % 2 ^ s = 0 by simp, Nat.mul_zero, Nat.add_zero, ← cast_shr, Int.toNat_of_nonneg hux.1]
                clear hst ho2 hz hown v1 v2 hyl hux huy hst0 hnone ev wr1 wr2
                go_wp2_with fail
                go_roundw
                case rel => exact ⟨p + 1, _, by omega, by go_num, HO.out, hb.setCell hg _, HS.out⟩
                case measure => simp [mes, intOf]; omega
            · obtain rfl : p = N := by omega
              have f1 : val ys = val L / 2 ^ s := shrUp_end (by rw [HN.out]; exact hz)
              have f2 : Dg W ys := hz.2.1
              have R := ref_trim (hown.sl (U_Dg f2)) (by omega)
              rw [f1, HV.out] at R
              have HR := Lib.hid R
              clear R f1 f2 hz hown hyl
              go_wp2_with fail
              refine HR.out.mono ?_
              rintro e w' ⟨A3, n3, c3, rfl, s3, b3⟩
              go_wp2_with fail
              go_ret
              exact ⟨_, _, _, rfl, s3, hb.trans (b3.mono hb.size)⟩

end Go.Proofs.YtfhihapgjiaobaaGreat

namespace Go.Proofs.YtfhihapgjiaobaaGreat
set_option maxRecDepth 100000
open Go.RowKit
set_option linter.unusedVariables false
set_option linter.unusedSimpArgs false

/-! ### a bit more: plain -/
/-- word k of a list that is continued by zeros, with bit s set if k is p -/
def setWord (xs : List Int) (p s k : Nat) : Int := if k = p then xs.getD k 0 + ((2 ^ s : Nat) : Int) else xs.getD k 0
/-- where a list with a bit more stands -/
def SetInv (xs : List Int) (p s k : Nat) (zs : List Int) : Prop :=
  zs.length = k ∧ Dg W zs ∧ valB W zs = valB W (xs.take k) + (if p < k then W ^ p * 2 ^ s else 0)
theorem setInv_0 (xs : List Int) (p s : Nat) : SetInv xs p s 0 [] := ⟨rfl, Dg.nil _, by simp [valB]⟩
theorem setInv_step {xs zs : List Int} {p s k : Nat} (h : SetInv xs p s k zs) (hu : 0 ≤ setWord xs p s k ∧ setWord xs p s k < (W : Int)) (h0 : 0 ≤ xs.getD k 0) : SetInv xs p s (k + 1) (zs ++ [setWord xs p s k]) := by
  obtain ⟨h1, h2, h3⟩ := h
  refine ⟨by simp [h1], h2.snoc hu.1 hu.2, ?_⟩
  rw [valB_snoc, h1, h3, valB_take_succ]
  unfold setWord
  by_cases e : k = p
  · subst e
    rw [if_pos rfl, if_neg (Nat.lt_irrefl k), if_pos (Nat.lt_succ_self k)]
    have : (xs.getD k 0 + ((2 ^ s : Nat) : Int)).toNat = (xs.getD k 0).toNat + 2 ^ s := by
      generalize 2 ^ s = X
      omega
    rw [this, Nat.mul_add]
    omega
  · rw [if_neg e]
    by_cases e2 : p < k
    · rw [if_pos e2, if_pos (show p < k + 1 by omega)]; omega
    · rw [if_neg e2, if_neg (show ¬ p < k + 1 by omega)]; omega
theorem setInv_end {xs zs : List Int} {p s N : Nat} (h : SetInv xs p s N zs) (hp : p < N) (hN : xs.length ≤ N) : val zs = val xs + W ^ p * 2 ^ s := by
  obtain ⟨h1, h2, h3⟩ := h
  rw [if_pos hp, List.take_of_length_le hN] at h3
  exact h3
theorem or_bit_nat {n s : Nat} (h0 : n / 2 ^ s % 2 = 0) : n ||| 2 ^ s = n + 2 ^ s := by
  have hp : 0 < 2 ^ s := Nat.two_pow_pos s
  have hl : n % 2 ^ s < 2 ^ s := Nat.mod_lt _ hp
  have hn : n = 2 ^ (s + 1) * (n / 2 ^ s / 2) + n % 2 ^ s := by
    have h1 := Nat.div_add_mod n (2 ^ s)
    have h2 : n / 2 ^ s = 2 * (n / 2 ^ s / 2) := by omega
    rw [h2] at h1
    rw [Nat.pow_succ, Nat.mul_assoc]
    exact h1.symm
  generalize n / 2 ^ s / 2 = q at hn
  generalize n % 2 ^ s = lo at hn hl
  have hz : 2 ^ (s + 1) * q % 2 ^ (s + 1) = 0 := Nat.mul_mod_right _ _
  have e1 : 2 ^ (s + 1) * q ||| lo = 2 ^ (s + 1) * q + lo := nat_join (s + 1) _ _ hz (by rw [Nat.pow_succ]; omega)
  have e2 : 2 ^ s ||| lo = 2 ^ s + lo := nat_join s _ _ (Nat.mod_self _) hl
  have e3 : 2 ^ (s + 1) * q ||| (2 ^ s + lo) = 2 ^ (s + 1) * q + (2 ^ s + lo) := nat_join (s + 1) _ _ hz (by rw [Nat.pow_succ]; omega)
  rw [hn, ← e1, Nat.or_assoc, Nat.or_comm lo, e2, e3]
  rw [e1]
  omega
/-- a bit that is not set can be set by a sum -/
theorem or_bit {x : Int} {s : Nat} (hx : U x) (hs : s < 64) (h0 : x.toNat / 2 ^ s % 2 = 0) : bits BinOp.or IntKind.u64 x ((2 ^ s : Nat) : Int) = x + ((2 ^ s : Nat) : Int) ∧ U (x + ((2 ^ s : Nat) : Int)) := by
  obtain ⟨n, rfl⟩ := Int.eq_ofNat_of_zero_le hx.1
  have hn : n < 18446744073709551616 := by have := hx.2; omega
  have hp : 2 ^ s < 18446744073709551616 := by
    have := Nat.pow_lt_pow_right (show 1 < 2 by omega) hs; simpa using this
  rw [Int.toNat_natCast] at h0
  have ho := or_bit_nat h0
  have hlt : n ||| 2 ^ s < 2 ^ 64 := Nat.or_lt_two_pow (by omega) (by omega)
  rw [u64_or_nat n _ hn hp, ho]
  rw [ho] at hlt
  refine ⟨by simp, ?_⟩
  generalize 2 ^ s = X at *
  unfold U
  omega

/-- a call that returns a slice of at most K words that say v -/
def RetLe (K v : Nat) (w : World) (e : Ending) (w' : World) : Prop := ∃ A n c zs, e = .returned (.slice A n c) ∧ n ≤ K ∧ Sl w' A n c zs ∧ val zs = v ∧ Below w.heap.size w w'

set_option maxHeartbeats 2000000 in
theorem ref_set {w : World} {A : Option Addr} {n c : Nat} {xs : List Int} (h : Sl w A n c xs) (hn : n ≤ 100000) (i : Nat) (hi : i ≤ 6400000) (hbit : val xs / 2 ^ i % 2 = 0) (K : Nat) (hK1 : n ≤ K) (hK2 : i / 64 + 1 ≤ K) :
    Calls Tryz.prog 128 #[.slice A n c, .int .i64 i] w (RetLe K (val xs + 2 ^ i) w) := by
  have hlen := h.len
  have hbw := bit_word (Dg_U h.us) i
  rw [hbit] at hbw
  have epow := pow_shift i
  obtain ⟨p, hp⟩ : ∃ p, i / 64 = p := ⟨_, rfl⟩
  obtain ⟨s, hs⟩ : ∃ s, i % 64 = s := ⟨_, rfl⟩
  rw [hp, hs] at hbw epow
  rw [hp] at hK2
  have e1 : (i : Int) / 64 = (p : Int) := by omega
  have e2 : (i : Int) % 64 = (s : Int) := by omega
  have hs64 : s < 64 := by omega
  have hpb : p ≤ 100000 := by omega
  have hub : ∀ k, k = p → bits BinOp.or IntKind.u64 (xs.getD k 0) ((2 ^ s : Nat) : Int) = setWord xs p s k := fun k e => by
    subst e
    unfold setWord
    rw [if_pos rfl]
    exact (or_bit (h.u k) hs64 hbw.symm).1
  have huU : ∀ k, 0 ≤ setWord xs p s k ∧ setWord xs p s k < (W : Int) := fun k => by
    unfold setWord
    by_cases e : k = p
    · subst e
      rw [if_pos rfl]
      have := (or_bit (h.u k) hs64 hbw.symm).2
      unfold U at this
      unfold W
      exact this
    · rw [if_neg e]
      have := h.u k
      unfold U at this
      unfold W
      exact this
  have hne : ∀ k, k ≠ p → setWord xs p s k = xs.getD k 0 := fun k e => by unfold setWord; rw [if_neg e]
  have hpw : 2 ^ s < 18446744073709551616 := by
    have := Nat.pow_lt_pow_right (show 1 < 2 by omega) hs64; simpa using this
  have hwr : IntKind.u64.wrap ((2 : Int) ^ s) = ((2 ^ s : Nat) : Int) := by
    rw [show ((2 : Int) ^ s) = ((2 ^ s : Nat) : Int) by push_cast; rfl, wrapU_lo, lo_U]; exact U_nat hpw
  have hwr1 : IntKind.u64.wrap (1 * (2 : Int) ^ s) = ((2 ^ s : Nat) : Int) := by rw [Int.one_mul, hwr]
  obtain ⟨N, hN⟩ : ∃ N, max n (p + 1) = N := ⟨_, rfl⟩
  have hN1 : n ≤ N := by omega
  have hN2 : p + 1 ≤ N := by omega
  have hN3 : N ≤ K := by omega
  have hN4 : N ≤ 200000 := by omega
  have HN := Lib.hid hN
  have HUB := Lib.hid hub
  have HUU := Lib.hid huU
  have HNE := Lib.hid hne
  have HL := Lib.hid hlen
  have HEP := Lib.hid epow
  have HU := Lib.hid h.u
  generalize hX : 2 ^ s = X at hwr hwr1 hub hpw
  rw [hX] at HUB
  clear hN hub huU hne hlen epow hbw hp hs hbit hX hpw
  obtain ⟨i0, hi0, hz0, hz1, hz2⟩ := info_parts infoW
  go_enter Tryz.func128, Tryz.ntmps128
  go_upto_region 2 with (fail)
  go_cut [13, 14] (fun s13 s14 wx => s13 = .int .i64 N ∧ s14 = .int .i64 0 ∧ w = wx)
  case first =>
    by_cases hlt : n < p + 1
    · have hlt' : (n : Int) < (p : Int) + 1 := by omega
      go_wp2_with fail
      go_meet
      exact ⟨vint (by have := HN.out; omega), rfl, rfl⟩
    · have hlt' : ¬ ((n : Int) < (p : Int) + 1) := by omega
      go_wp2_with fail
      go_meet
      exact ⟨vint (by have := HN.out; omega), rfl, rfl⟩
  case rest =>
    obtain ⟨rfl, rfl, rfl⟩ := hcut
    go_wp2_with fail
    go_loopw [5, 14] (fun v iv wr => ∃ (k : Nat) (zs : List Int), k ≤ N ∧ iv = .int .i64 k ∧ Own 76 w.heap.size wr v zs ∧ Below w.heap.size w wr ∧ Hid (SetInv xs p s k zs)) (fun _ iv _ => N - mes iv)
    case atStart => exact ⟨0, [], by omega, rfl, Own.nil _ _ _, Below.refl _ _, Lib.hid (setInv_0 xs p s)⟩
    case round =>
      obtain ⟨k, zs, hk, rfl, hown, hb, HZ⟩ := hrel
      have hzl : zs.length ≤ k := Nat.le_of_eq HZ.out.1
      by_cases hk2 : k < N
      · have hst := setInv_step HZ.out (HUU.out k) (HU.out k).1
        have HST := Lib.hid hst
        clear hst
        by_cases hkn : k < n
        · obtain ⟨ba, off, rfl, hba, hca⟩ := h.at_ (k := k) (by omega)
          have hac := (hb.cell (p := ⟨ba, off + k, none⟩) hba).trans (hca k (by omega))
          clear hca
          by_cases hkp : k = p
          · subst hkp
            have hor := HUB.out k rfl
            generalize setWord xs k s k = v at *
            generalize xs.getD k 0 = y at *
            go_wp2_with (at_builtin; refine wpList_append_own _ rfl (.tmp 35) (.tmp 37) 43 rfl w.heap.size 76 i0 (.int .u64 0) 1 8 Tryz.underlying43 hi0 hz0 hz1 hz2 rfl (by decide) _ _ _ rfl (hown.out.alloc _) ⟨wr.heap.size, 0, none⟩ 1 1 [.int .u64 v] rfl rfl ?c1 ?c2 ?c3 ?c4 ?c5 ?_)
            case c1 => exact cell_one_new _ _ _
            case c2 => intro u hu; simp at hu; subst hu; rfl
            case c3 => unfold maxLen; omega
            case c4 => omega
            case c5 => have := hb.size; simp; omega
            intro v' w1 hown' hgrow _
            have hb1 := own_below hb hown hgrow
            have HO := Lib.hid (Own.snoc hown')
            clear hown hown' hgrow hac
            go_wp2
            go_roundw
            case rel => exact ⟨k + 1, _, by omega, by go_num, HO.out, hb1, HST⟩
            case measure => simp [mes, intOf]; omega
          · have hor := HNE.out k hkp
            rw [← hor] at hac
            have hkp1 : ((k : Int) == (p : Int)) = false := by simp; omega
            have hkp2 : (k == p) = false := by simpa using hkp
            generalize setWord xs p s k = v at *
            clear hor
            go_wp2_with (at_builtin; refine wpList_append_own _ rfl (.tmp 35) (.tmp 37) 43 rfl w.heap.size 76 i0 (.int .u64 0) 1 8 Tryz.underlying43 hi0 hz0 hz1 hz2 rfl (by decide) _ _ _ rfl (hown.out.alloc _) ⟨wr.heap.size, 0, none⟩ 1 1 [.int .u64 v] rfl rfl ?d1 ?d2 ?d3 ?d4 ?d5 ?_)
            case d1 => exact cell_one_new _ _ _
            case d2 => intro u hu; simp at hu; subst hu; rfl
            case d3 => unfold maxLen; omega
            case d4 => omega
            case d5 => have := hb.size; simp; omega
            intro v' w1 hown' hgrow _
            have hb1 := own_below hb hown hgrow
            have HO := Lib.hid (Own.snoc hown')
            clear hown hown' hgrow hac
            go_wp2
            go_roundw
            case rel => exact ⟨k + 1, _, by omega, by go_num, HO.out, hb1, HST⟩
            case measure => simp [mes, intOf]; omega
        · have hy : xs.getD k 0 = 0 := by rw [List.getD_eq_getElem?_getD, List.getElem?_eq_none (by have := HL.out; omega)]; rfl
          by_cases hkp : k = p
          · subst hkp
            have hor := HUB.out k rfl
            rw [hy] at hor
            generalize setWord xs k s k = v at *
            clear hy
            go_wp2_with (at_builtin; refine wpList_append_own _ rfl (.tmp 35) (.tmp 37) 43 rfl w.heap.size 76 i0 (.int .u64 0) 1 8 Tryz.underlying43 hi0 hz0 hz1 hz2 rfl (by decide) _ _ _ rfl (hown.out.alloc _) ⟨wr.heap.size, 0, none⟩ 1 1 [.int .u64 v] rfl rfl ?e1 ?e2 ?e3 ?e4 ?e5 ?_)
            case e1 => exact cell_one_new _ _ _
            case e2 => intro u hu; simp at hu; subst hu; rfl
            case e3 => unfold maxLen; omega
            case e4 => omega
            case e5 => have := hb.size; simp; omega
            intro v' w1 hown' hgrow _
            have hb1 := own_below hb hown hgrow
            have HO := Lib.hid (Own.snoc hown')
            clear hown hown' hgrow
            go_wp2
            go_roundw
            case rel => exact ⟨k + 1, _, by omega, by go_num, HO.out, hb1, HST⟩
            case measure => simp [mes, intOf]; omega
          · have hor := HNE.out k hkp
            rw [hy] at hor
            rw [hor] at HST
            have hkp1 : ((k : Int) == (p : Int)) = false := by simp; omega
            have hkp2 : (k == p) = false := by simpa using hkp
            clear hor hy
            go_wp2_with (at_builtin; refine wpList_append_own _ rfl (.tmp 35) (.tmp 37) 43 rfl w.heap.size 76 i0 (.int .u64 0) 1 8 Tryz.underlying43 hi0 hz0 hz1 hz2 rfl (by decide) _ _ _ rfl (hown.out.alloc _) ⟨wr.heap.size, 0, none⟩ 1 1 [.int .u64 0] rfl rfl ?f1 ?f2 ?f3 ?f4 ?f5 ?_)
            case f1 => exact cell_one_new _ _ _
            case f2 => intro u hu; simp at hu; subst hu; rfl
            case f3 => unfold maxLen; omega
            case f4 => omega
            case f5 => have := hb.size; simp; omega
            intro v' w1 hown' hgrow _
            have hb1 := own_below hb hown hgrow
            have HO := Lib.hid (Own.snoc hown')
            clear hown hown' hgrow
            go_wp2
            go_roundw
            case rel => exact ⟨k + 1, _, by omega, by go_num, HO.out, hb1, HST⟩
            case measure => simp [mes, intOf]; omega
      · obtain rfl : k = N := by omega
        have hv := setInv_end HZ.out (by omega) (by rw [← HL.out]; omega)
        rw [HEP.out] at hv
        have HV := Lib.hid hv
        have HD := Lib.hid HZ.out.2.1
        clear hv
        go_wp2_with fail
        go_ret
        obtain ⟨A2, c2, rfl⟩ := own_form hown
        exact ⟨_, _, _, _, rfl, by omega, hown.sl (U_Dg HD.out), HV.out, hb⟩

end Go.Proofs.YtfhihapgjiaobaaGreat
