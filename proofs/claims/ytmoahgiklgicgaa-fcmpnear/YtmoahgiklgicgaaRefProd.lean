/-
  What the document's own products and powers (package gradineref03) return. Conditions: the slices read as lists of words, of at most 10^5 words (a power: 1000 words).
-/
import Derived.Test.YtmoahgiklgicgaaProdPow
import Derived.Test.YtmoahgiklgicgaaRefAdd
namespace Go.Proofs.Ytmoahgiklgicgaa
set_option maxRecDepth 100000
open Go.RowKit
set_option linter.unusedVariables false
set_option linter.unusedSimpArgs false

/-! ### products by halves: plain -/
/-- where the inner round stands: i digits of xs are done, of the next one k digits of ys -/
def HMulIn (xs ys : List Int) (N i k : Nat) (cy : Int) (zs : List Int) : Prop :=
  zs.length = N ∧ Dg H zs ∧ (0 ≤ cy ∧ cy < (H : Int)) ∧ valB H zs + H ^ (i + k) * cy.toNat = valB H (xs.take i) * valB H ys + H ^ i * ((xs.getD i 0).toNat * valB H (ys.take k)) ∧ ∀ j, i + ys.length ≤ j → zs.getD j 0 = 0
/-- where the outer round stands -/
def HMulOut (xs ys : List Int) (N i : Nat) (zs : List Int) : Prop :=
  zs.length = N ∧ Dg H zs ∧ valB H zs = valB H (xs.take i) * valB H ys ∧ ∀ j, i + ys.length ≤ j → zs.getD j 0 = 0
theorem hmulOut_0 (xs ys : List Int) (N : Nat) : HMulOut xs ys N 0 (List.replicate N 0) :=
  ⟨by simp, Dg.zeros H_pos _, by rw [valB_zeros]; simp [valB], fun j _ => getD_zeros N j⟩
theorem hmulIn_0 {xs ys zs : List Int} {N i : Nat} (h : HMulOut xs ys N i zs) : HMulIn xs ys N i 0 0 zs := by
  obtain ⟨h1, h2, h3, h4⟩ := h
  exact ⟨h1, h2, by unfold H; omega, by rw [h3]; simp [valB], h4⟩
theorem hmul_word {x y z cy : Int} (hx : 0 ≤ x ∧ x < (H : Int)) (hy : 0 ≤ y ∧ y < (H : Int)) (hz : 0 ≤ z ∧ z < (H : Int)) (hc : 0 ≤ cy ∧ cy < (H : Int)) :
    0 ≤ x * y ∧ cy + x * y + z < 18446744073709551616 ∧ x.toNat * y.toNat + z.toNat + cy.toNat = ((cy + x * y + z) % 4294967296).toNat + H * ((cy + x * y + z) / 4294967296).toNat ∧ (0 ≤ (cy + x * y + z) / 4294967296 ∧ (cy + x * y + z) / 4294967296 < (H : Int)) := by
  have hb := mul_bound (A := 4294967295) (B := 4294967295) hx.1 (by have := hx.2; unfold H at this; omega) hy.1 (by have := hy.2; unfold H at this; omega)
  have e : x.toNat * y.toNat = (x * y).toNat := by rw [Int.toNat_mul hx.1 hy.1]
  rw [e]
  generalize x * y = p at *
  unfold H at *
  omega
theorem hmul_alg (b P Q A X Y m c d cy' y z : Nat) (h : A + P * Q * c = X + P * (m * Y)) (e : m * y + z + c = d + b * cy') : A + P * Q * d + P * Q * b * cy' = X + P * (m * (Y + Q * y)) + P * Q * z := by
  have e1 : P * Q * d + P * Q * b * cy' = P * Q * (m * y + z + c) := by rw [e, Nat.mul_add, Nat.mul_assoc (P * Q) b cy']
  have e2 : P * (m * (Y + Q * y)) = P * (m * Y) + P * Q * (m * y) := by grind
  have e3 : P * Q * (m * y + z + c) = P * Q * (m * y) + P * Q * z + P * Q * c := by rw [Nat.mul_add, Nat.mul_add]
  omega
theorem hmulIn_step {xs ys zs : List Int} {N i k : Nat} {cy d cy' : Int} (h : HMulIn xs ys N i k cy zs) (hk : k < ys.length) (hN : i + ys.length < N)
    (hd : 0 ≤ d ∧ d < (H : Int)) (hc' : 0 ≤ cy' ∧ cy' < (H : Int)) (e : (xs.getD i 0).toNat * (ys.getD k 0).toNat + (zs.getD (i + k) 0).toNat + cy.toNat = d.toNat + H * cy'.toNat) : HMulIn xs ys N i (k + 1) cy' (zs.set (i + k) d) := by
  obtain ⟨h1, h2, h3, h4, h5⟩ := h
  refine ⟨by rw [List.length_set, h1], h2.set _ hd.1 hd.2, hc', ?_, fun j hj => ?_⟩
  · have hs := valB_set H zs (i + k) (by omega) d
    rw [valB_take_succ]
    rw [Nat.pow_add] at h4 hs
    have := hmul_alg H (H ^ i) (H ^ k) _ _ _ _ _ _ _ _ _ h4 e
    rw [show i + (k + 1) = i + k + 1 from rfl, Nat.pow_succ, Nat.pow_add]
    omega
  · rw [getD_set_ne _ (by omega)]
    exact h5 j hj
theorem hmulIn_end {xs ys zs : List Int} {N i : Nat} {cy : Int} (h : HMulIn xs ys N i ys.length cy zs) (hN : i + ys.length < N) : HMulOut xs ys N (i + 1) (zs.set (i + ys.length) cy) := by
  obtain ⟨h1, h2, h3, h4, h5⟩ := h
  refine ⟨by rw [List.length_set, h1], h2.set _ h3.1 h3.2, ?_, fun j hj => ?_⟩
  · have hs := valB_set H zs (i + ys.length) (by omega) cy
    rw [h5 _ (Nat.le_refl _)] at hs
    rw [List.take_of_length_le (Nat.le_refl _)] at h4
    rw [valB_take_succ, Nat.add_mul, Nat.mul_assoc]
    simp at hs
    omega
  · rw [getD_set_ne _ (by omega)]
    exact h5 j (by omega)

set_option maxHeartbeats 2000000 in
theorem ref_nmul {w : World} {A A' : Option Addr} {n n' c c' : Nat} {xs ys : List Int} (h : Sl w A n c xs) (h' : Sl w A' n' c' ys) (hn : n ≤ 1000000) (hn' : n' ≤ 1000000) :
    Calls Try.prog 64 #[.slice A n c, .slice A' n' c'] w (RetSl (words (val xs * val ys)) w) := by
  have hl1 := hwords_len (Dg_U h.us) rfl
  have hl2 := hwords_len (Dg_U h'.us) rfl
  rw [← h.len] at hl1
  rw [← h'.len] at hl2
  have e1 := valH_hwords (val xs)
  have e2 := valH_hwords (val ys)
  have d1 := hwords_Dg (val xs)
  have d2 := hwords_Dg (val ys)
  have T1 := ref_halves h (by omega)
  generalize hwords (val xs) = hx at *
  have T2 := fun w1 (hb : Below w.heap.size w w1) => ref_halves (h'.below hb) (by omega)
  generalize hwords (val ys) = hy at *
  have HT1 := Lib.hid T1
  have HT2 := Lib.hid T2
  have E1 := Lib.hid e1
  have E2 := Lib.hid e2
  have D1 := Lib.hid d1
  have D2 := Lib.hid d2
  clear T1 T2 e1 e2 d1 d2
  go_enter Try.func64, Try.ntmps64
  go_wp2_with fail
  refine HT1.out.mono ?_
  rintro e w1 ⟨A1, n1, c1, rfl, s1, b1⟩
  go_wp2_with fail
  refine (HT2.out _ b1).mono ?_
  rintro e w2 ⟨A2, n2, c2, rfl, s2, b2⟩
  have hb2 := b1.trans (b2.mono b1.size)
  have s1' := s1.below b2
  have ln1 := s1'.len
  have ln2 := s2.len
  have q1 : n1 ≤ 2000000 := by omega
  have q2 : n2 ≤ 2000000 := by omega
  have LN1 := Lib.hid ln1
  have LN2 := Lib.hid ln2
  clear ln1 ln2 hl1 hl2 s1 b1 b2 HT1 HT2
  obtain ⟨w3, hmk, hr3, hb3, _⟩ := make_words w2 (n1 + n2 + 1) (by omega)
  rw [show ((n1 + n2 + 1 : Nat) : Int) = (n1 : Int) + (n2 : Int) + 1 by omega] at hmk
  have HR3 := Lib.hid hr3
  clear hr3
  go_wp2_with fail
  go_loopw [9, 24] (fun cv i wr => ∃ (k : Nat) (zs : List Int), k ≤ n1 ∧ i = .int .i64 k ∧ HMulOut hx hy (n1 + n2 + 1) k zs ∧ Row 22 wr w2.heap.size zs ∧ Below w2.heap.size w2 wr) (fun _ i _ => n1 - mes i)
  case atStart => exact ⟨0, _, by omega, rfl, hmulOut_0 hx hy _, HR3.out, hb3⟩
  case round =>
    clear HR3
    obtain ⟨i, zs, hi, rfl, hz, hr, hb⟩ := hrel
    by_cases hi2 : i < n1
    · go_wp2_with fail
      go_loopw [9, 29] (fun cv k wr => ∃ (j : Nat) (c0 : Int) (us : List Int), j ≤ n2 ∧ k = .int .i64 j ∧ cv = .int .u64 c0 ∧ HMulIn hx hy (n1 + n2 + 1) i j c0 us ∧ Row 22 wr w2.heap.size us ∧ Below w2.heap.size w2 wr) (fun _ k _ => n2 - mes k)
      case atStart => exact ⟨0, 0, zs, by omega, rfl, rfl, hmulIn_0 hz, hr, hb⟩
      case round =>
        clear hz hr hb
        obtain ⟨j, c0, us, hj, rfl, rfl, hz, hr, hb⟩ := hrel
        by_cases hj2 : j < n2
        · obtain ⟨ba, offa, rfl, _, hac⟩ := (s1'.apart' hb (Nat.le_refl _)).at_ hi2
          obtain ⟨bb, offb, rfl, _, hbc⟩ := (s2.apart' hb (Nat.le_refl _)).at_ hj2
          have hlz : us.length = n1 + n2 + 1 := hz.1
          have hcell := hr.cell (i := i + j) (by omega)
          have hfree := hr.free (i + j)
          obtain ⟨m1, m2, m3, m4⟩ := hmul_word (D1.out.at_ H_pos i) (D2.out.at_ H_pos j) (hz.2.1.at_ H_pos (i + j)) hz.2.2.1
          have hst := hmulIn_step hz (by rw [← LN2.out]; exact hj2) (by rw [← LN2.out]; omega) ⟨by omega, by unfold H; omega⟩ m4 m3
          have hc0 := hz.2.2.1.1
          have hz0 := (hz.2.1.at_ H_pos (i + j)).1
          obtain ⟨T, hT⟩ : ∃ T, c0 + hx.getD i 0 * hy.getD j 0 + us.getD (i + j) 0 = T := ⟨_, rfl⟩
          have hw1 : IntKind.u64.wrap (hx.getD i 0 * hy.getD j 0) = hx.getD i 0 * hy.getD j 0 := by rw [wrapU_lo, lo_U]; unfold U; omega
          have hw2 : IntKind.u64.wrap (c0 + hx.getD i 0 * hy.getD j 0) = c0 + hx.getD i 0 * hy.getD j 0 := by rw [wrapU_lo, lo_U]; unfold U; omega
          have hw3 : IntKind.u64.wrap (c0 + hx.getD i 0 * hy.getD j 0 + us.getD (i + j) 0) = T := by rw [wrapU_lo, lo_U, hT]; unfold U; omega
          have hw4 : bits BinOp.and IntKind.u64 T 4294967295 = T % 4294967296 := and32 (by unfold U; omega)
          rw [hT] at hst
          have hT0 : 0 ≤ T := by omega
          generalize hx.getD i 0 = x at *
          generalize hy.getD j 0 = y at *
          generalize us.getD (i + j) 0 = z at *
          generalize T % 4294967296 = dd at *
          generalize hq : T / 4294967296 = qq at *
          have HS := Lib.hid hst
          have HR := Lib.hid hr
          clear hst hr hz hlz m1 m2 m3 m4 hT hc0 hz0
          go_wp2_with fail
          go_region
          all_goals try go_wp2
          all_goals
            go_roundw
            case rel => exact ⟨j + 1, _, _, by omega, by go_num, rfl, HS.out, HR.out.drew.set (i + j) _, hb.drew.setCell (Nat.le_refl _) _⟩
            case measure => simp [mes, intOf]; omega
        · obtain rfl : j = n2 := by omega
          have hlz : us.length = n1 + j + 1 := hz.1
          have hcell := hr.cell (i := i + j) (by omega)
          have hfree := hr.free (i + j)
          have e9 := LN2.out
          have hst := hmulIn_end (xs := hx) (ys := hy) (N := n1 + j + 1) (i := i) (cy := c0) (zs := us) (by rw [← e9]; exact hz) (by rw [← e9]; omega)
          rw [← e9] at hst
          have HS := Lib.hid hst
          have HR := Lib.hid hr
          clear hst hr hz hlz e9
          go_wp2_with fail
          go_roundw
          case rel => exact ⟨i + 1, _, by omega, by go_num, HS.out, HR.out.set (i + j) _, hb.setCell (Nat.le_refl _) _⟩
          case measure => simp [mes, intOf]; omega
    · obtain rfl : i = n1 := by omega
      obtain ⟨z1, z2, z3, z4⟩ := hz
      have hsl := hr.sl (c := i + n2 + 1) (U_Dg (z2.mono H_le_W)) (by omega)
      rw [z1] at hsl
      rw [List.take_of_length_le (by have := LN1.out; omega), E1.out, E2.out] at z3
      have WH := ref_whole hsl z2 (by omega)
      rw [z3] at WH
      have HW := Lib.hid WH
      have hbb := hb2.trans (hb.mono hb2.size)
      clear z1 z2 z3 z4 hsl WH hr
      go_wp2_with fail
      refine HW.out.mono ?_
      rintro e w5 ⟨A5, n5, c5, rfl, s5, b5⟩
      go_wp2_with fail
      go_ret
      exact ⟨_, _, _, rfl, s5, hbb.trans (b5.mono hbb.size)⟩

theorem sl_one (w : World) (x : Int) (hx : U x) : Sl (w.alloc (.cells #[.int .u64 x] 22)) (some ⟨w.heap.size, 0, none⟩) 1 1 [x] := sl_lit w x hx
theorem val_one (x : Int) : val [x] = x.toNat := by simp [val, valB]

theorem words_one : words 1 = [1] := by
  have e : (1 : Nat) = val [1] := by simp [val, valB]
  rw [e, words_val (by intro x hx; simp at hx; subst hx; unfold W; omega)]
  decide

end Go.Proofs.Ytmoahgiklgicgaa
