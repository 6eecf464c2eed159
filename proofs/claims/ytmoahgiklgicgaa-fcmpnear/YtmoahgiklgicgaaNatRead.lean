/-
  What the reading functions of package nat, and the document's answers beside them, return: sizes, words, comparisons, bits. Conditions: the slices read as lists of words, of at most 10^9 words.
-/
import Derived.Test.YtmoahgiklgicgaaLimbDiv
import Derived.Test.YtmoahgiklgicgaaMem
import Derived.Test.YtmoahgiklgicgaaNatMath
namespace Go.Proofs.Ytmoahgiklgicgaa
set_option maxRecDepth 100000
open Go.RowKit
set_option linter.unusedVariables false
set_option linter.unusedSimpArgs false

/-- from place k on a list has zeros alone -/
def ZeroFrom (xs : List Int) (k : Nat) : Prop := ∀ j, k ≤ j → xs.getD j 0 = 0
theorem zeroFrom_len (xs : List Int) : ZeroFrom xs xs.length := fun j hj => by rw [List.getD_eq_getElem?_getD, List.getElem?_eq_none hj]; rfl
theorem ZeroFrom.step {xs : List Int} {k : Nat} (h : ZeroFrom xs (k + 1)) (h0 : xs.getD k 0 = 0) : ZeroFrom xs k := fun j hj => by
  rcases Nat.lt_or_ge k j with hl | hl
  · exact h j hl
  · rw [show j = k by omega]; exact h0

set_option maxHeartbeats 400000 in
theorem ref_size {w : World} {A : Option Addr} {n c : Nat} {xs : List Int} (h : Sl w A n c xs) (hn : n ≤ 1000000000) :
    Calls Try.prog 47 #[.slice A n c] w fun e w' => e = .returned (.int .i64 (sz xs)) ∧ w = w' := by
  go_enter Try.func47, Try.ntmps47
  go_wp2
  go_loop [3] (fun i => ∃ k : Nat, k ≤ n ∧ i = .int .i64 k ∧ ZeroFrom xs k) (fun i => mes i)
  case atStart => exact ⟨n, Nat.le_refl _, rfl, by rw [h.len]; exact zeroFrom_len xs⟩
  case round =>
    obtain ⟨k, hk, rfl, hz⟩ := hrel
    cases k with
    | zero =>
      go_wp2
      go_ret
      exact ⟨ret1 (by rw [sz_unique xs 0 hz (.inl rfl)]; rfl), rfl⟩
    | succ k =>
      obtain ⟨b, off, rfl, hb, hc⟩ := h.at_ (k := k) (by omega)
      obtain ⟨z, hz1⟩ : ∃ z, xs.getD k 0 = z := ⟨_, rfl⟩
      have hcell := hc k (by omega)
      rw [hz1] at hcell
      clear hc
      have HZ := Lib.hid hz1
      clear hz1
      by_cases h0 : z = 0
      · subst h0
        go_wp2
        go_round
        case rel => exact ⟨k, by omega, by go_num, hz.step HZ.out⟩
        case measure => exact mes_lt (by omega) (by omega)
      · have h0' : (z == 0) = false := by simpa using h0
        go_wp2
        go_ret
        exact ⟨ret1 (by rw [sz_unique xs (k + 1) hz (.inr (by rw [Nat.add_sub_cancel, HZ.out]; exact h0))]; omega), rfl⟩

/-- word i of a list that is continued by zeros; i not negative -/
def wd (xs : List Int) (i : Int) : Int := xs.getD i.toNat 0
theorem wd_nat (xs : List Int) (i : Nat) : wd xs i = xs.getD i 0 := by unfold wd; rw [Int.toNat_natCast]
theorem wd_U {xs : List Int} (h : ∀ x ∈ xs, U x) (i : Int) : U (wd xs i) := by
  have := (Dg_U h).at_ W_pos i.toNat
  unfold wd U; unfold W at this; omega

set_option maxHeartbeats 400000 in
theorem ref_at {w : World} {A : Option Addr} {n c : Nat} {xs : List Int} (h : Sl w A n c xs) (hn : n ≤ 1000000000) (i : Int) (hi : 0 ≤ i) :
    Calls Try.prog 50 #[.slice A n c, .int .i64 i] w fun e w' => e = .returned (.int .u64 (wd xs i)) ∧ w = w' := by
  obtain ⟨k, rfl⟩ := Int.eq_ofNat_of_zero_le hi
  by_cases hk : k < n
  · obtain ⟨b, off, rfl, hb, hc⟩ := h.at_ hk
    have hcell := hc k hk
    rw [← wd_nat] at hcell
    clear hc
    go_enter Try.func50, Try.ntmps50
    go_wp2
    go_ret
    exact ⟨rfl, rfl⟩
  · go_enter Try.func50, Try.ntmps50
    go_wp2
    go_ret
    exact ⟨ret1 (by rw [wd_nat, List.getD_eq_getElem?_getD, List.getElem?_eq_none (by have := h.len; omega)]; rfl), rfl⟩

theorem cut_sl {w : World} {A : Option Addr} {n c : Nat} {xs : List Int} (h : Sl w A n c xs) : Sl w A (sz xs) c (words (val xs)) := by
  rw [words_val (Dg_U h.us)]
  exact h.take (by rw [h.len]; exact sz_le xs)

def word1 (xs : List Int) : Int := if sz xs > 1 then 0 else xs.getD 0 0
set_option maxHeartbeats 1000000 in
theorem ref_cmp {w : World} {A A' : Option Addr} {n n' c c' : Nat} {xs ys : List Int} (h : Sl w A n c xs) (h' : Sl w A' n' c' ys) (hn : n ≤ 1000000000) (hn' : n' ≤ 1000000000) :
    Calls Try.prog 30 #[.slice A n c, .slice A' n' c'] w fun e w' => e = .returned (.int .i64 (cmpN (val xs) (val ys))) ∧ w = w' := by
  have hs : sz xs ≤ n := by rw [h.len]; exact sz_le xs
  have hs' : sz ys ≤ n' := by rw [h'.len]; exact sz_le ys
  rcases Nat.lt_or_ge n n' with hle | hle
  · have h1 : sz xs ≤ n' := by omega
    have h2 : sz ys ≤ n' := by omega
    have H1 := Lib.hid h1
    have H2 := Lib.hid h2
    clear h1 h2 hs hs'
    go_enter Try.func30, Try.ntmps30
    go_wp2_with fail
    go_loop [6] (fun i => ∃ j : Nat, j ≤ n' ∧ i = .int .i64 ((j : Int) - 1) ∧ SameFrom xs ys j) (fun i => (intOf i + 1).toNat)
    case atStart => exact ⟨n', by omega, rfl, sameFrom_top H1.out H2.out⟩
    case round =>
      obtain ⟨j, hj, rfl, hz⟩ := hrel
      have HZ := Lib.hid hz
      cases j with
      | zero =>
        clear hz
        go_wp2
        go_ret
        exact ⟨ret1 (by rw [sameFrom_0 HZ.out, cmpN_eq]), rfl⟩
      | succ j =>
        clear hz
        have ej : ((j + 1 : Nat) : Int) - 1 = (j : Int) := by omega
        have g1 := ref_at h hn (j : Int) (by omega)
        have g2 := ref_at h' hn' (j : Int) (by omega)
        obtain ⟨x, hx⟩ : ∃ x, wd xs j = x := ⟨_, rfl⟩
        obtain ⟨y, hy⟩ : ∃ y, wd ys j = y := ⟨_, rfl⟩
        rw [hx] at g1
        rw [hy] at g2
        have G1 := Lib.hid g1
        have G2 := Lib.hid g2
        have HX := Lib.hid hx
        have HY := Lib.hid hy
        clear g1 g2 hx hy
        rcases Int.lt_trichotomy x y with hxy | hxy | hxy
        · go_wp2_with fail
          refine G1.out.mono ?_
          rintro e w' ⟨rfl, rfl⟩
          go_wp2_with fail
          refine G2.out.mono ?_
          rintro e w' ⟨rfl, rfl⟩
          go_wp2_with fail
          go_ret
          exact ⟨ret1 (by rw [cmpN_lt (val_lt_of_drop (Dg_U h.us) j (drop_lt (Dg_U h.us) HZ.out (by rw [← wd_nat, ← wd_nat, HX.out, HY.out]; exact hxy)))]), rfl⟩
        · subst hxy
          go_wp2_with fail
          refine G1.out.mono ?_
          rintro e w' ⟨rfl, rfl⟩
          go_wp2_with fail
          refine G2.out.mono ?_
          rintro e w' ⟨rfl, rfl⟩
          go_wp2_with fail
          go_round
          case rel => exact ⟨j, by omega, by go_num, drop_eq HZ.out (by rw [← wd_nat, ← wd_nat, HX.out, HY.out])⟩
          case measure => simp [intOf]
        · go_wp2_with fail
          refine G1.out.mono ?_
          rintro e w' ⟨rfl, rfl⟩
          go_wp2_with fail
          refine G2.out.mono ?_
          rintro e w' ⟨rfl, rfl⟩
          go_wp2_with fail
          go_ret
          exact ⟨ret1 (by rw [cmpN_gt (val_lt_of_drop (Dg_U h'.us) j (drop_lt (Dg_U h'.us) HZ.out.symm (by rw [← wd_nat, ← wd_nat, HX.out, HY.out]; exact hxy)))]), rfl⟩
  · have h1 : sz xs ≤ n := by omega
    have h2 : sz ys ≤ n := by omega
    have H1 := Lib.hid h1
    have H2 := Lib.hid h2
    clear h1 h2 hs hs'
    go_enter Try.func30, Try.ntmps30
    go_wp2_with fail
    go_loop [6] (fun i => ∃ j : Nat, j ≤ n ∧ i = .int .i64 ((j : Int) - 1) ∧ SameFrom xs ys j) (fun i => (intOf i + 1).toNat)
    case atStart => exact ⟨n, by omega, rfl, sameFrom_top H1.out H2.out⟩
    case round =>
      obtain ⟨j, hj, rfl, hz⟩ := hrel
      have HZ := Lib.hid hz
      cases j with
      | zero =>
        clear hz
        go_wp2
        go_ret
        exact ⟨ret1 (by rw [sameFrom_0 HZ.out, cmpN_eq]), rfl⟩
      | succ j =>
        clear hz
        have ej : ((j + 1 : Nat) : Int) - 1 = (j : Int) := by omega
        have g1 := ref_at h hn (j : Int) (by omega)
        have g2 := ref_at h' hn' (j : Int) (by omega)
        obtain ⟨x, hx⟩ : ∃ x, wd xs j = x := ⟨_, rfl⟩
        obtain ⟨y, hy⟩ : ∃ y, wd ys j = y := ⟨_, rfl⟩
        rw [hx] at g1
        rw [hy] at g2
        have G1 := Lib.hid g1
        have G2 := Lib.hid g2
        have HX := Lib.hid hx
        have HY := Lib.hid hy
        clear g1 g2 hx hy
        rcases Int.lt_trichotomy x y with hxy | hxy | hxy
        · go_wp2_with fail
          refine G1.out.mono ?_
          rintro e w' ⟨rfl, rfl⟩
          go_wp2_with fail
          refine G2.out.mono ?_
          rintro e w' ⟨rfl, rfl⟩
          go_wp2_with fail
          go_ret
          exact ⟨ret1 (by rw [cmpN_lt (val_lt_of_drop (Dg_U h.us) j (drop_lt (Dg_U h.us) HZ.out (by rw [← wd_nat, ← wd_nat, HX.out, HY.out]; exact hxy)))]), rfl⟩
        · subst hxy
          go_wp2_with fail
          refine G1.out.mono ?_
          rintro e w' ⟨rfl, rfl⟩
          go_wp2_with fail
          refine G2.out.mono ?_
          rintro e w' ⟨rfl, rfl⟩
          go_wp2_with fail
          go_round
          case rel => exact ⟨j, by omega, by go_num, drop_eq HZ.out (by rw [← wd_nat, ← wd_nat, HX.out, HY.out])⟩
          case measure => simp [intOf]
        · go_wp2_with fail
          refine G1.out.mono ?_
          rintro e w' ⟨rfl, rfl⟩
          go_wp2_with fail
          refine G2.out.mono ?_
          rintro e w' ⟨rfl, rfl⟩
          go_wp2_with fail
          go_ret
          exact ⟨ret1 (by rw [cmpN_gt (val_lt_of_drop (Dg_U h'.us) j (drop_lt (Dg_U h'.us) HZ.out.symm (by rw [← wd_nat, ← wd_nat, HX.out, HY.out]; exact hxy)))]), rfl⟩

end Go.Proofs.Ytmoahgiklgicgaa
