/-
  What nat.Trim returns: the number, normalized, in new memory. Conditions: the slice reads as a list of words, of at most 10^8 words.
-/
import Derived.Test.YthpbaaanbimapaaGreatDoorLimbDivAllC
import Derived.Test.YthpbaaanbimapaaGreatDoorU64AllC
import Derived.Laws.CopyOwn
import Derived.Deep.QuietTactic
import Derived.BigQuiet
import Derived.Deep.RegionWith
namespace Go.Proofs.YthpbaaanbimapaaGreatDoor
set_option maxRecDepth 100000
open Go.RowKit
set_option linter.unusedVariables false
set_option linter.unusedSimpArgs false

/-- from place k on a list has zeros alone -/
def ZeroFrom (xs : List Int) (k : Nat) : Prop := ∀ j, k ≤ j → xs.getD j 0 = 0
theorem zeroFrom_len (xs : List Int) : ZeroFrom xs xs.length := fun j hj => by rw [List.getD_eq_getElem?_getD, List.getElem?_eq_none hj]; rfl
theorem ZeroFrom.step {xs : List Int} {k : Nat} (h : ZeroFrom xs (k + 1)) (h0 : xs.getD k 0 = 0) : ZeroFrom xs k := fun j hj => by
  rcases Nat.lt_or_ge k j with hl | hl
  · exact h j hl
  · rw [show j = k by omega]; exact h0

set_option maxHeartbeats 400000 in
theorem nat_size {w : World} {A : Option Addr} {n c : Nat} {xs : List Int} (h : Sl w A n c xs) (hn : n ≤ 1000000000) :
    Calls Tryz.prog 140 #[.slice A n c] w fun e w' => e = .returned (.int .i64 (sz xs)) ∧ w = w' := by
  go_enter Tryz.func140, Tryz.ntmps140
  go_wp2
  go_loop [3] (fun i => ∃ k : Nat, k ≤ n ∧ i = .int .i64 k ∧ ZeroFrom xs k) (fun i => mes i)
  case atStart => exact ⟨n, Nat.le_refl _, rfl, by rw [h.len]; exact zeroFrom_len xs⟩
  case round =>
    obtain ⟨k, hk, rfl, hz⟩ := hrel
    cases k with
    | zero =>
      go_wp2
      go_ret
      exact ⟨ret1 (by rw [sz_unique xs 0 hz (.inl rfl)]; rfl), rfl⟩
    | succ k =>
      obtain ⟨b, off, rfl, hb, hc⟩ := h.at_ (k := k) (by omega)
      obtain ⟨z, hz1⟩ : ∃ z, xs.getD k 0 = z := ⟨_, rfl⟩
      have hcell := hc k (by omega)
      rw [hz1] at hcell
      clear hc
      have HZ := Lib.hid hz1
      clear hz1
      by_cases h0 : z = 0
      · subst h0
        go_wp2
        go_round
        case rel => exact ⟨k, by omega, by go_num, hz.step HZ.out⟩
        case measure => exact mes_lt (by omega) (by omega)
      · have h0' : (z == 0) = false := by simpa using h0
        go_wp2
        go_ret
        exact ⟨ret1 (by rw [sz_unique xs (k + 1) hz (.inr (by rw [Nat.add_sub_cancel, HZ.out]; exact h0))]; omega), rfl⟩

set_option maxHeartbeats 400000 in
theorem ref_size {w : World} {A : Option Addr} {n c : Nat} {xs : List Int} (h : Sl w A n c xs) (hn : n ≤ 1000000000) :
    Calls Tryz.prog 106 #[.slice A n c] w fun e w' => e = .returned (.int .i64 (sz xs)) ∧ w = w' := by
  go_enter Tryz.func106, Tryz.ntmps106
  go_wp2
  go_loop [3] (fun i => ∃ k : Nat, k ≤ n ∧ i = .int .i64 k ∧ ZeroFrom xs k) (fun i => mes i)
  case atStart => exact ⟨n, Nat.le_refl _, rfl, by rw [h.len]; exact zeroFrom_len xs⟩
  case round =>
    obtain ⟨k, hk, rfl, hz⟩ := hrel
    cases k with
    | zero =>
      go_wp2
      go_ret
      exact ⟨ret1 (by rw [sz_unique xs 0 hz (.inl rfl)]; rfl), rfl⟩
    | succ k =>
      obtain ⟨b, off, rfl, hb, hc⟩ := h.at_ (k := k) (by omega)
      obtain ⟨z, hz1⟩ : ∃ z, xs.getD k 0 = z := ⟨_, rfl⟩
      have hcell := hc k (by omega)
      rw [hz1] at hcell
      clear hc
      have HZ := Lib.hid hz1
      clear hz1
      by_cases h0 : z = 0
      · subst h0
        go_wp2
        go_round
        case rel => exact ⟨k, by omega, by go_num, hz.step HZ.out⟩
        case measure => exact mes_lt (by omega) (by omega)
      · have h0' : (z == 0) = false := by simpa using h0
        go_wp2
        go_ret
        exact ⟨ret1 (by rw [sz_unique xs (k + 1) hz (.inr (by rw [Nat.add_sub_cancel, HZ.out]; exact h0))]; omega), rfl⟩

/-- word i of a list that is continued by zeros; i not negative -/
def wd (xs : List Int) (i : Int) : Int := xs.getD i.toNat 0
theorem wd_nat (xs : List Int) (i : Nat) : wd xs i = xs.getD i 0 := by unfold wd; rw [Int.toNat_natCast]
theorem wd_U {xs : List Int} (h : ∀ x ∈ xs, U x) (i : Int) : U (wd xs i) := by
  have := (Dg_U h).at_ W_pos i.toNat
  unfold wd U; unfold W at this; omega

set_option maxHeartbeats 400000 in
theorem nat_wordAt {w : World} {A : Option Addr} {n c : Nat} {xs : List Int} (h : Sl w A n c xs) (hn : n ≤ 1000000000) (i : Int) (hi : 0 ≤ i) :
    Calls Tryz.prog 202 #[.slice A n c, .int .i64 i] w fun e w' => e = .returned (.int .u64 (wd xs i)) ∧ w = w' := by
  obtain ⟨k, rfl⟩ := Int.eq_ofNat_of_zero_le hi
  by_cases hk : k < n
  · obtain ⟨b, off, rfl, hb, hc⟩ := h.at_ hk
    have hcell := hc k hk
    rw [← wd_nat] at hcell
    clear hc
    go_enter Tryz.func202, Tryz.ntmps202
    go_wp2
    go_ret
    exact ⟨rfl, rfl⟩
  · go_enter Tryz.func202, Tryz.ntmps202
    go_wp2
    go_ret
    exact ⟨ret1 (by rw [wd_nat, List.getD_eq_getElem?_getD, List.getElem?_eq_none (by have := h.len; omega)]; rfl), rfl⟩

set_option maxHeartbeats 400000 in
theorem ref_at {w : World} {A : Option Addr} {n c : Nat} {xs : List Int} (h : Sl w A n c xs) (hn : n ≤ 1000000000) (i : Int) (hi : 0 ≤ i) :
    Calls Tryz.prog 163 #[.slice A n c, .int .i64 i] w fun e w' => e = .returned (.int .u64 (wd xs i)) ∧ w = w' := by
  obtain ⟨k, rfl⟩ := Int.eq_ofNat_of_zero_le hi
  by_cases hk : k < n
  · obtain ⟨b, off, rfl, hb, hc⟩ := h.at_ hk
    have hcell := hc k hk
    rw [← wd_nat] at hcell
    clear hc
    go_enter Tryz.func163, Tryz.ntmps163
    go_wp2
    go_ret
    exact ⟨rfl, rfl⟩
  · go_enter Tryz.func163, Tryz.ntmps163
    go_wp2
    go_ret
    exact ⟨ret1 (by rw [wd_nat, List.getD_eq_getElem?_getD, List.getElem?_eq_none (by have := h.len; omega)]; rfl), rfl⟩

set_option maxHeartbeats 400000 in
theorem nat_cut {w : World} {A : Option Addr} {n c : Nat} {xs : List Int} (h : Sl w A n c xs) (hn : n ≤ 1000000000) :
    Calls Tryz.prog 150 #[.slice A n c] w fun e w' => e = .returned (.slice A (sz xs) c) ∧ w = w' := by
  have h1 : sz xs ≤ n := by rw [h.len]; exact sz_le xs
  have h2 := h.cap
  go_enter Tryz.func150, Tryz.ntmps150
  go_wp2_with fail
  refine (nat_size h hn).mono ?_
  rintro e w' ⟨rfl, rfl⟩
  go_wp2_with fail
  go_ret
  exact ⟨rfl, rfl⟩

theorem cut_sl {w : World} {A : Option Addr} {n c : Nat} {xs : List Int} (h : Sl w A n c xs) : Sl w A (sz xs) c (words (val xs)) := by
  rw [words_val (Dg_U h.us)]
  exact h.take (by rw [h.len]; exact sz_le xs)

set_option maxHeartbeats 400000 in
theorem nat_right {w : World} {A : Option Addr} {n c : Nat} {xs : List Int} (h : Sl w A n c xs) (hn : n ≤ 1000000000) :
    Calls Tryz.prog 94 #[.slice A n c] w fun e w' => e = .returned (.bool (decide (sz xs = n))) ∧ w = w' := by
  go_enter Tryz.func94, Tryz.ntmps94
  go_wp2_with fail
  refine (nat_size h hn).mono ?_
  rintro e w' ⟨rfl, rfl⟩
  go_wp2_with fail
  go_ret
  refine ⟨retB ?_, rfl⟩
  rw [Bool.eq_iff_iff]; simp; try omega

set_option maxHeartbeats 400000 in
theorem ref_right {w : World} {A : Option Addr} {n c : Nat} {xs : List Int} (h : Sl w A n c xs) (hn : n ≤ 1000000000) :
    Calls Tryz.prog 99 #[.slice A n c] w fun e w' => e = .returned (.bool (decide (sz xs = n))) ∧ w = w' := by
  go_enter Tryz.func99, Tryz.ntmps99
  go_wp2_with fail
  refine (ref_size h hn).mono ?_
  rintro e w' ⟨rfl, rfl⟩
  go_wp2_with fail
  go_ret
  refine ⟨retB ?_, rfl⟩
  rw [Bool.eq_iff_iff]; simp; try omega

def word1 (xs : List Int) : Int := if sz xs > 1 then 0 else xs.getD 0 0
set_option maxHeartbeats 400000 in
theorem nat_word {w : World} {A : Option Addr} {n c : Nat} {xs : List Int} (h : Sl w A n c xs) (hn : n ≤ 1000000000) :
    Calls Tryz.prog 145 #[.slice A n c] w fun e w' => e = .returned (.tuple #[.int .u64 (word1 xs), .bool (decide (sz xs ≤ 1))]) ∧ w = w' := by
  by_cases h1 : sz xs > 1
  · have hw : word1 xs = 0 := by unfold word1; rw [if_pos h1]
    have hd : decide (sz xs ≤ 1) = false := by simp; omega
    rw [hw, hd]
    go_enter Tryz.func145, Tryz.ntmps145
    go_wp2_with fail
    refine (nat_size h hn).mono ?_
    rintro e w' ⟨rfl, rfl⟩
    go_wp2_with fail
    go_ret2
    exact ⟨rfl, rfl⟩
  · have hw : word1 xs = wd xs 0 := by unfold word1 wd; rw [if_neg h1]; rfl
    have hd : decide (sz xs ≤ 1) = true := by simp; omega
    rw [hw, hd]
    clear hw hd
    go_enter Tryz.func145, Tryz.ntmps145
    go_wp2_with fail
    refine (nat_size h hn).mono ?_
    rintro e w' ⟨rfl, rfl⟩
    go_wp2_with fail
    refine (nat_wordAt h hn 0 (by omega)).mono ?_
    rintro e w' ⟨rfl, rfl⟩
    go_wp2_with fail
    go_ret2
    exact ⟨rfl, rfl⟩

set_option maxHeartbeats 1000000 in
theorem nat_cmp {w : World} {A A' : Option Addr} {n n' c c' : Nat} {xs ys : List Int} (h : Sl w A n c xs) (h' : Sl w A' n' c' ys) (hn : n ≤ 1000000000) (hn' : n' ≤ 1000000000) :
    Calls Tryz.prog 147 #[.slice A n c, .slice A' n' c'] w fun e w' => e = .returned (.int .i64 (cmpN (val xs) (val ys))) ∧ w = w' := by
  have hs : sz xs ≤ n := by rw [h.len]; exact sz_le xs
  have hs' : sz ys ≤ n' := by rw [h'.len]; exact sz_le ys
  have S1 := nat_size h hn
  have S2 := nat_size h' hn'
  generalize hp : sz xs = p at S1 hs
  generalize hq : sz ys = q at S2 hs'
  have HP := Lib.hid hp
  have HQ := Lib.hid hq
  have T1 := Lib.hid S1
  have T2 := Lib.hid S2
  clear hp hq S1 S2
  rcases Nat.lt_or_ge p q with hle | hle
  · have h1 : sz xs ≤ q := by rw [HP.out]; omega
    have h2 : sz ys ≤ q := by rw [HQ.out]; omega
    have H1 := Lib.hid h1
    have H2 := Lib.hid h2
    clear h1 h2
    go_enter Tryz.func147, Tryz.ntmps147
    go_wp2_with fail
    refine T1.out.mono ?_
    rintro e w' ⟨rfl, rfl⟩
    go_wp2_with fail
    refine T2.out.mono ?_
    rintro e w' ⟨rfl, rfl⟩
    go_wp2_with fail
    go_loop [15] (fun i => ∃ k j : Nat, k + j = q ∧ i = .int .i64 k ∧ SameFrom xs ys j) (fun i => q - mes i)
    case atStart => exact ⟨0, q, by omega, rfl, sameFrom_top H1.out H2.out⟩
    case round =>
      obtain ⟨k, j, hk, rfl, hz⟩ := hrel
      have hk' : k ≤ q := by omega
      have HK := Lib.hid hk
      have HZ := Lib.hid hz
      cases j with
      | zero =>
        have hk2 : q ≤ k := by omega
        clear hk hz
        go_wp2
        go_ret
        exact ⟨ret1 (by rw [sameFrom_0 HZ.out, cmpN_eq]), rfl⟩
      | succ j =>
        have hk2 : k < q := by omega
        have ej : (q : Int) - 1 - k = (j : Int) := by omega
        clear hk hz
        have g1 := nat_wordAt h hn (j : Int) (by omega)
        have g2 := nat_wordAt h' hn' (j : Int) (by omega)
        obtain ⟨x, hx⟩ : ∃ x, wd xs j = x := ⟨_, rfl⟩
        obtain ⟨y, hy⟩ : ∃ y, wd ys j = y := ⟨_, rfl⟩
        rw [hx] at g1
        rw [hy] at g2
        have G1 := Lib.hid g1
        have G2 := Lib.hid g2
        have HX := Lib.hid hx
        have HY := Lib.hid hy
        clear g1 g2 hx hy
        rcases Int.lt_trichotomy x y with hxy | hxy | hxy
        · go_wp2_with fail
          refine G1.out.mono ?_
          rintro e w' ⟨rfl, rfl⟩
          go_wp2_with fail
          refine G2.out.mono ?_
          rintro e w' ⟨rfl, rfl⟩
          go_wp2_with fail
          go_ret
          exact ⟨ret1 (by rw [cmpN_lt (val_lt_of_drop (Dg_U h.us) j (drop_lt (Dg_U h.us) HZ.out (by rw [← wd_nat, ← wd_nat, HX.out, HY.out]; exact hxy)))]), rfl⟩
        · subst hxy
          go_wp2_with fail
          refine G1.out.mono ?_
          rintro e w' ⟨rfl, rfl⟩
          go_wp2_with fail
          refine G2.out.mono ?_
          rintro e w' ⟨rfl, rfl⟩
          go_wp2_with fail
          go_round
          case rel => exact ⟨k + 1, j, by omega, by go_num, drop_eq HZ.out (by rw [← wd_nat, ← wd_nat, HX.out, HY.out])⟩
          case measure => simp [mes, intOf]; omega
        · go_wp2_with fail
          refine G1.out.mono ?_
          rintro e w' ⟨rfl, rfl⟩
          go_wp2_with fail
          refine G2.out.mono ?_
          rintro e w' ⟨rfl, rfl⟩
          go_wp2_with fail
          go_ret
          exact ⟨ret1 (by rw [cmpN_gt (val_lt_of_drop (Dg_U h'.us) j (drop_lt (Dg_U h'.us) HZ.out.symm (by rw [← wd_nat, ← wd_nat, HX.out, HY.out]; exact hxy)))]), rfl⟩
  · have h1 : sz xs ≤ p := by rw [HP.out]; omega
    have h2 : sz ys ≤ p := by rw [HQ.out]; omega
    have H1 := Lib.hid h1
    have H2 := Lib.hid h2
    clear h1 h2
    go_enter Tryz.func147, Tryz.ntmps147
    go_wp2_with fail
    refine T1.out.mono ?_
    rintro e w' ⟨rfl, rfl⟩
    go_wp2_with fail
    refine T2.out.mono ?_
    rintro e w' ⟨rfl, rfl⟩
    go_wp2_with fail
    go_loop [15] (fun i => ∃ k j : Nat, k + j = p ∧ i = .int .i64 k ∧ SameFrom xs ys j) (fun i => p - mes i)
    case atStart => exact ⟨0, p, by omega, rfl, sameFrom_top H1.out H2.out⟩
    case round =>
      obtain ⟨k, j, hk, rfl, hz⟩ := hrel
      have hk' : k ≤ p := by omega
      have HK := Lib.hid hk
      have HZ := Lib.hid hz
      cases j with
      | zero =>
        have hk2 : p ≤ k := by omega
        clear hk hz
        go_wp2
        go_ret
        exact ⟨ret1 (by rw [sameFrom_0 HZ.out, cmpN_eq]), rfl⟩
      | succ j =>
        have hk2 : k < p := by omega
        have ej : (p : Int) - 1 - k = (j : Int) := by omega
        clear hk hz
        have g1 := nat_wordAt h hn (j : Int) (by omega)
        have g2 := nat_wordAt h' hn' (j : Int) (by omega)
        obtain ⟨x, hx⟩ : ∃ x, wd xs j = x := ⟨_, rfl⟩
        obtain ⟨y, hy⟩ : ∃ y, wd ys j = y := ⟨_, rfl⟩
        rw [hx] at g1
        rw [hy] at g2
        have G1 := Lib.hid g1
        have G2 := Lib.hid g2
        have HX := Lib.hid hx
        have HY := Lib.hid hy
        clear g1 g2 hx hy
        rcases Int.lt_trichotomy x y with hxy | hxy | hxy
        · go_wp2_with fail
          refine G1.out.mono ?_
          rintro e w' ⟨rfl, rfl⟩
          go_wp2_with fail
          refine G2.out.mono ?_
          rintro e w' ⟨rfl, rfl⟩
          go_wp2_with fail
          go_ret
          exact ⟨ret1 (by rw [cmpN_lt (val_lt_of_drop (Dg_U h.us) j (drop_lt (Dg_U h.us) HZ.out (by rw [← wd_nat, ← wd_nat, HX.out, HY.out]; exact hxy)))]), rfl⟩
        · subst hxy
          go_wp2_with fail
          refine G1.out.mono ?_
          rintro e w' ⟨rfl, rfl⟩
          go_wp2_with fail
          refine G2.out.mono ?_
          rintro e w' ⟨rfl, rfl⟩
          go_wp2_with fail
          go_round
          case rel => exact ⟨k + 1, j, by omega, by go_num, drop_eq HZ.out (by rw [← wd_nat, ← wd_nat, HX.out, HY.out])⟩
          case measure => simp [mes, intOf]; omega
        · go_wp2_with fail
          refine G1.out.mono ?_
          rintro e w' ⟨rfl, rfl⟩
          go_wp2_with fail
          refine G2.out.mono ?_
          rintro e w' ⟨rfl, rfl⟩
          go_wp2_with fail
          go_ret
          exact ⟨ret1 (by rw [cmpN_gt (val_lt_of_drop (Dg_U h'.us) j (drop_lt (Dg_U h'.us) HZ.out.symm (by rw [← wd_nat, ← wd_nat, HX.out, HY.out]; exact hxy)))]), rfl⟩

set_option maxHeartbeats 1000000 in
theorem ref_cmp {w : World} {A A' : Option Addr} {n n' c c' : Nat} {xs ys : List Int} (h : Sl w A n c xs) (h' : Sl w A' n' c' ys) (hn : n ≤ 1000000000) (hn' : n' ≤ 1000000000) :
    Calls Tryz.prog 100 #[.slice A n c, .slice A' n' c'] w fun e w' => e = .returned (.int .i64 (cmpN (val xs) (val ys))) ∧ w = w' := by
  have hs : sz xs ≤ n := by rw [h.len]; exact sz_le xs
  have hs' : sz ys ≤ n' := by rw [h'.len]; exact sz_le ys
  rcases Nat.lt_or_ge n n' with hle | hle
  · have h1 : sz xs ≤ n' := by omega
    have h2 : sz ys ≤ n' := by omega
    have H1 := Lib.hid h1
    have H2 := Lib.hid h2
    clear h1 h2 hs hs'
    go_enter Tryz.func100, Tryz.ntmps100
    go_wp2_with fail
    go_loop [6] (fun i => ∃ j : Nat, j ≤ n' ∧ i = .int .i64 ((j : Int) - 1) ∧ SameFrom xs ys j) (fun i => (intOf i + 1).toNat)
    case atStart => exact ⟨n', by omega, rfl, sameFrom_top H1.out H2.out⟩
    case round =>
      obtain ⟨j, hj, rfl, hz⟩ := hrel
      have HZ := Lib.hid hz
      cases j with
      | zero =>
        clear hz
        go_wp2
        go_ret
        exact ⟨ret1 (by rw [sameFrom_0 HZ.out, cmpN_eq]), rfl⟩
      | succ j =>
        clear hz
        have ej : ((j + 1 : Nat) : Int) - 1 = (j : Int) := by omega
        have g1 := ref_at h hn (j : Int) (by omega)
        have g2 := ref_at h' hn' (j : Int) (by omega)
        obtain ⟨x, hx⟩ : ∃ x, wd xs j = x := ⟨_, rfl⟩
        obtain ⟨y, hy⟩ : ∃ y, wd ys j = y := ⟨_, rfl⟩
        rw [hx] at g1
        rw [hy] at g2
        have G1 := Lib.hid g1
        have G2 := Lib.hid g2
        have HX := Lib.hid hx
        have HY := Lib.hid hy
        clear g1 g2 hx hy
        rcases Int.lt_trichotomy x y with hxy | hxy | hxy
        · go_wp2_with fail
          refine G1.out.mono ?_
          rintro e w' ⟨rfl, rfl⟩
          go_wp2_with fail
          refine G2.out.mono ?_
          rintro e w' ⟨rfl, rfl⟩
          go_wp2_with fail
          go_ret
          exact ⟨ret1 (by rw [cmpN_lt (val_lt_of_drop (Dg_U h.us) j (drop_lt (Dg_U h.us) HZ.out (by rw [← wd_nat, ← wd_nat, HX.out, HY.out]; exact hxy)))]), rfl⟩
        · subst hxy
          go_wp2_with fail
          refine G1.out.mono ?_
          rintro e w' ⟨rfl, rfl⟩
          go_wp2_with fail
          refine G2.out.mono ?_
          rintro e w' ⟨rfl, rfl⟩
          go_wp2_with fail
          go_round
          case rel => exact ⟨j, by omega, by go_num, drop_eq HZ.out (by rw [← wd_nat, ← wd_nat, HX.out, HY.out])⟩
          case measure => simp [intOf]
        · go_wp2_with fail
          refine G1.out.mono ?_
          rintro e w' ⟨rfl, rfl⟩
          go_wp2_with fail
          refine G2.out.mono ?_
          rintro e w' ⟨rfl, rfl⟩
          go_wp2_with fail
          go_ret
          exact ⟨ret1 (by rw [cmpN_gt (val_lt_of_drop (Dg_U h'.us) j (drop_lt (Dg_U h'.us) HZ.out.symm (by rw [← wd_nat, ← wd_nat, HX.out, HY.out]; exact hxy)))]), rfl⟩
  · have h1 : sz xs ≤ n := by omega
    have h2 : sz ys ≤ n := by omega
    have H1 := Lib.hid h1
    have H2 := Lib.hid h2
    clear h1 h2 hs hs'
    go_enter Tryz.func100, Tryz.ntmps100
    go_wp2_with fail
    go_loop [6] (fun i => ∃ j : Nat, j ≤ n ∧ i = .int .i64 ((j : Int) - 1) ∧ SameFrom xs ys j) (fun i => (intOf i + 1).toNat)
    case atStart => exact ⟨n, by omega, rfl, sameFrom_top H1.out H2.out⟩
    case round =>
      obtain ⟨j, hj, rfl, hz⟩ := hrel
      have HZ := Lib.hid hz
      cases j with
      | zero =>
        clear hz
        go_wp2
        go_ret
        exact ⟨ret1 (by rw [sameFrom_0 HZ.out, cmpN_eq]), rfl⟩
      | succ j =>
        clear hz
        have ej : ((j + 1 : Nat) : Int) - 1 = (j : Int) := by omega
        have g1 := ref_at h hn (j : Int) (by omega)
        have g2 := ref_at h' hn' (j : Int) (by omega)
        obtain ⟨x, hx⟩ : ∃ x, wd xs j = x := ⟨_, rfl⟩
        obtain ⟨y, hy⟩ : ∃ y, wd ys j = y := ⟨_, rfl⟩
        rw [hx] at g1
        rw [hy] at g2
        have G1 := Lib.hid g1
        have G2 := Lib.hid g2
        have HX := Lib.hid hx
        have HY := Lib.hid hy
        clear g1 g2 hx hy
        rcases Int.lt_trichotomy x y with hxy | hxy | hxy
        · go_wp2_with fail
          refine G1.out.mono ?_
          rintro e w' ⟨rfl, rfl⟩
          go_wp2_with fail
          refine G2.out.mono ?_
          rintro e w' ⟨rfl, rfl⟩
          go_wp2_with fail
          go_ret
          exact ⟨ret1 (by rw [cmpN_lt (val_lt_of_drop (Dg_U h.us) j (drop_lt (Dg_U h.us) HZ.out (by rw [← wd_nat, ← wd_nat, HX.out, HY.out]; exact hxy)))]), rfl⟩
        · subst hxy
          go_wp2_with fail
          refine G1.out.mono ?_
          rintro e w' ⟨rfl, rfl⟩
          go_wp2_with fail
          refine G2.out.mono ?_
          rintro e w' ⟨rfl, rfl⟩
          go_wp2_with fail
          go_round
          case rel => exact ⟨j, by omega, by go_num, drop_eq HZ.out (by rw [← wd_nat, ← wd_nat, HX.out, HY.out])⟩
          case measure => simp [intOf]
        · go_wp2_with fail
          refine G1.out.mono ?_
          rintro e w' ⟨rfl, rfl⟩
          go_wp2_with fail
          refine G2.out.mono ?_
          rintro e w' ⟨rfl, rfl⟩
          go_wp2_with fail
          go_ret
          exact ⟨ret1 (by rw [cmpN_gt (val_lt_of_drop (Dg_U h'.us) j (drop_lt (Dg_U h'.us) HZ.out.symm (by rw [← wd_nat, ← wd_nat, HX.out, HY.out]; exact hxy)))]), rfl⟩

end Go.Proofs.YthpbaaanbimapaaGreatDoor

namespace Go.Proofs.YthpbaaanbimapaaGreatDoor
set_option maxRecDepth 100000
open Go.RowKit
set_option linter.unusedVariables false
set_option linter.unusedSimpArgs false

theorem blen_le64 {xs : List Int} (h : ∀ x ∈ xs, U x) (j : Nat) : blen (xs.getD j 0).toNat ≤ 64 := by
  have := (Dg_U h).at_ W_pos j
  refine blen_le ?_
  unfold W at this
  omega
theorem blen_val_le {w : World} {A : Option Addr} {n c : Nat} {xs : List Int} (h : Sl w A n c xs) : blen (val xs) ≤ n * 64 := by
  rcases Nat.eq_zero_or_pos (sz xs) with h0 | h0
  · have : val xs = 0 := (valB_zero_iff W_pos (Dg_U h.us)).2 h0
    rw [this, blen_zero]; omega
  · rw [blen_val (Dg_U h.us) h0]
    have := blen_le64 h.us (sz xs - 1)
    have := sz_le xs
    have := h.len
    omega

set_option maxHeartbeats 400000 in
theorem nat_bits {w : World} {A : Option Addr} {n c : Nat} {xs : List Int} (h : Sl w A n c xs) (hn : n ≤ 1000000000) :
    Calls Tryz.prog 84 #[.slice A n c] w fun e w' => e = .returned (.int .i64 (blen (val xs))) ∧ w = w' := by
  have hs : sz xs ≤ n := by rw [h.len]; exact sz_le xs
  by_cases h0 : sz xs = 0
  · have hv : val xs = 0 := (valB_zero_iff W_pos (Dg_U h.us)).2 h0
    have HV := Lib.hid hv
    have S := nat_size h hn
    rw [h0] at S
    have HS := Lib.hid S
    clear hv S h0
    go_enter Tryz.func84, Tryz.ntmps84
    go_wp2_with fail
    refine HS.out.mono ?_
    rintro e w' ⟨rfl, rfl⟩
    go_wp2_with fail
    go_ret
    exact ⟨ret1 (by rw [HV.out]; rfl), rfl⟩
  · obtain ⟨m, hm⟩ : ∃ m, sz xs = m + 1 := ⟨sz xs - 1, by omega⟩
    have hv := blen_val (Dg_U h.us) (by omega)
    have hb := blen_le64 h.us m
    have hu := h.u m
    rw [hm, Nat.add_sub_cancel] at hv
    have S := nat_size h hn
    rw [hm] at S
    have hm' : m < n := by omega
    obtain ⟨b, off, rfl, hb', hc⟩ := h.at_ hm'
    have hcell := hc m hm'
    obtain ⟨z, hz⟩ : ∃ z, xs.getD m 0 = z := ⟨_, rfl⟩
    rw [hz] at hcell hv hb hu
    have HV := Lib.hid hv
    have HS := Lib.hid S
    clear hv S h0 hm hs hc hz
    go_enter Tryz.func84, Tryz.ntmps84
    go_wp2_with fail
    refine HS.out.mono ?_
    rintro e w' ⟨rfl, rfl⟩
    go_wp2_with fail
    refine (limb_len z hu _).mono ?_
    rintro e w' ⟨rfl, rfl⟩
    go_wp2_with fail
    go_ret
    exact ⟨ret1 (by rw [HV.out]; omega), rfl⟩

set_option maxHeartbeats 400000 in
theorem ref_bits {w : World} {A : Option Addr} {n c : Nat} {xs : List Int} (h : Sl w A n c xs) (hn : n ≤ 1000000000) :
    Calls Tryz.prog 93 #[.slice A n c] w fun e w' => e = .returned (.int .i64 (blen (val xs))) ∧ w = w' := by
  have hs : sz xs ≤ n := by rw [h.len]; exact sz_le xs
  by_cases h0 : sz xs = 0
  · have hv : val xs = 0 := (valB_zero_iff W_pos (Dg_U h.us)).2 h0
    have HV := Lib.hid hv
    have S := ref_size h hn
    rw [h0] at S
    have HS := Lib.hid S
    clear hv S h0
    go_enter Tryz.func93, Tryz.ntmps93
    go_wp2_with fail
    refine HS.out.mono ?_
    rintro e w' ⟨rfl, rfl⟩
    go_wp2_with fail
    go_ret
    exact ⟨ret1 (by rw [HV.out]; rfl), rfl⟩
  · obtain ⟨m, hm⟩ : ∃ m, sz xs = m + 1 := ⟨sz xs - 1, by omega⟩
    have hv := blen_val (Dg_U h.us) (by omega)
    have hb := blen_le64 h.us m
    have hu := h.u m
    rw [hm, Nat.add_sub_cancel] at hv
    have S := ref_size h hn
    rw [hm] at S
    have hm' : m < n := by omega
    obtain ⟨b, off, rfl, hb', hc⟩ := h.at_ hm'
    have hcell := hc m hm'
    obtain ⟨z, hz⟩ : ∃ z, xs.getD m 0 = z := ⟨_, rfl⟩
    rw [hz] at hcell hv hb hu
    have HV := Lib.hid hv
    have HS := Lib.hid S
    clear hv S h0 hm hs hc hz
    go_enter Tryz.func93, Tryz.ntmps93
    go_wp2_with fail
    refine HS.out.mono ?_
    rintro e w' ⟨rfl, rfl⟩
    go_wp2_with fail
    refine (ref_len z hu _).mono ?_
    rintro e w' ⟨rfl, rfl⟩
    go_wp2_with fail
    go_ret
    exact ⟨ret1 (by rw [HV.out]; omega), rfl⟩


theorem bit_wd {xs : List Int} (h : ∀ x ∈ xs, U x) (k : Nat) : (bits BinOp.and IntKind.u64 (wd xs ((k : Int) / 64) / 2 ^ (k % 64)) 1 == 1) = bitN (val xs) k := by
  have e1 : wd xs ((k : Int) / 64) = (((xs.getD (k / 64) 0).toNat : Nat) : Int) := by
    have := (Dg_U h).at_ W_pos (k / 64)
    unfold wd
    rw [show ((k : Int) / 64).toNat = k / 64 by omega]
    omega
  have hu : U (((xs.getD (k / 64) 0).toNat : Nat) : Int) := by
    have := (Dg_U h).at_ W_pos (k / 64)
    unfold U; unfold W at this; omega
  have hd : ∀ t : Nat, ((t : Int) == 1) = decide (t = 1) := fun t => by rw [Bool.eq_iff_iff]; simp; omega
  rw [e1, bit_of _ _ hu, bitN_nat, bit_word (Dg_U h), hd]

set_option maxHeartbeats 400000 in
theorem ref_bit {w : World} {A : Option Addr} {n c : Nat} {xs : List Int} (h : Sl w A n c xs) (hn : n ≤ 1000000000) (i : Int) (hi2 : i ≤ 9223372036854775807) :
    Calls Tryz.prog 186 #[.slice A n c, .int .i64 i] w fun e w' => e = .returned (.bool (bitN (val xs) i)) ∧ w = w' := by
  by_cases hi : i < 0
  · have hb := bitN_neg (val xs) hi
    have HB := Lib.hid hb
    clear hb
    have h1 : decide (0 ≤ i) = false := by simp; omega
    go_enter Tryz.func186, Tryz.ntmps186
    go_wp2
    go_ret
    exact ⟨retB HB.out.symm, rfl⟩
  · obtain ⟨k, rfl⟩ := Int.eq_ofNat_of_zero_le (show 0 ≤ i by omega)
    have hb := bit_wd h.us k
    by_cases hk : k / 64 < n
    · obtain ⟨b, off, rfl, hb', hc⟩ := h.at_ hk
      have hcell := hc (k / 64) hk
      have e1 : wd xs ((k : Int) / 64) = xs.getD (k / 64) 0 := by unfold wd; rw [show ((k : Int) / 64).toNat = k / 64 by omega]
      rw [← e1] at hcell
      obtain ⟨z, hz⟩ : ∃ z, wd xs ((k : Int) / 64) = z := ⟨_, rfl⟩
      rw [hz] at hcell hb
      have HB := Lib.hid hb
      clear hb e1 hz hc
      have h1 : decide (0 ≤ (k : Int)) = true := by simp
      have h2 : decide (k / 64 < n) = true := by simp; omega
      have h3 : (k : Int) / 64 < (n : Int) := by omega
      go_enter Tryz.func186, Tryz.ntmps186
      go_wp2
      go_ret
      exact ⟨retB HB.out, rfl⟩
    · have e1 : wd xs ((k : Int) / 64) = 0 := by
        unfold wd
        rw [show ((k : Int) / 64).toNat = k / 64 by omega, List.getD_eq_getElem?_getD, List.getElem?_eq_none (by have := h.len; omega)]; rfl
      have hb2 : bitN (val xs) k = false := by
        rw [← hb, e1, Int.zero_ediv]
        decide
      have HB := Lib.hid hb2
      clear hb hb2 e1
      have h1 : decide (0 ≤ (k : Int)) = true := by simp
      have h2 : decide (k / 64 < n) = false := by simp; omega
      have h3 : (n : Int) ≤ (k : Int) / 64 := by omega
      go_enter Tryz.func186, Tryz.ntmps186
      go_wp2
      go_ret
      exact ⟨retB HB.out.symm, rfl⟩

theorem bitN_true {v k : Nat} (h : v / 2 ^ k % 2 = 1) : bitN v k = true := by rw [bitN_nat]; simpa using h
theorem bitN_false {v k : Nat} (h : v / 2 ^ k % 2 ≠ 1) : bitN v k = false := by rw [bitN_nat]; simpa using h

set_option maxHeartbeats 400000 in
theorem ref_even {w : World} {A : Option Addr} {n c : Nat} {xs : List Int} (h : Sl w A n c xs) (hn : n ≤ 1000000000) :
    Calls Tryz.prog 165 #[.slice A n c] w fun e w' => e = .returned (.int .i64 (tz (val xs))) ∧ w = w' := by
  have hbl := blen_val_le h
  have S := ref_size h hn
  have hs : sz xs ≤ n := by rw [h.len]; exact sz_le xs
  by_cases h0 : sz xs = 0
  · have hv : val xs = 0 := (valB_zero_iff W_pos (Dg_U h.us)).2 h0
    have HV := Lib.hid hv
    rw [h0] at S
    have HS := Lib.hid S
    clear hv S h0
    go_enter Tryz.func165, Tryz.ntmps165
    go_wp2_with fail
    refine HS.out.mono ?_
    rintro e w' ⟨rfl, rfl⟩
    go_wp2_with fail
    go_ret
    exact ⟨ret1 (by rw [HV.out]; rfl), rfl⟩
  · have hv : val xs ≠ 0 := fun e => h0 ((valB_zero_iff W_pos (Dg_U h.us)).1 e)
    obtain ⟨L, hL⟩ : ∃ L, blen (val xs) = L := ⟨_, rfl⟩
    rw [hL] at hbl
    have HL := Lib.hid hL
    have HV := Lib.hid hv
    obtain ⟨p, hp⟩ : ∃ p, sz xs = p := ⟨_, rfl⟩
    rw [hp] at S hs h0
    have HS := Lib.hid S
    have h0' : ((p : Int) == 0) = false := by simp; omega
    clear S hL hv hp
    go_enter Tryz.func165, Tryz.ntmps165
    go_wp2_with fail
    refine HS.out.mono ?_
    rintro e w' ⟨rfl, rfl⟩
    go_wp2_with fail
    go_loop [3] (fun i => ∃ k : Nat, k ≤ L ∧ i = .int .i64 k ∧ LowZero (val xs) k) (fun i => L - mes i)
    case atStart => exact ⟨0, by omega, rfl, lowZero_0 _⟩
    case round =>
      obtain ⟨k, hk, rfl, hz⟩ := hrel
      have hk2 : k < L := by
        rcases Nat.lt_or_ge k L with h9 | h9
        · exact h9
        · exact absurd (lowZero_zero (v := val xs) (by rw [HL.out, ← (show k = L from by omega)]; exact hz)) HV.out
      have B := ref_bit h hn (k : Int) (by omega)
      by_cases hb : val xs / 2 ^ k % 2 = 1
      · rw [bitN_true hb] at B
        have HB := Lib.hid B
        have H1 := Lib.hid hb
        clear B hb
        go_wp2_with fail
        refine HB.out.mono ?_
        rintro e w' ⟨rfl, rfl⟩
        go_wp2_with fail
        go_ret
        exact ⟨ret1 (by rw [tz_unique hz H1.out]), rfl⟩
      · rw [bitN_false hb] at B
        have HB := Lib.hid B
        have H1 := Lib.hid hb
        clear B hb
        go_wp2_with fail
        refine HB.out.mono ?_
        rintro e w' ⟨rfl, rfl⟩
        go_wp2_with fail
        go_round
        case rel => exact ⟨k + 1, by omega, by go_num, hz.step H1.out⟩
        case measure => simp [mes, intOf]; omega

end Go.Proofs.YthpbaaanbimapaaGreatDoor

namespace Go.Proofs.YthpbaaanbimapaaGreatDoor
set_option maxRecDepth 100000
open Go.RowKit
set_option linter.unusedVariables false
set_option linter.unusedSimpArgs false

theorem infoW : (Tryz.prog.info? 34).map (fun i => (i.zero, i.size, i.bytes)) = some (some (.int .u64 0), 1, 8) := by kernel_rfl

/-- a normalized cut of a row that the call made -/
theorem retSl_cut {w w' : World} {t : TypeId} {g c v : Nat} {zs : List Int} (hr : Row t w' g zs) (hd : Dg W zs) (hc : zs.length ≤ c) (hv : val zs = v) (hb : Below w.heap.size w w') :
    RetSl (words v) w (.returned (.slice (some ⟨g, 0, none⟩) (sz zs) c)) w' := by
  subst hv
  exact ⟨_, _, _, rfl, cut_sl (hr.sl (U_Dg hd) hc), hb⟩

set_option maxHeartbeats 400000 in
theorem nat_of (x : Int) (hx : U x) (w : World) : Calls Tryz.prog 139 #[.int .u64 x] w (RetSl (words x.toNat) w) := by
  have hr : Row 34 (w.alloc (.cells #[.int .u64 x] 34)) w.heap.size [x] := Row.lit w 34 [x]
  have hs : Sl (w.alloc (.cells #[.int .u64 x] 34)) (some ⟨w.heap.size, 0, none⟩) 1 1 [x] := hr.sl (by intro y hy; simp at hy; subst hy; exact hx) (by simp)
  go_enter Tryz.func139, Tryz.ntmps139
  go_wp2_with fail
  refine (nat_cut hs (by omega)).mono ?_
  rintro e w' ⟨rfl, rfl⟩
  go_wp2_with fail
  go_ret
  exact retSl_cut hr (Dg_U (by intro y hy; simp at hy; subst hy; exact hx)) (by simp) (by simp [val, valB]) ((Below.refl _ _).alloc (Nat.le_refl _) _)

set_option maxHeartbeats 1000000 in
theorem nat_add {w : World} {A A' : Option Addr} {n n' c c' : Nat} {xs ys : List Int} (h : Sl w A n c xs) (h' : Sl w A' n' c' ys) (hn : n ≤ 100000000) (hn' : n' ≤ 100000000) :
    Calls Tryz.prog 151 #[.slice A n c, .slice A' n' c'] w (RetSl (words (val xs + val ys)) w) := by
  have hs : sz xs ≤ n := by rw [h.len]; exact sz_le xs
  have hs' : sz ys ≤ n' := by rw [h'.len]; exact sz_le ys
  have S1 := nat_size h (by omega)
  have S2 := nat_size h' (by omega)
  generalize hp : sz xs = p at S1 hs
  generalize hq : sz ys = q at S2 hs'
  have HP := Lib.hid hp
  have HQ := Lib.hid hq
  have T1 := Lib.hid S1
  have T2 := Lib.hid S2
  clear hp hq S1 S2
  rcases Nat.lt_or_ge p q with hle | hle
  · have h1 : sz xs ≤ q := by rw [HP.out]; omega
    have h2 : sz ys ≤ q := by rw [HQ.out]; omega
    have H1 := Lib.hid h1
    have H2 := Lib.hid h2
    clear h1 h2
    have hmk := run_make_row' (P := Tryz.prog) 49 34 (.int .u64 0) 8 Tryz.underlying49 infoW rfl .i64 .i64 (q + 1) (by omega) (by omega)
    rw [show ((q + 1 : Nat) : Int) = (q : Int) + 1 by omega] at hmk
    go_enter Tryz.func151, Tryz.ntmps151
    go_wp2_with fail
    refine T1.out.mono ?_
    rintro e w' ⟨rfl, rfl⟩
    go_wp2_with fail
    refine T2.out.mono ?_
    rintro e w' ⟨rfl, rfl⟩
    go_wp2_with fail
    go_loopw [7, 18] (fun cy i wr => ∃ (k : Nat) (c0 : Int) (zs : List Int), k ≤ q ∧ i = .int .i64 k ∧ cy = .int .u64 c0 ∧ AddInv xs ys q k c0 zs ∧ Row 34 wr w.heap.size zs ∧ Below w.heap.size w wr) (fun _ i _ => q - mes i)
    case atStart => exact ⟨0, 0, _, by omega, rfl, rfl, addInv_0 xs ys q, Row.new w 34 (q + 1), (Below.refl _ _).alloc (Nat.le_refl _) _⟩
    case round =>
      obtain ⟨k, c0, zs, hk, rfl, rfl, hz, hr, hb⟩ := hrel
      by_cases hk2 : k < q
      · have g1 := nat_wordAt (h.below hb) (by omega) (k : Int) (by omega)
        have g2 := nat_wordAt (h'.below hb) (by omega) (k : Int) (by omega)
        have hux := wd_U h.us (k : Int)
        have huy := wd_U h'.us (k : Int)
        have hst := addInv_step (Dg_U h.us) (Dg_U h'.us) hz hk2
        rw [← wd_nat, ← wd_nat] at hst
        have hl : zs.length = q + 1 := hz.1
        have huc : U c0 := hz.2.2.1
        have hcell := hr.cell (i := k) (by omega)
        have hfree := hr.free k
        generalize zs.getD k 0 = z0 at hcell
        generalize wd xs k = x at *
        generalize wd ys k = y at *
        have G1 := Lib.hid g1
        have G2 := Lib.hid g2
        have HS := Lib.hid hst
        have HR := Lib.hid hr
        clear g1 g2 hst hl hz hr
        go_wp2_with fail
        refine G1.out.mono ?_
        rintro e w' ⟨rfl, rfl⟩
        go_wp2_with fail
        refine G2.out.mono ?_
        rintro e w' ⟨rfl, rfl⟩
        go_wp2_with fail
        refine (limb_add x y c0 hux huy huc _).mono ?_
        rintro e w' ⟨rfl, rfl⟩
        go_wp2_with fail
        go_roundw
        case rel => exact ⟨k + 1, _, _, by omega, by go_num, rfl, HS.out, HR.out.set k _, hb.setCell (Nat.le_refl _) _⟩
        case measure => simp [mes, intOf]; omega
      · obtain rfl : k = q := by omega
        obtain ⟨e1, e2, e3⟩ := addInv_end hz H1.out H2.out
        have hl : zs.length = k + 1 := hz.1
        have hcell := hr.cell (i := k) (by omega)
        have hfree := hr.free k
        generalize zs.getD k 0 = z0 at hcell
        have hr2 := hr.set k c0
        have hb2 : Below w.heap.size w (wr.setCell ⟨w.heap.size, k, none⟩ (.int .u64 c0)) := hb.setCell (Nat.le_refl _) _
        have hsl := hr2.sl (c := k + 1) (U_Dg e2) (by omega)
        rw [e3] at hsl
        have HC := Lib.hid (nat_cut hsl (by omega))
        have HR := Lib.hid hr2
        have E1 := Lib.hid e1
        have E2 := Lib.hid e2
        have E3 := Lib.hid e3
        clear hsl hr2 e1 e2 e3 hl hz hr
        go_wp2_with fail
        refine HC.out.mono ?_
        rintro e w' ⟨rfl, rfl⟩
        go_wp2_with fail
        go_ret
        exact retSl_cut HR.out E2.out (by rw [E3.out]; omega) E1.out hb2
  · have h1 : sz xs ≤ p := by rw [HP.out]; omega
    have h2 : sz ys ≤ p := by rw [HQ.out]; omega
    have H1 := Lib.hid h1
    have H2 := Lib.hid h2
    clear h1 h2
    have hmk := run_make_row' (P := Tryz.prog) 49 34 (.int .u64 0) 8 Tryz.underlying49 infoW rfl .i64 .i64 (p + 1) (by omega) (by omega)
    rw [show ((p + 1 : Nat) : Int) = (p : Int) + 1 by omega] at hmk
    go_enter Tryz.func151, Tryz.ntmps151
    go_wp2_with fail
    refine T1.out.mono ?_
    rintro e w' ⟨rfl, rfl⟩
    go_wp2_with fail
    refine T2.out.mono ?_
    rintro e w' ⟨rfl, rfl⟩
    go_wp2_with fail
    go_loopw [7, 18] (fun cy i wr => ∃ (k : Nat) (c0 : Int) (zs : List Int), k ≤ p ∧ i = .int .i64 k ∧ cy = .int .u64 c0 ∧ AddInv xs ys p k c0 zs ∧ Row 34 wr w.heap.size zs ∧ Below w.heap.size w wr) (fun _ i _ => p - mes i)
    case atStart => exact ⟨0, 0, _, by omega, rfl, rfl, addInv_0 xs ys p, Row.new w 34 (p + 1), (Below.refl _ _).alloc (Nat.le_refl _) _⟩
    case round =>
      obtain ⟨k, c0, zs, hk, rfl, rfl, hz, hr, hb⟩ := hrel
      by_cases hk2 : k < p
      · have g1 := nat_wordAt (h.below hb) (by omega) (k : Int) (by omega)
        have g2 := nat_wordAt (h'.below hb) (by omega) (k : Int) (by omega)
        have hux := wd_U h.us (k : Int)
        have huy := wd_U h'.us (k : Int)
        have hst := addInv_step (Dg_U h.us) (Dg_U h'.us) hz hk2
        rw [← wd_nat, ← wd_nat] at hst
        have hl : zs.length = p + 1 := hz.1
        have huc : U c0 := hz.2.2.1
        have hcell := hr.cell (i := k) (by omega)
        have hfree := hr.free k
        generalize zs.getD k 0 = z0 at hcell
        generalize wd xs k = x at *
        generalize wd ys k = y at *
        have G1 := Lib.hid g1
        have G2 := Lib.hid g2
        have HS := Lib.hid hst
        have HR := Lib.hid hr
        clear g1 g2 hst hl hz hr
        go_wp2_with fail
        refine G1.out.mono ?_
        rintro e w' ⟨rfl, rfl⟩
        go_wp2_with fail
        refine G2.out.mono ?_
        rintro e w' ⟨rfl, rfl⟩
        go_wp2_with fail
        refine (limb_add x y c0 hux huy huc _).mono ?_
        rintro e w' ⟨rfl, rfl⟩
        go_wp2_with fail
        go_roundw
        case rel => exact ⟨k + 1, _, _, by omega, by go_num, rfl, HS.out, HR.out.set k _, hb.setCell (Nat.le_refl _) _⟩
        case measure => simp [mes, intOf]; omega
      · obtain rfl : k = p := by omega
        obtain ⟨e1, e2, e3⟩ := addInv_end hz H1.out H2.out
        have hl : zs.length = k + 1 := hz.1
        have hcell := hr.cell (i := k) (by omega)
        have hfree := hr.free k
        generalize zs.getD k 0 = z0 at hcell
        have hr2 := hr.set k c0
        have hb2 : Below w.heap.size w (wr.setCell ⟨w.heap.size, k, none⟩ (.int .u64 c0)) := hb.setCell (Nat.le_refl _) _
        have hsl := hr2.sl (c := k + 1) (U_Dg e2) (by omega)
        rw [e3] at hsl
        have HC := Lib.hid (nat_cut hsl (by omega))
        have HR := Lib.hid hr2
        have E1 := Lib.hid e1
        have E2 := Lib.hid e2
        have E3 := Lib.hid e3
        clear hsl hr2 e1 e2 e3 hl hz hr
        go_wp2_with fail
        refine HC.out.mono ?_
        rintro e w' ⟨rfl, rfl⟩
        go_wp2_with fail
        go_ret
        exact retSl_cut HR.out E2.out (by rw [E3.out]; omega) E1.out hb2

end Go.Proofs.YthpbaaanbimapaaGreatDoor

namespace Go.Proofs.YthpbaaanbimapaaGreatDoor
set_option maxRecDepth 100000
open Go.RowKit
set_option linter.unusedVariables false
set_option linter.unusedSimpArgs false

/-- a call that returns a slice that reads as xs, and a bool, and turns nothing that was there -/
def RetSlB (xs : List Int) (b : Bool) (w : World) (e : Ending) (w' : World) : Prop := ∃ A n c, e = .returned (.tuple #[.slice A n c, .bool b]) ∧ Sl w' A n c xs ∧ Below w.heap.size w w'

/-- .. in new memory -/
def RetSlBN (xs : List Int) (b : Bool) (w : World) (e : Ending) (w' : World) : Prop := ∃ A n c, e = .returned (.tuple #[.slice A n c, .bool b]) ∧ Sl w' A n c xs ∧ Below w.heap.size w w' ∧ New w A

set_option maxHeartbeats 400000 in
theorem nat_sub_no {w : World} {A A' : Option Addr} {n n' c c' : Nat} {xs ys : List Int} (h : Sl w A n c xs) (h' : Sl w A' n' c' ys) (hn : n ≤ 100000000) (hn' : n' ≤ 100000000) (hlt : val xs < val ys) :
    Calls Tryz.prog 206 #[.slice A n c, .slice A' n' c'] w (RetSlB [] false w) := by
  have C := nat_cmp h h' (by omega) (by omega)
  rw [cmpN_lt hlt] at C
  have HC := Lib.hid C
  clear C
  go_enter Tryz.func206, Tryz.ntmps206
  go_wp2_with fail
  refine HC.out.mono ?_
  rintro e w' ⟨rfl, rfl⟩
  go_wp2_with fail
  go_ret2
  exact ⟨_, _, _, rfl, Sl.nil _ _ _, Below.refl _ _⟩

set_option maxHeartbeats 1000000 in
theorem nat_sub_new {w : World} {A A' : Option Addr} {n n' c c' : Nat} {xs ys : List Int} (h : Sl w A n c xs) (h' : Sl w A' n' c' ys) (hn : n ≤ 100000000) (hn' : n' ≤ 100000000) (hle : val ys ≤ val xs) :
    Calls Tryz.prog 206 #[.slice A n c, .slice A' n' c'] w (RetSlBN (words (val xs - val ys)) true w) := by
  have C := nat_cmp h h' (by omega) (by omega)
  have hcm : 0 ≤ cmpN (val xs) (val ys) := by have := cmpN_neg (val xs) (val ys); omega
  generalize cmpN (val xs) (val ys) = cm at C hcm
  have hs : sz xs ≤ n := by rw [h.len]; exact sz_le xs
  have S1 := nat_size h (by omega)
  generalize hp : sz xs = p at S1 hs
  have HP := Lib.hid hp
  have T1 := Lib.hid S1
  have HC := Lib.hid C
  have HLE := Lib.hid hle
  clear hp S1 C hle
  have hmk := run_make_row' (P := Tryz.prog) 49 34 (.int .u64 0) 8 Tryz.underlying49 infoW rfl .i64 .i64 p (by omega) (by omega)
  go_enter Tryz.func206, Tryz.ntmps206
  go_wp2_with fail
  refine HC.out.mono ?_
  rintro e w' ⟨rfl, rfl⟩
  go_wp2_with fail
  refine T1.out.mono ?_
  rintro e w' ⟨rfl, rfl⟩
  go_wp2_with fail
  go_loopw [7, 18] (fun cy i wr => ∃ (k : Nat) (c0 : Int) (zs : List Int), k ≤ p ∧ i = .int .i64 k ∧ cy = .int .u64 c0 ∧ SubInv xs ys p k c0 zs ∧ Row 34 wr w.heap.size zs ∧ Below w.heap.size w wr) (fun _ i _ => p - mes i)
  case atStart => exact ⟨0, 0, _, by omega, rfl, rfl, subInv_0 xs ys p, Row.new w 34 p, (Below.refl _ _).alloc (Nat.le_refl _) _⟩
  case round =>
    obtain ⟨k, c0, zs, hk, rfl, rfl, hz, hr, hb⟩ := hrel
    by_cases hk2 : k < p
    · obtain ⟨ba, off, rfl, hba, hca⟩ := (h.below hb).at_ (k := k) (by omega)
      have hac := hca k (by omega)
      rw [← wd_nat] at hac
      have g2 := fun W (hW : Sl W A' n' c' ys) => nat_wordAt hW (by omega) (k : Int) (by omega)
      have hsl' := h'.below hb
      have hux := wd_U h.us (k : Int)
      have huy := wd_U h'.us (k : Int)
      have hst := subInv_step (Dg_U h.us) (Dg_U h'.us) hz hk2
      rw [← wd_nat, ← wd_nat] at hst
      have hl : zs.length = p := hz.1
      have huc : U c0 := by have := hz.2.2.1; unfold U; omega
      have hcell := hr.cell (i := k) (by omega)
      have hfree := hr.free k
      generalize zs.getD k 0 = z0 at hcell
      generalize wd xs k = x at *
      generalize wd ys k = y at *
      have G2 := Lib.hid g2
      have HS := Lib.hid hst
      have HR := Lib.hid hr
      have HSL := Lib.hid hsl'
      have hkn : (k : Int) < (n : Int) := by omega
      clear g2 hst hl hz hr hca hsl'
      go_wp2_with fail
      go_region_with (first | (go_at_call 202; refine (G2.out _ (by exact HSL.out)).mono ?_; rintro e w' ⟨rfl, rfl⟩) | (go_at_call 237; refine (limb_sub x y c0 hux huy huc _).mono ?_; rintro e w' ⟨rfl, rfl⟩))
      all_goals
        go_wp2
        go_roundw
        case rel => exact ⟨k + 1, _, _, by omega, by go_num, rfl, HS.out, HR.out.set k _, (hb.setCell (Nat.le_refl _) _).drew⟩
        case measure => simp [mes, intOf]; omega
    · obtain rfl : k = p := by omega
      have e1 := subInv_end (Dg_U h.us) (Dg_U h'.us) hz (by rw [HP.out]; omega) HLE.out
      have hl : zs.length = k := hz.1
      have hd : Dg W zs := hz.2.1
      have hsl := hr.sl (c := k) (U_Dg hd) (by omega)
      rw [hl] at hsl
      have HC2 := Lib.hid (nat_cut hsl (by omega))
      have HR := Lib.hid hr
      have E1 := Lib.hid e1
      have HL := Lib.hid hl
      clear hsl e1 hl hz hr
      go_wp2_with fail
      refine HC2.out.mono ?_
      rintro e w' ⟨rfl, rfl⟩
      go_wp2_with fail
      go_ret2
      obtain ⟨A2, n2, c2, e2, s2, b2⟩ := retSl_cut (c := k) HR.out hd (by rw [HL.out]; omega) E1.out hb
      injection e2 with e2
      exact ⟨_, _, _, rfl, by injection e2 with a1 a2 a3; subst a1 a2 a3; exact s2, b2, New.some_ (Nat.le_refl _)⟩

theorem nat_sub_yes {w : World} {A A' : Option Addr} {n n' c c' : Nat} {xs ys : List Int} (h : Sl w A n c xs) (h' : Sl w A' n' c' ys) (hn : n ≤ 100000000) (hn' : n' ≤ 100000000) (hle : val ys ≤ val xs) :
    Calls Tryz.prog 206 #[.slice A n c, .slice A' n' c'] w (RetSlB (words (val xs - val ys)) true w) :=
  (nat_sub_new h h' hn hn' hle).mono fun _ _ ⟨A, n, c, he, hs, hb, _⟩ => ⟨A, n, c, he, hs, hb⟩

end Go.Proofs.YthpbaaanbimapaaGreatDoor

namespace Go.Proofs.YthpbaaanbimapaaGreatDoor
set_option maxRecDepth 100000
open Go.RowKit
set_option linter.unusedVariables false
set_option linter.unusedSimpArgs false

theorem sizeW : (Tryz.prog.info? 34).map (·.size) = some 1 := by kernel_rfl
theorem splice_all (ys cs : List Value) (h : cs.length = ys.length) : splice ys 0 cs = cs := by
  unfold splice; simp [h]

set_option maxHeartbeats 400000 in
theorem nat_trim_new {w : World} {A : Option Addr} {n c : Nat} {xs : List Int} (h : Sl w A n c xs) (hn : n ≤ 100000000) :
    Calls Tryz.prog 148 #[.slice A n c] w (RetSlN (words (val xs)) w) := by
  have hs : sz xs ≤ n := by rw [h.len]; exact sz_le xs
  have S1 := nat_size h (by omega)
  have hlen := h.len
  have hw : words (val xs) = xs.take (sz xs) := words_val (Dg_U h.us)
  generalize hp : sz xs = p at S1 hs hw
  have T1 := Lib.hid S1
  have HW := Lib.hid hw
  have HL := Lib.hid hlen
  clear hp S1 hw hlen
  have hmk := run_make_row' (P := Tryz.prog) 49 34 (.int .u64 0) 8 Tryz.underlying49 infoW rfl .i64 .i64 p (by omega) (by omega)
  obtain ⟨X, hX⟩ : ∃ X, X = (xs.take p).map (Value.int .u64) := ⟨_, rfl⟩
  obtain ⟨Z, hZ⟩ : ∃ Z, Z = (List.replicate p (0 : Int)).map (Value.int .u64) := ⟨_, rfl⟩
  have hrow := Row.new w 34 p
  unfold Row at hrow
  rw [← hZ] at hrow
  have hl : (xs.take p).length = p := by have := HL.out; rw [List.length_take]; omega
  have lX : X.length = p := by rw [hX, List.length_map, hl]
  have lZ : Z.length = p := by rw [hZ]; simp
  have oX : ∀ u ∈ X, u.oneCell' = true := by rw [hX]; exact ints_oneCell .u64 _
  have cX : ∀ j v, X[j]? = some v → j < p ∧ v = .int .u64 (xs.getD j 0) := by
    intro j v hv
    have hj : j < X.length := (List.getElem?_eq_some_iff.1 hv).1
    refine ⟨by omega, ?_⟩
    rw [hX] at hv
    have hjx : j < xs.length := by rw [List.length_take] at hl; omega
    simp [List.getElem?_take, show j < p by omega, List.getElem?_eq_getElem hjx] at hv
    rw [← hv, List.getD_eq_getElem?_getD, List.getElem?_eq_getElem hjx]
    rfl
  have HROW := Lib.hid hrow
  have LX := Lib.hid lX
  have LZ := Lib.hid lZ
  have OX := Lib.hid oX
  have CX := Lib.hid cX
  have EX := Lib.hid hX
  clear hrow lX lZ oX cX hl hX hZ
  go_enter Tryz.func148, Tryz.ntmps148
  go_wp2_with fail
  refine T1.out.mono ?_
  rintro e w' ⟨rfl, rfl⟩
  go_wp2_with (with_reducible refine wpList_copy_splice rfl (.tmp 7) (.tmp 8) 49 49 rfl 34 Tryz.underlying49 sizeW (some ⟨w.heap.size, 0, none⟩) A p p n c rfl rfl w.heap.size 0 Z 34 ?hg X ?hn ?hpos ?hfit ?h1 w.heap.size w ?hb (Nat.le_refl _) ?_)
  case hg => exact HROW.out
  case hn => rw [LX.out]; exact (Nat.min_eq_right hs).symm
  case hpos =>
    intro h0
    rw [LX.out] at h0
    obtain ⟨b, off, rfl, hb, hc⟩ := h.at_ (k := 0) (by omega)
    refine ⟨_, rfl, fun j v hv => ?_⟩
    obtain ⟨hj, rfl⟩ := CX.out j v hv
    have e : ((⟨b, off, none⟩ : Addr).add j) = ⟨b, off + j, none⟩ := by
      unfold Addr.add; split
      · subst_vars; rfl
      · rfl
    rw [e, World.cell?_alloc_past _ _ _ hb]
    exact hc j (by omega)
  case hfit => rw [LX.out, LZ.out]; omega
  case h1 => exact OX.out
  case hb => exact (Below.refl _ _).alloc (Nat.le_refl _) _
  intro w1 hg1 hb1
  go_wp2_with fail
  go_ret
  have hl : (xs.take p).length = p := by have := LX.out; rw [EX.out, List.length_map] at this; exact this
  have hrow1 : Row 34 w1 w.heap.size (xs.take p) := by
    have := hg1.out
    rw [splice_all _ _ (by rw [LX.out, LZ.out]), EX.out] at this
    exact this
  have hsl := hrow1.sl (c := p) (fun x hx => h.us x (List.mem_of_mem_take hx)) (by omega)
  rw [hl] at hsl
  refine ⟨_, _, _, rfl, ?_, hb1, New.some_ (Nat.le_refl _)⟩
  rw [HW.out]
  exact hsl

theorem nat_trim {w : World} {A : Option Addr} {n c : Nat} {xs : List Int} (h : Sl w A n c xs) (hn : n ≤ 100000000) :
    Calls Tryz.prog 148 #[.slice A n c] w (RetSl (words (val xs)) w) := (nat_trim_new h hn).mono fun _ _ => RetSlN.old

end Go.Proofs.YthpbaaanbimapaaGreatDoor
