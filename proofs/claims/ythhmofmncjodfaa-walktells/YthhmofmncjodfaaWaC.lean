/-
  What cmp.Compare, slices.Compare, Ahead of package walk and of the document return. Conditions: the slices read as lists of ints.
-/
import Derived.Test.YthhmofmncjodfaaWaB
import Derived.Deep.QuietTactic
import Derived.BigQuiet
namespace Go.Proofs.Ythhmofmncjodfaa
open Go.RowKit
set_option linter.unusedVariables false
set_option linter.unusedSimpArgs false

def cmpI (x y : Int) : Int := if x < y then -1 else if y < x then 1 else 0
def cmpZ : List Int → List Int → Int
  | [], [] => 0
  | [], _ :: _ => -1
  | _ :: _, [] => 1
  | x :: xs, y :: ys => if x < y then -1 else if y < x then 1 else cmpZ xs ys
theorem cmp_lex (a b : List Int) : decide (cmpZ a b < 0) = lexB a b := by
  induction a generalizing b with
  | nil => cases b <;> simp [cmpZ, lexB]
  | cons x xs ih =>
    cases b with
    | nil => simp [cmpZ, lexB]
    | cons y ys =>
      rw [cmpZ, lexB, ← ih ys]
      by_cases h1 : x < y
      · rw [if_pos h1, if_pos h1]; rfl
      · rw [if_neg h1, if_neg h1]
        by_cases h2 : y < x
        · rw [if_pos h2, if_pos h2]; rfl
        · rw [if_neg h2, if_neg h2]
set_option maxHeartbeats 400000 in
theorem c_nan (x : Int) (w : World) : Calls Try.prog 51 #[.int .i64 x] w (Just (.bool false) w) := by
  have hx : (x != x) = false := by simp
  go_enter Try.func51, Try.ntmps51
  go_wp2
  go_ret
  exact ⟨rfl, rfl⟩
set_option maxHeartbeats 400000 in
theorem c_compare (x y : Int) (w : World) : Calls Try.prog 50 #[.int .i64 x, .int .i64 y] w (Just (.int .i64 (cmpI x y)) w) := by
  have H1 := Lib.hid (c_nan x w)
  have H2 := Lib.hid (c_nan y w)
  by_cases h1 : x < y
  · have he : cmpI x y = -1 := by unfold cmpI; rw [if_pos h1]
    rw [he]
    have HE := Lib.hid he
    clear he
    go_enter Try.func50, Try.ntmps50
    go_wp2_with fail
    refine H1.out.mono ?_
    rintro _ _ ⟨rfl, rfl⟩
    go_wp2_with fail
    refine H2.out.mono ?_
    rintro _ _ ⟨rfl, rfl⟩
    go_wp2_with fail
    go_ret
    exact ⟨rfl, rfl⟩
  · by_cases h2 : y < x
    · have he : cmpI x y = 1 := by unfold cmpI; rw [if_neg h1, if_pos h2]
      rw [he]
      clear he
      go_enter Try.func50, Try.ntmps50
      go_wp2_with fail
      refine H1.out.mono ?_
      rintro _ _ ⟨rfl, rfl⟩
      go_wp2_with fail
      refine H2.out.mono ?_
      rintro _ _ ⟨rfl, rfl⟩
      go_wp2_with fail
      go_ret
      exact ⟨rfl, rfl⟩
    · have he : cmpI x y = 0 := by unfold cmpI; rw [if_neg h1, if_neg h2]
      rw [he]
      clear he
      go_enter Try.func50, Try.ntmps50
      go_wp2_with fail
      refine H1.out.mono ?_
      rintro _ _ ⟨rfl, rfl⟩
      go_wp2_with fail
      refine H2.out.mono ?_
      rintro _ _ ⟨rfl, rfl⟩
      go_wp2_with fail
      go_ret
      exact ⟨rfl, rfl⟩
theorem cmpZ_ne {a b : List Int} {k : Nat} (ha : k < a.length) (hb : k < b.length) (h : a.getD k 0 ≠ b.getD k 0) : cmpZ (a.drop k) (b.drop k) = cmpI (a.getD k 0) (b.getD k 0) ∧ cmpI (a.getD k 0) (b.getD k 0) ≠ 0 := by
  rw [drop_consZ ha, drop_consZ hb, cmpZ]
  unfold cmpI
  by_cases h1 : a.getD k 0 < b.getD k 0
  · rw [if_pos h1, if_pos h1]; exact ⟨rfl, by decide⟩
  · rw [if_neg h1, if_neg h1, if_pos (by omega), if_pos (by omega)]; exact ⟨rfl, by decide⟩
theorem cmpZ_eq {a b : List Int} {k : Nat} (ha : k < a.length) (hb : k < b.length) (h : a.getD k 0 = b.getD k 0) : cmpZ (a.drop k) (b.drop k) = cmpZ (a.drop (k + 1)) (b.drop (k + 1)) := by
  rw [drop_consZ ha, drop_consZ hb, cmpZ, if_neg (by omega), if_neg (by omega)]
theorem drop_all {b : List Int} {k : Nat} (h : b.length ≤ k) : b.drop k = [] := List.drop_eq_nil_of_le h
theorem cmpI_self (x : Int) : cmpI x x = 0 := by unfold cmpI; rw [if_neg (by omega), if_neg (by omega)]

set_option maxRecDepth 100000 in
set_option maxHeartbeats 2000000 in
theorem z_compare {w : World} {A B : Option Addr} {n c m e : Nat} {a b : List Int} (h : SlZ w A n c a) (h' : SlZ w B m e b) : Calls Try.prog 47 #[.slice A n c, .slice B m e] w (Just (.int .i64 (cmpZ a b)) w) := by
  have hn := h.small
  have hm := h'.small
  have HL := Lib.hid h.len
  have HL' := Lib.hid h'.len
  go_enter Try.func47, Try.ntmps47
  go_wp2_with fail
  go_loop [11] (fun iv => ∃ k : Nat, k ≤ n ∧ k ≤ m ∧ iv = .int .i64 k ∧ Hid (cmpZ a b = cmpZ (a.drop k) (b.drop k))) (fun iv => n - mes iv)
  case atStart => exact ⟨0, by omega, by omega, rfl, Lib.hid rfl⟩
  case round =>
    obtain ⟨k, hk, hkm, rfl, HP⟩ := hrel
    by_cases hk2 : k < n
    · obtain ⟨g, off, x, hx, rfl, hlt, hi, hc⟩ := h.get hk2
      by_cases hk3 : k < m
      · obtain ⟨g', off', y, hy, rfl, hlt', hi', hc'⟩ := h'.get hk3
        have d1 : decide (m ≤ k) = false := by simpa using hk3
        have C := c_compare x y
        by_cases hxy : x = y
        · subst hxy
          rw [cmpI_self] at C
          have HN := Lib.hid (cmpZ_eq (a := a) (b := b) (k := k) (by rw [HL.out]; exact hk2) (by rw [HL'.out]; exact hk3) (by rw [hx, hy]))
          have HC := Lib.hid C
          clear hx hy C
          go_wp2_with fail
          refine (HC.out _).mono ?_
          rintro _ _ ⟨rfl, rfl⟩
          go_wp2_with fail
          go_round
          case rel => exact ⟨k + 1, by omega, by omega, by go_num, Lib.hid (by rw [HP.out, HN.out])⟩
          case measure => simp [mes, intOf]; omega
        · obtain ⟨e1, e2⟩ := cmpZ_ne (a := a) (b := b) (k := k) (by rw [HL.out]; exact hk2) (by rw [HL'.out]; exact hk3) (by rw [hx, hy]; exact hxy)
          rw [hx, hy] at e1 e2
          have hz : (cmpI x y != 0) = true := by simpa using e2
          have HE := Lib.hid e1
          have HC := Lib.hid C
          clear hx hy C e1 e2 hxy
          go_wp2_with fail
          refine (HC.out _).mono ?_
          rintro _ _ ⟨rfl, rfl⟩
          go_wp2_with fail
          go_ret
          exact ⟨ret1 (by rw [HP.out, HE.out]), rfl⟩
      · have hkm2 : k = m := by omega
        have d1 : decide (m ≤ k) = true := by simp; omega
        have hE : cmpZ (a.drop k) (b.drop k) = 1 := by
          rw [drop_consZ (by rw [HL.out]; exact hk2), drop_all (b := b) (by rw [HL'.out]; omega), cmpZ]
        have HE := Lib.hid hE
        clear hx hE hkm2
        go_wp2_with fail
        go_ret
        exact ⟨ret1 (by rw [HP.out, HE.out]), rfl⟩
    · obtain rfl : k = n := by omega
      by_cases hkm2 : k < m
      · have d1 : decide (k < m) = true := by simpa using hkm2
        have hE : cmpZ (a.drop k) (b.drop k) = -1 := by
          rw [drop_consZ (d := b) (by rw [HL'.out]; exact hkm2), drop_all (b := a) (by rw [HL.out]; omega), cmpZ]
        have HE := Lib.hid hE
        clear hE
        go_wp2_with fail
        go_ret
        exact ⟨ret1 (by rw [HP.out, HE.out]), rfl⟩
      · have d1 : decide (k < m) = false := by simpa using hkm2
        have hE : cmpZ (a.drop k) (b.drop k) = 0 := by
          rw [drop_all (b := b) (by rw [HL'.out]; omega), drop_all (b := a) (by rw [HL.out]; omega), cmpZ]
        have HE := Lib.hid hE
        clear hE
        go_wp2_with fail
        go_ret
        exact ⟨ret1 (by rw [HP.out, HE.out]), rfl⟩

set_option maxHeartbeats 400000 in
theorem wa_ahead {w : World} {A B : Option Addr} {n c m e : Nat} {a b : List Int} (h : SlZ w A n c a) (h' : SlZ w B m e b) : Calls Try.prog 37 #[.slice A n c, .slice B m e] w (Just (.bool (lexB a b)) w) := by
  have C := z_compare h h'
  have hl := cmp_lex a b
  generalize cmpZ a b = z at C hl
  have HC := Lib.hid C
  have HL := Lib.hid hl
  clear C hl
  go_enter Try.func37, Try.ntmps37
  go_wp2_with fail
  refine HC.out.mono ?_
  rintro _ _ ⟨rfl, rfl⟩
  go_wp2_with fail
  go_ret
  exact ⟨retB HL.out, rfl⟩

theorem lexB_ne {a b : List Int} {k : Nat} (ha : k < a.length) (hb : k < b.length) (h : a.getD k 0 ≠ b.getD k 0) : lexB (a.drop k) (b.drop k) = decide (a.getD k 0 < b.getD k 0) := by
  rw [← cmp_lex, (cmpZ_ne ha hb h).1]
  unfold cmpI
  by_cases h1 : a.getD k 0 < b.getD k 0
  · rw [if_pos h1, decide_eq_true h1]; rfl
  · rw [if_neg h1, if_pos (by omega), decide_eq_false h1]; rfl
theorem lexB_eq {a b : List Int} {k : Nat} (ha : k < a.length) (hb : k < b.length) (h : a.getD k 0 = b.getD k 0) : lexB (a.drop k) (b.drop k) = lexB (a.drop (k + 1)) (b.drop (k + 1)) := by
  rw [← cmp_lex, ← cmp_lex, cmpZ_eq ha hb h]
theorem lexB_end {a b : List Int} {k : Nat} (ha : k ≤ a.length) (hb : k ≤ b.length) (h : k = a.length ∨ k = b.length) : lexB (a.drop k) (b.drop k) = decide (a.length < b.length) := by
  rcases h with h | h
  · rw [drop_all (b := a) (by omega)]
    by_cases h2 : k < b.length
    · rw [drop_consZ h2, decide_eq_true (by omega)]; rfl
    · rw [drop_all (b := b) (by omega), decide_eq_false (by omega)]; rfl
  · rw [drop_all (b := b) (by omega)]
    by_cases h2 : k < a.length
    · rw [drop_consZ h2, decide_eq_false (by omega)]; rfl
    · rw [drop_all (b := a) (by omega), decide_eq_false (by omega)]; rfl

set_option maxRecDepth 100000 in
set_option maxHeartbeats 4000000 in
theorem ref_ahead20 {w : World} {A B : Option Addr} {n c m e : Nat} {a b : List Int} (h : SlZ w A n c a) (h' : SlZ w B m e b) : Calls Try.prog 38 #[.slice A n c, .slice B m e] w (RetBl (lexB a b) w) := by
  have hn := h.small
  have hm := h'.small
  have HL := Lib.hid h.len
  have HL' := Lib.hid h'.len
  go_enter Try.func38, Try.ntmps38
  go_wp2_with fail
  go_loopw [5] (fun iv wr => ∃ k : Nat, k ≤ n ∧ k ≤ m ∧ iv = .int .i64 k ∧ Hid (lexB a b = lexB (a.drop k) (b.drop k)) ∧ Below w.heap.size w wr) (fun iv _ => n - mes iv)
  case atStart => exact ⟨0, by omega, by omega, rfl, Lib.hid rfl, Below.refl _ _⟩
  case round =>
    obtain ⟨k, hk, hkm, rfl, HP, hb⟩ := hrel
    by_cases hk2 : k < n
    · have d0 : decide (k < n) = true := by simpa using hk2
      obtain ⟨g, off, x, hx, rfl, hlt, hi, hc⟩ := (h.below hb).get hk2
      by_cases hk3 : k < m
      · obtain ⟨g', off', y, hy, rfl, hlt', hi', hc'⟩ := (h'.below hb).get hk3
        have d1 : decide (k < m) = true := by simpa using hk3
        by_cases hxy : x = y
        · subst hxy
          have hxx : (x == x) = true := by simp
          have HN := Lib.hid (lexB_eq (a := a) (b := b) (k := k) (by rw [HL.out]; exact hk2) (by rw [HL'.out]; exact hk3) (by rw [hx, hy]))
          clear hx hy
          go_wp2_with fail
          go_quiet ((fail))
          all_goals (go_wp2_with fail)
          go_roundw
          case rel => exact ⟨k + 1, by omega, by omega, by go_num, Lib.hid (by rw [HP.out, HN.out]), Below.drewN' hb _⟩
          case measure => simp [mes, intOf]; omega
        · have hE := lexB_ne (a := a) (b := b) (k := k) (by rw [HL.out]; exact hk2) (by rw [HL'.out]; exact hk3) (by rw [hx, hy]; exact hxy)
          rw [hx, hy] at hE
          have hne : (x == y) = false := by simpa using hxy
          have d2 : (k == n) = false := by simp; omega
          have d3 : (k == m) = false := by simp; omega
          have d4 : ((k : Int) == (n : Int)) = false := by simp; omega
          have d5 : ((k : Int) == (m : Int)) = false := by simp; omega
          have HE := Lib.hid hE
          clear hx hy hE hxy
          go_wp2_with fail
          go_quiet ((fail))
          have hb2 := Below.drewN' hb nq
          have hc2 : (wr.drewN nq).cell? ⟨g, off + k, none⟩ = some (.int .i64 x) := hc
          have hc3 : (wr.drewN nq).cell? ⟨g', off' + k, none⟩ = some (.int .i64 y) := hc'
          generalize wr.drewN nq = wq at hb2 hc2 hc3 ⊢
          go_wp2_with fail
          go_quiet ((fail))
          all_goals (go_wp2_with fail)
          go_ret
          exact ⟨retB (by rw [HP.out, HE.out]), Below.drewN' hb2 _⟩
      · have d1 : decide (k < m) = false := by simpa using hk3
        have hkm2 : k = m := by omega
        have d2 : (k == n) = false := by simp; omega
        have d3 : (k == m) = true := by simpa using hkm2
        have d4 : ((k : Int) == (n : Int)) = false := by simp; omega
        have d5 : ((k : Int) == (m : Int)) = true := by simp; omega
        have hE := lexB_end (a := a) (b := b) (k := k) (by rw [HL.out]; omega) (by rw [HL'.out]; omega) (.inr (by rw [HL'.out]; exact hkm2))
        rw [HL.out, HL'.out] at hE
        have HE := Lib.hid hE
        clear hx hE hkm2
        go_wp2_with fail
        go_quiet ((fail))
        have hb2 := Below.drewN' hb nq
        generalize wr.drewN nq = wq at hb2 ⊢
        go_wp2_with fail
        go_ret
        refine ⟨retB ?_, hb2⟩
        rw [HP.out, HE.out]
    · obtain rfl : k = n := by omega
      have d0 : decide (k < k) = false := by simp
      have d2 : (k == k) = true := by simp
      have d4 : ((k : Int) == (k : Int)) = true := by simp
      have hE := lexB_end (a := a) (b := b) (k := k) (by rw [HL.out]; omega) (by rw [HL'.out]; omega) (.inl HL.out.symm)
      rw [HL.out, HL'.out] at hE
      have HE := Lib.hid hE
      clear hE
      go_wp2_with fail
      go_quiet ((fail))
      have hb2 := Below.drewN' hb nq
      generalize wr.drewN nq = wq at hb2 ⊢
      go_wp2_with fail
      go_ret
      refine ⟨retB ?_, hb2⟩
      rw [HP.out, HE.out]

end Go.Proofs.Ythhmofmncjodfaa
