/-
  Rows of structs that a call makes and appends to: what they hold, and that the words of numbers elsewhere stay as they are. No Go function in sight. Conditions: as each lemma says.
-/
import Derived.Test.YtfhihapgjiaobaaGreatRatAddAllB
import Derived.Test.YtfhihapgjiaobaaGreatLnMemAllB
import Derived.Test.YtfhihapgjiaobaaGreatRefGcdAllB
import Derived.Laws.AppendOwn
namespace Go.Proofs.YtfhihapgjiaobaaGreat
set_option maxRecDepth 100000
open Go.RowKit
set_option linter.unusedVariables false
set_option linter.unusedSimpArgs false

set_option maxHeartbeats 1000000 in
theorem plain_long {w : World} {s : Bool} {A A' : Option Addr} {n n' c c' : Nat} (k : Int) :
    Calls Tryz.prog 31 #[.agg #[.bool s, .slice A n c, .slice A' n' c'], .int .i64 k] w (RetBl (decide (k < n ∨ k < n')) w) := by
  by_cases h1 : k < n
  · rw [decide_eq_true (.inl h1)]
    go_enter Tryz.func31, Tryz.ntmps31
    go_wp2_with fail
    go_ret
    exact ⟨rfl, below_alloc _ _⟩
  · have e1 : decide (k < (n : Int)) = false := decide_eq_false h1
    obtain ⟨b, hb⟩ : ∃ b, decide (k < n ∨ k < n') = b := ⟨_, rfl⟩
    have e2 : decide (k < (n' : Int)) = b := by rw [← hb]; simp [h1]
    rw [hb]
    clear hb
    go_enter Tryz.func31, Tryz.ntmps31
    go_wp2_with fail
    go_ret
    exact ⟨rfl, below_alloc _ _⟩

/-- is a number valid? -/
def rightB (s : Bool) (xs ys : List Int) : Bool := decide (sz xs = xs.length ∧ sz ys = ys.length ∧ val ys ≠ 0 ∧ ¬ (s = true ∧ val xs = 0) ∧ Nat.gcd (val xs) (val ys) = 1)
theorem right_no1 {s : Bool} {xs ys : List Int} (h : ¬ sz xs = xs.length) : rightB s xs ys = false := decide_eq_false fun e => h e.1
theorem right_no2 {s : Bool} {xs ys : List Int} (h : ¬ sz ys = ys.length) : rightB s xs ys = false := decide_eq_false fun e => h e.2.1
theorem right_no3 {s : Bool} {xs ys : List Int} (h : val ys = 0) : rightB s xs ys = false := decide_eq_false fun e => e.2.2.1 h
theorem right_no4 {s : Bool} {xs ys : List Int} (h : s = true ∧ val xs = 0) : rightB s xs ys = false := decide_eq_false fun e => e.2.2.2.1 h
theorem right_yes {s : Bool} {xs ys : List Int} (h1 : sz xs = xs.length) (h2 : sz ys = ys.length) (h3 : val ys ≠ 0) (h4 : ¬ (s = true ∧ val xs = 0)) : rightB s xs ys = decide (Nat.gcd (val xs) (val ys) = 1) := by
  unfold rightB
  rw [Bool.eq_iff_iff]
  simp only [decide_eq_true_eq]
  exact ⟨fun e => e.2.2.2.2, fun e => ⟨h1, h2, h3, h4, e⟩⟩
/-- a valid number is a number of Lean's own -/
theorem right_Q {w : World} {s : Bool} {A A' : Option Addr} {n n' c c' N : Nat} {xs ys : List Int} (h : Sl w A n c xs) (h' : Sl w A' n' c' ys) (hn : n ≤ N) (hn' : n' ≤ N) (hr : rightB s xs ys = true) :
    ∃ X, Q w s A n c A' n' c' X ∧ Sz X N ∧ X = rq s (val xs) (val ys) := by
  unfold rightB at hr
  rw [decide_eq_true_eq] at hr
  obtain ⟨h1, h2, h3, h4, h5⟩ := hr
  obtain ⟨r1, r2, r3⟩ := rq_cop' (s := s) h3 h5
  have t1 : words (val xs) = xs := by rw [words_val (Dg_U h.us)]; unfold trim; rw [h1, List.take_length]
  have t2 : words (val ys) = ys := by rw [words_val (Dg_U h'.us)]; unfold trim; rw [h2, List.take_length]
  refine ⟨rq s (val xs) (val ys), ⟨?_, ?_, ?_⟩, ⟨?_, ?_⟩, rfl⟩
  · rw [r3]
    cases s
    · rfl
    · have : val xs ≠ 0 := fun e => h4 ⟨rfl, e⟩
      simp [this]
  · rw [r1, t1]; exact h
  · rw [r2, t2]; exact h'
  · rw [r1]; exact val_lt_pow h.us (by have := h.len; omega)
  · rw [r2]; exact val_lt_pow h'.us (by have := h'.len; omega)
set_option maxRecDepth 100000 in
set_option maxHeartbeats 4000000 in
theorem rat_right {w : World} {s : Bool} {A A' : Option Addr} {n n' c c' N : Nat} {xs ys : List Int} (h : Sl w A n c xs) (h' : Sl w A' n' c' ys) (hn : n ≤ N) (hn' : n' ≤ N) (hN : N ≤ 1000) :
    Calls Tryz.prog 58 #[.agg #[.bool s, .slice A n c, .slice A' n' c']] w (RetBl (rightB s xs ys) w) := by
  have N1 := fun w1 (hb : Below w.heap.size w w1) => nat_right (h.below hb) (by omega)
  have N2 := fun w1 (hb : Below w.heap.size w w1) => nat_right (h'.below hb) (by omega)
  have Z1 := fun w1 (hb : Below w.heap.size w w1) => rat_isZero (h.below hb) (by omega)
  have Z2 := fun w1 (hb : Below w.heap.size w w1) => rat_isZero (h'.below hb) (by omega)
  have CO := fun w1 (hb : Below w.heap.size w w1) => gcd_coprime (N := N) (h.below hb) (h'.below hb) hn hn' (by omega)
  have z1 : val xs = 0 ↔ sz xs = 0 := valB_zero_iff W_pos (Dg_U h.us)
  have z2 : val ys = 0 ↔ sz ys = 0 := valB_zero_iff W_pos (Dg_U h'.us)
  have e1 := h.len
  have e2 := h'.len
  by_cases h1 : sz xs = n
  · rw [decide_eq_true h1] at N1
    have HN1 := Lib.hid N1
    by_cases h2 : sz ys = n'
    · rw [decide_eq_true h2] at N2
      have HN2 := Lib.hid N2
      clear N1 N2
      by_cases h3 : val ys = 0
      · rw [right_no3 h3]
        rw [decide_eq_true h3] at Z2
        have HZ2 := Lib.hid Z2
        clear Z1 Z2 CO z1 z2 h1 h2 h3 e1 e2
        go_enter Tryz.func58, Tryz.ntmps58
        go_wp2_with fail
        refine (HN1.out _ (below_alloc _ _)).mono ?_
        rintro _ _ ⟨rfl, rfl⟩
        go_wp2_with fail
        refine (HN2.out _ (below_alloc _ _)).mono ?_
        rintro _ _ ⟨rfl, rfl⟩
        go_wp2_with fail
        refine (HZ2.out _ (below_alloc _ _)).mono ?_
        rintro _ _ ⟨rfl, rfl⟩
        go_wp2_with fail
        go_ret
        exact ⟨rfl, below_alloc _ _⟩
      · by_cases h4 : s = true ∧ val xs = 0
        · rw [right_no4 h4]
          rw [decide_eq_false h3] at Z2
          rw [decide_eq_true h4.2] at Z1
          have HZ2 := Lib.hid Z2
          have HZ1 := Lib.hid Z1
          obtain ⟨rfl, _⟩ := h4
          clear Z1 Z2 CO z1 z2 h1 h2 h3 e1 e2
          go_enter Tryz.func58, Tryz.ntmps58
          go_wp2_with fail
          refine (HN1.out _ (below_alloc _ _)).mono ?_
          rintro _ _ ⟨rfl, rfl⟩
          go_wp2_with fail
          refine (HN2.out _ (below_alloc _ _)).mono ?_
          rintro _ _ ⟨rfl, rfl⟩
          go_wp2_with fail
          refine (HZ2.out _ (below_alloc _ _)).mono ?_
          rintro _ _ ⟨rfl, rfl⟩
          go_wp2_with fail
          refine (HZ1.out _ (below_alloc _ _)).mono ?_
          rintro _ _ ⟨rfl, rfl⟩
          go_wp2_with fail
          go_ret
          exact ⟨rfl, below_alloc _ _⟩
        · rw [right_yes (by omega) (by omega) h3 h4]
          obtain ⟨bb', hbb⟩ : ∃ b, decide (Nat.gcd (val xs) (val ys) = 1) = b := ⟨_, rfl⟩
          rw [hbb]
          rw [decide_eq_false h3] at Z2
          rw [hbb] at CO
          have HZ2 := Lib.hid Z2
          have HZ1 := Lib.hid Z1
          have HCO := Lib.hid CO
          cases s
          · clear Z1 Z2 CO z1 z2 h1 h2 h3 h4 e1 e2 hbb
            go_enter Tryz.func58, Tryz.ntmps58
            go_wp2_with fail
            refine (HN1.out _ (below_alloc _ _)).mono ?_
            rintro _ _ ⟨rfl, rfl⟩
            go_wp2_with fail
            refine (HN2.out _ (below_alloc _ _)).mono ?_
            rintro _ _ ⟨rfl, rfl⟩
            go_wp2_with fail
            refine (HZ2.out _ (below_alloc _ _)).mono ?_
            rintro _ _ ⟨rfl, rfl⟩
            go_wp2_with fail
            refine (HCO.out _ (below_alloc _ _)).mono ?_
            rintro _ w1 ⟨rfl, b1⟩
            go_wp2_with fail
            go_ret
            exact ⟨rfl, bb (below_alloc _ _) b1⟩
          · rw [decide_eq_false (fun e => h4 ⟨rfl, e⟩)] at HZ1
            clear Z1 Z2 CO z1 z2 h1 h2 h3 h4 e1 e2 hbb
            go_enter Tryz.func58, Tryz.ntmps58
            go_wp2_with fail
            refine (HN1.out _ (below_alloc _ _)).mono ?_
            rintro _ _ ⟨rfl, rfl⟩
            go_wp2_with fail
            refine (HN2.out _ (below_alloc _ _)).mono ?_
            rintro _ _ ⟨rfl, rfl⟩
            go_wp2_with fail
            refine (HZ2.out _ (below_alloc _ _)).mono ?_
            rintro _ _ ⟨rfl, rfl⟩
            go_wp2_with fail
            refine (HZ1.out _ (below_alloc _ _)).mono ?_
            rintro _ _ ⟨rfl, rfl⟩
            go_wp2_with fail
            refine (HCO.out _ (below_alloc _ _)).mono ?_
            rintro _ w1 ⟨rfl, b1⟩
            go_wp2_with fail
            go_ret
            exact ⟨rfl, bb (below_alloc _ _) b1⟩
    · rw [decide_eq_false h2] at N2
      rw [right_no2 (by omega)]
      have HN2 := Lib.hid N2
      clear N1 N2 Z1 Z2 CO z1 z2 h1 h2 e1 e2
      go_enter Tryz.func58, Tryz.ntmps58
      go_wp2_with fail
      refine (HN1.out _ (below_alloc _ _)).mono ?_
      rintro _ _ ⟨rfl, rfl⟩
      go_wp2_with fail
      refine (HN2.out _ (below_alloc _ _)).mono ?_
      rintro _ _ ⟨rfl, rfl⟩
      go_wp2_with fail
      go_ret
      exact ⟨rfl, below_alloc _ _⟩
  · rw [decide_eq_false h1] at N1
    rw [right_no1 (by omega)]
    have HN1 := Lib.hid N1
    clear N1 N2 Z1 Z2 CO z1 z2 h1 e1 e2
    go_enter Tryz.func58, Tryz.ntmps58
    go_wp2_with fail
    refine (HN1.out _ (below_alloc _ _)).mono ?_
    rintro _ _ ⟨rfl, rfl⟩
    go_wp2_with fail
    go_ret
    exact ⟨rfl, below_alloc _ _⟩

set_option maxRecDepth 100000 in
set_option maxHeartbeats 4000000 in
theorem ref_ratRight {w : World} {s : Bool} {A A' : Option Addr} {n n' c c' N : Nat} {xs ys : List Int} (h : Sl w A n c xs) (h' : Sl w A' n' c' ys) (hn : n ≤ N) (hn' : n' ≤ N) (hN : N ≤ 1000) :
    Calls Tryz.prog 37 #[.agg #[.bool s, .slice A n c, .slice A' n' c']] w (RetBl (rightB s xs ys) w) := by
  have N1 := fun w1 (hb : Below w.heap.size w w1) => ref_right (h.below hb) (by omega)
  have N2 := fun w1 (hb : Below w.heap.size w w1) => ref_right (h'.below hb) (by omega)
  have GG := fun w1 (hb : Below w.heap.size w w1) => ref_gcd (N := N) (h.below hb) (h'.below hb) hn hn' hN
  have va : val xs < W ^ N := val_lt_pow h.us (by have := h.len; omega)
  have vb : val ys < W ^ N := val_lt_pow h'.us (by have := h'.len; omega)
  have vg := gcd_lt va vb
  have z1 : val xs = 0 ↔ sz xs = 0 := valB_zero_iff W_pos (Dg_U h.us)
  have z2 : val ys = 0 ↔ sz ys = 0 := valB_zero_iff W_pos (Dg_U h'.us)
  have e1 := h.len
  have e2 := h'.len
  by_cases h1 : sz xs = n
  · rw [decide_eq_true h1] at N1
    have HN1 := Lib.hid N1
    by_cases h2 : sz ys = n'
    · rw [decide_eq_true h2] at N2
      have HN2 := Lib.hid N2
      clear N1 N2
      by_cases h3 : val ys = 0
      · rw [right_no3 h3]
        have hz : n' = 0 := by rw [← h2]; exact z2.1 h3
        subst hz
        clear GG va vb vg z1 z2 h1 h2 h3 e1 e2
        go_enter Tryz.func37, Tryz.ntmps37
        go_wp2_with fail
        refine (HN1.out _ (below_alloc _ _)).mono ?_
        rintro _ _ ⟨rfl, rfl⟩
        go_wp2_with fail
        refine (HN2.out _ (below_alloc _ _)).mono ?_
        rintro _ _ ⟨rfl, rfl⟩
        go_wp2_with fail
        go_ret
        exact ⟨rfl, below_alloc _ _⟩
      · by_cases h4 : s = true ∧ val xs = 0
        · rw [right_no4 h4]
          have hz : n = 0 := by rw [← h1]; exact z1.1 h4.2
          have hz' : ¬ n' = 0 := by rw [← h2]; exact fun e => h3 (z2.2 e)
          have hz2 : ((n' : Int) == 0) = false := by simp; omega
          have hz3 : decide (n' = 0) = false := decide_eq_false hz'
          subst hz
          obtain ⟨rfl, _⟩ := h4
          clear GG va vb vg z1 z2 h1 h2 h3 e1 e2
          go_enter Tryz.func37, Tryz.ntmps37
          go_wp2_with fail
          refine (HN1.out _ (below_alloc _ _)).mono ?_
          rintro _ _ ⟨rfl, rfl⟩
          go_wp2_with fail
          refine (HN2.out _ (below_alloc _ _)).mono ?_
          rintro _ _ ⟨rfl, rfl⟩
          go_wp2_with fail
          go_ret
          exact ⟨rfl, below_alloc _ _⟩
        · rw [right_yes (by omega) (by omega) h3 h4]
          obtain ⟨bb', hbb⟩ : ∃ b, decide (Nat.gcd (val xs) (val ys) = 1) = b := ⟨_, rfl⟩
          rw [hbb]
          have hz' : ¬ n' = 0 := by rw [← h2]; exact fun e => h3 (z2.2 e)
          have hz2 : ((n' : Int) == 0) = false := by simp; omega
          have hz3 : decide (n' = 0) = false := decide_eq_false hz'
          obtain ⟨g, hg⟩ : ∃ g, Nat.gcd (val xs) (val ys) = g := ⟨_, rfl⟩
          rw [hg] at vg GG
          simp only [hg] at hbb
          have ez := cmpN_zero g 1
          rw [hbb] at ez
          have CM := fun (w1 : World) (C C' : Option Addr) (a b a' b' : Nat) (x : Sl w1 C a b (words g)) (y : Sl w1 C' a' b' [1]) => ref_cmp x y (by have := x.small vg; omega) (by have := y.len; simp at this; omega)
          have v1 : val [(1 : Int)] = 1 := rfl
          simp only [val_words, v1] at CM
          generalize cmpN g 1 = cm at CM ez
          have HGG := Lib.hid GG
          have HCM := Lib.hid CM
          cases s
          · clear GG CM va vb vg z1 z2 h1 h2 h3 h4 e1 e2 hbb hg
            go_enter Tryz.func37, Tryz.ntmps37
            go_wp2_with fail
            refine (HN1.out _ (below_alloc _ _)).mono ?_
            rintro _ _ ⟨rfl, rfl⟩
            go_wp2_with fail
            refine (HN2.out _ (below_alloc _ _)).mono ?_
            rintro _ _ ⟨rfl, rfl⟩
            go_wp2_with fail
            refine (HGG.out _ (below_alloc _ _)).mono ?_
            rintro _ w1 ⟨A1, n1, c1, rfl, t1, b1⟩
            go_wp2_with fail
            refine (HCM.out _ _ _ _ _ _ _ (t1.below (below_alloc _ _)) (sl_lit w1 1 U_1)).mono ?_
            rintro _ _ ⟨rfl, rfl⟩
            go_wp2_with fail
            go_ret
            exact ⟨rfl, (bb (below_alloc _ _) b1).alloc (bb (below_alloc _ _) b1).size _⟩
          · have hz : ¬ n = 0 := by rw [← h1]; exact fun e => h4 ⟨rfl, z1.2 e⟩
            have hz4 : ((n : Int) == 0) = false := by simp; omega
            have hz5 : decide (n = 0) = false := decide_eq_false hz
            clear GG CM va vb vg z1 z2 h1 h2 h3 h4 e1 e2 hbb hg
            go_enter Tryz.func37, Tryz.ntmps37
            go_wp2_with fail
            refine (HN1.out _ (below_alloc _ _)).mono ?_
            rintro _ _ ⟨rfl, rfl⟩
            go_wp2_with fail
            refine (HN2.out _ (below_alloc _ _)).mono ?_
            rintro _ _ ⟨rfl, rfl⟩
            go_wp2_with fail
            refine (HGG.out _ (below_alloc _ _)).mono ?_
            rintro _ w1 ⟨A1, n1, c1, rfl, t1, b1⟩
            go_wp2_with fail
            refine (HCM.out _ _ _ _ _ _ _ (t1.below (below_alloc _ _)) (sl_lit w1 1 U_1)).mono ?_
            rintro _ _ ⟨rfl, rfl⟩
            go_wp2_with fail
            go_ret
            exact ⟨rfl, (bb (below_alloc _ _) b1).alloc (bb (below_alloc _ _) b1).size _⟩
    · rw [decide_eq_false h2] at N2
      rw [right_no2 (by omega)]
      have HN2 := Lib.hid N2
      clear N1 N2 GG va vb vg z1 z2 h1 h2 e1 e2
      go_enter Tryz.func37, Tryz.ntmps37
      go_wp2_with fail
      refine (HN1.out _ (below_alloc _ _)).mono ?_
      rintro _ _ ⟨rfl, rfl⟩
      go_wp2_with fail
      refine (HN2.out _ (below_alloc _ _)).mono ?_
      rintro _ _ ⟨rfl, rfl⟩
      go_wp2_with fail
      go_ret
      exact ⟨rfl, below_alloc _ _⟩
  · rw [decide_eq_false h1] at N1
    rw [right_no1 (by omega)]
    have HN1 := Lib.hid N1
    clear N1 N2 GG va vb vg z1 z2 h1 e1 e2
    go_enter Tryz.func37, Tryz.ntmps37
    go_wp2_with fail
    refine (HN1.out _ (below_alloc _ _)).mono ?_
    rintro _ _ ⟨rfl, rfl⟩
    go_wp2_with fail
    go_ret
    exact ⟨rfl, below_alloc _ _⟩

/-- the world behind a result's box and two words -/
theorem lits2 (w : World) (us : Array Value) (x y : Int) (hx : U x) (hy : U y) : ∃ V, ((w.alloc (.cells us 45)).alloc (.cells #[.int .u64 x] 76)).alloc (.cells #[.int .u64 y] 76) = V ∧ Box 45 V w.heap.size us ∧ Sl V (some ⟨w.heap.size + 1, 0, none⟩) 1 1 [x] ∧ Sl V (some ⟨w.heap.size + 1 + 1, 0, none⟩) 1 1 [y] ∧ Below w.heap.size w V := by
  refine ⟨_, rfl, ((Box.new w _ us).alloc _).alloc _, ?_, ?_, ((below_alloc _ _).alloc (by simp) _).alloc (by simp; omega) _⟩
  · have := (sl_lit (w.alloc (.cells us 45)) x hx).below (below_alloc _ (.cells #[.int .u64 y] 76))
    rw [show (w.alloc (.cells us 45)).heap.size = w.heap.size + 1 from by simp] at this
    exact this
  · have := sl_lit ((w.alloc (.cells us 45)).alloc (.cells #[.int .u64 x] 76)) y hy
    rw [show ((w.alloc (.cells us 45)).alloc (.cells #[.int .u64 x] 76)).heap.size = w.heap.size + 1 + 1 from by simp] at this
    exact this

set_option maxRecDepth 100000 in
set_option maxHeartbeats 4000000 in
theorem ref_of (z : Int) (hz1 : -9223372036854775808 ≤ z) (hz2 : z ≤ 9223372036854775807) (w : World) :
    Calls Tryz.prog 17 #[.int .i64 z] w (RetQ (z : Rat) w) := by
  have hu : U (z.natAbs : Int) := by unfold U; omega
  obtain ⟨V, hW, Br, s1, s2, hb0⟩ := lits2 w #[.bool false, .slice none 0 0, .slice none 0 0] (z.natAbs : Int) 1 hu U_1
  have MK := ref_make (N := 1) (decide (z < 0)) s1 s2 (by omega) (by omega) (by omega) (by rw [val_one]; decide)
  rw [val_one, val_one, Int.toNat_natCast, show (1 : Int).toNat = 1 from rfl, of_rq] at MK
  generalize (z : Rat) = X at *
  by_cases hz : z < 0
  · have e : IntKind.u64.wrap (-(IntKind.u64.wrap z)) = (z.natAbs : Int) := by rw [wrapU, wrapU]; omega
    rw [decide_eq_true hz] at MK
    generalize ((z.natAbs : Nat) : Int) = m at *
    have HMK := Lib.hid MK
    have HW := Lib.hid hW
    have HBr := Lib.hid Br
    clear MK hW Br s1 s2 hu
    go_enter Tryz.func17, Tryz.ntmps17
    go_wp2_with fail
    rw [HW.out]
    refine HMK.out.mono ?_
    rintro _ w3 ⟨s3, A3, n3, c3, A4, n4, c4, rfl, q3, x3⟩
    have B3 := HBr.out.below' x3
    obtain ⟨⟨r0, r1, r2⟩, f0, f1, f2⟩ := B3.three
    go_wp2_with fail
    refine bodyPost_ret (v := .agg #[.bool s3, .slice A3 n3 c3, .slice A4 n4 c4]) (by simp [results, Tryz.results17, go_sem, r0, r1, r2]) rfl ?_
    exact ⟨_, _, _, _, _, _, _, rfl, q3.put3 ⟨_, _, _, _, _, _, _, B3⟩, below_put3 (bb hb0 x3) (by omega) (Nat.le_refl _) _ _ _⟩
  · have e : IntKind.u64.wrap z = (z.natAbs : Int) := by rw [wrapU]; omega
    have hzz : ((z.natAbs : Nat) : Int) = z := by omega
    rw [hzz] at hW e
    rw [decide_eq_false hz] at MK
    have HMK := Lib.hid MK
    have HW := Lib.hid hW
    have HBr := Lib.hid Br
    clear MK hW Br s1 s2 hu hzz
    go_enter Tryz.func17, Tryz.ntmps17
    go_wp2_with fail
    rw [HW.out]
    refine HMK.out.mono ?_
    rintro _ w3 ⟨s3, A3, n3, c3, A4, n4, c4, rfl, q3, x3⟩
    have B3 := HBr.out.below' x3
    obtain ⟨⟨r0, r1, r2⟩, f0, f1, f2⟩ := B3.three
    go_wp2_with fail
    refine bodyPost_ret (v := .agg #[.bool s3, .slice A3 n3 c3, .slice A4 n4 c4]) (by simp [results, Tryz.results17, go_sem, r0, r1, r2]) rfl ?_
    exact ⟨_, _, _, _, _, _, _, rfl, q3.put3 ⟨_, _, _, _, _, _, _, B3⟩, below_put3 (bb hb0 x3) (by omega) (Nat.le_refl _) _ _ _⟩

end Go.Proofs.YtfhihapgjiaobaaGreat

namespace Go.Proofs.YtfhihapgjiaobaaGreat
set_option maxRecDepth 100000
open Go.RowKit
set_option linter.unusedVariables false
set_option linter.unusedSimpArgs false

def vq (q : Bool × List Int × List Int) : Bool := rightB q.1 q.2.1 q.2.2
def nq (q : Bool × List Int × List Int) : Bool := decide (q.1 = false ∧ q.2.1 = [] ∧ q.2.2 = [])
noncomputable def fitsB (x : PI) (n : Nat) : Bool := @decide (fits vq nq x n) (Classical.propDecidable _)
noncomputable def progB (l : List PI) : Bool := @decide (IsProg vq nq l) (Classical.propDecidable _)
theorem fitsB_iff (x : PI) (n : Nat) : fitsB x n = true ↔ fits vq nq x n := by unfold fitsB; exact @decide_eq_true_iff _ (Classical.propDecidable _)
theorem progB_iff (l : List PI) : progB l = true ↔ IsProg vq nq l := by unfold progB; exact @decide_eq_true_iff _ (Classical.propDecidable _)
theorem progB_false {l : List PI} (h : ¬ IsProg vq nq l) : progB l = false := by unfold progB; exact @decide_eq_false _ (Classical.propDecidable _) h
theorem fitsB_of {x : PI} {n : Nat} {b : Bool} (h : fits vq nq x n ↔ b = true) : fitsB x n = b := by
  rw [Bool.eq_iff_iff, fitsB_iff]; exact h
theorem fits_const {a b : Int} {q : Bool × List Int × List Int} {n : Nat} : fitsB ⟨2, a, b, q⟩ n = (decide (a = 0) && (decide (b = 0) && vq q)) := by
  refine fitsB_of ?_
  unfold fits
  simp
theorem fits_full {op a b : Int} {q : Bool × List Int × List Int} {n : Nat} (h2 : ¬ op = 2) (h : nq q = false) : fitsB ⟨op, a, b, q⟩ n = false := by
  refine fitsB_of ?_
  unfold fits
  simp [h2, h]
theorem fits_input {a b : Int} {q : Bool × List Int × List Int} {n : Nat} (h : nq q = true) : fitsB ⟨1, a, b, q⟩ n = (decide (0 ≤ a ∧ a < 65536) && decide (b = 0)) := by
  refine fitsB_of ?_
  unfold fits
  simp [h, and_assoc]
theorem fits_one {op a b : Int} {q : Bool × List Int × List Int} {n : Nat} (h2 : ¬ op = 2) (h1 : ¬ op = 1) (ha : arity op = 1) (h : nq q = true) : fitsB ⟨op, a, b, q⟩ n = (decide (0 ≤ a ∧ a < (n : Int)) && decide (b = 0)) := by
  refine fitsB_of ?_
  unfold fits
  simp [h2, h1, h, ha, and_assoc]
theorem fits_two {op a b : Int} {q : Bool × List Int × List Int} {n : Nat} (h2 : ¬ op = 2) (h1 : ¬ op = 1) (ha : arity op = 2) (h : nq q = true) : fitsB ⟨op, a, b, q⟩ n = (decide (0 ≤ a ∧ a < (n : Int)) && decide (0 ≤ b ∧ b < (n : Int))) := by
  refine fitsB_of ?_
  unfold fits
  simp [h2, h1, h, ha, and_assoc]
theorem fits_none {op a b : Int} {q : Bool × List Int × List Int} {n : Nat} (h2 : ¬ op = 2) (h1 : ¬ op = 1) (ha : arity op = -1) : fitsB ⟨op, a, b, q⟩ n = false := by
  refine fitsB_of ?_
  unfold fits
  simp [h2, h1, ha]
theorem ar_op {op : Int} (h2 : ¬ op = 2) (h1 : ¬ op = 1) : arity op = 1 ∨ arity op = 2 ∨ arity op = -1 := by
  rcases ar_cases op with ⟨c, d⟩ | ⟨c, d1, d2⟩ | ⟨c, d1, d2⟩ | ⟨c, d1, d2⟩
  · omega
  · exact .inl c
  · exact .inr (.inl c)
  · exact .inr (.inr c)
/-- an instruction's number -/
theorem nq_len {w : World} {q : RQ} (h : q.ok w) : nq (q.s, q.z, q.z') = decide (q.s = false ∧ q.n = 0 ∧ q.n' = 0) := by
  unfold nq
  have h1 := h.1.len
  have h2 := h.2.1.len
  rw [h1, h2]
  simp [List.length_eq_zero_iff]
/-- the numbers have at most N words -/
def Shrt (N : Nat) (xs : List RI) : Prop := ∀ x ∈ xs, x.q.n ≤ N ∧ x.q.n' ≤ N

end Go.Proofs.YtfhihapgjiaobaaGreat

namespace Go.Proofs.YtfhihapgjiaobaaGreat
set_option maxRecDepth 100000
open Go.RowKit
set_option linter.unusedVariables false
set_option linter.unusedSimpArgs false

def bitsQ (X : Rat) : Int := max (blen X.num.natAbs : Int) (blen X.den)
/-- a value that is not too great -/
def big (r : Except Int Rat) : Except Int Rat := match r with
  | .error e => .error e
  | .ok X => if 4096 < bitsQ X then .error 5 else .ok X
theorem big_err (e : Int) : big (.error e) = .error e := rfl
theorem big_no {X : Rat} (h : 4096 < bitsQ X) : big (.ok X) = .error 5 := by show (if _ then _ else _) = _; rw [if_pos h]
theorem big_yes {X : Rat} (h : ¬ 4096 < bitsQ X) : big (.ok X) = .ok X := by show (if _ then _ else _) = _; rw [if_neg h]
theorem lt_W {n N : Nat} (h : blen n ≤ 64 * N) : n < W ^ N := by
  have e : W ^ N = 2 ^ (64 * N) := by rw [show W = 2 ^ 64 from rfl, ← Nat.pow_mul]
  rw [e]
  exact Nat.lt_of_lt_of_le (blen_lt _) (Nat.pow_le_pow_right (by omega) h)
theorem sz_of_bits {X : Rat} (h : ¬ 4096 < bitsQ X) : Sz X 64 := by
  unfold bitsQ at h
  exact ⟨lt_W (by omega), lt_W (by omega)⟩
/-- the number that a sign and two lists of words say -/
def qval (q : Bool × List Int × List Int) : Rat := rq q.1 (val q.2.1) (val q.2.2)
/-- what an instruction comes to, by the values of those ahead; fs: the forms that are left -/
def raw (ins fs : List Rat) (x : PI) (v : List Rat) : Except Int Rat :=
  if x.op = 1 then (if x.a.toNat < ins.length then .ok (ins.getD x.a.toNat 0) else .error 11)
  else if x.op = 2 then .ok (qval x.q)
  else if x.op = 3 then .ok (-(v.getD x.a.toNat 0))
  else if x.op = 4 then .ok (v.getD x.a.toNat 0 + v.getD x.b.toNat 0)
  else if x.op = 5 then .ok (v.getD x.a.toNat 0 - v.getD x.b.toNat 0)
  else if x.op = 6 then .ok (v.getD x.a.toNat 0 * v.getD x.b.toNat 0)
  else if x.op = 7 then (if v.getD x.b.toNat 0 = 0 then .error 4 else .ok (v.getD x.a.toNat 0 / v.getD x.b.toNat 0))
  else if 0 < fs.length then .ok (fs.getD 0 0) else .error 6
/-- one step of the whole -/
def exSt (ins forms : List Rat) (l : List PI) (i : Nat) (x : PI) (v : List Rat) : Except Int Rat := big (raw ins (forms.drop (countTo isF l i)) x v)
section
variable {ins fs v : List Rat} {a b : Int} {q : Bool × List Int × List Int}
theorem raw_in (h : a.toNat < ins.length) : raw ins fs ⟨1, a, b, q⟩ v = .ok (ins.getD a.toNat 0) := by unfold raw; rw [if_pos rfl, if_pos h]
theorem raw_in_no (h : ¬ a.toNat < ins.length) : raw ins fs ⟨1, a, b, q⟩ v = .error 11 := by unfold raw; rw [if_pos rfl, if_neg h]
theorem raw_const : raw ins fs ⟨2, a, b, q⟩ v = .ok (qval q) := rfl
theorem raw_neg : raw ins fs ⟨3, a, b, q⟩ v = .ok (-(v.getD a.toNat 0)) := rfl
theorem raw_add : raw ins fs ⟨4, a, b, q⟩ v = .ok (v.getD a.toNat 0 + v.getD b.toNat 0) := rfl
theorem raw_sub : raw ins fs ⟨5, a, b, q⟩ v = .ok (v.getD a.toNat 0 - v.getD b.toNat 0) := rfl
theorem raw_mul : raw ins fs ⟨6, a, b, q⟩ v = .ok (v.getD a.toNat 0 * v.getD b.toNat 0) := rfl
theorem raw_div (h : ¬ v.getD b.toNat 0 = 0) : raw ins fs ⟨7, a, b, q⟩ v = .ok (v.getD a.toNat 0 / v.getD b.toNat 0) := by
  show (if v.getD b.toNat 0 = 0 then _ else _) = _; rw [if_neg h]
theorem raw_div_no (h : v.getD b.toNat 0 = 0) : raw ins fs ⟨7, a, b, q⟩ v = .error 4 := by
  show (if v.getD b.toNat 0 = 0 then _ else _) = _; rw [if_pos h]
theorem raw_form {op : Int} (hf : isForm op = true) (h : 0 < fs.length) : raw ins fs ⟨op, a, b, q⟩ v = .ok (fs.getD 0 0) := by
  unfold isForm at hf
  simp at hf
  unfold raw
  simp only
  rw [if_neg (by omega), if_neg (by omega), if_neg (by omega), if_neg (by omega), if_neg (by omega), if_neg (by omega), if_neg (by omega), if_pos h]
theorem raw_form_no {op : Int} (hf : isForm op = true) (h : ¬ 0 < fs.length) : raw ins fs ⟨op, a, b, q⟩ v = .error 6 := by
  unfold isForm at hf
  simp at hf
  unfold raw
  simp only
  rw [if_neg (by omega), if_neg (by omega), if_neg (by omega), if_neg (by omega), if_neg (by omega), if_neg (by omega), if_neg (by omega), if_neg h]
end
/-- all of these numbers are below W^N -/
def AllSz (N : Nat) (v : List Rat) : Prop := ∀ X ∈ v, Sz X N
theorem AllSz.at_ {N : Nat} {v : List Rat} (h : AllSz N v) {i : Nat} (hi : i < v.length) : Sz (v.getD i 0) N := by
  rw [List.getD_eq_getElem?_getD, List.getElem?_eq_getElem hi]; exact h _ (List.getElem_mem hi)
theorem AllSz.snoc {N : Nat} {v : List Rat} {X : Rat} (h : AllSz N v) (hX : Sz X N) : AllSz N (v ++ [X]) := by
  intro Y hY
  rcases List.mem_append.1 hY with hY | hY
  · exact h Y hY
  · rw [List.mem_singleton.1 hY]; exact hX
theorem sz_zero (N : Nat) (h : 0 < N) : Sz 0 N := by
  unfold Sz
  have h1 : 1 < W ^ N := Nat.one_lt_pow (by omega) (by decide)
  exact ⟨by simpa using Nat.lt_trans Nat.zero_lt_one h1, h1⟩
/-- forms that are used up -/
theorem forms_next {l : List PI} {i : Nat} {forms : List Rat} (h : isF (l.getD i PI.nil) = true) : forms.drop (countTo isF l (i + 1)) = (forms.drop (countTo isF l i)).drop 1 := by
  rw [count_yes h, List.drop_drop]
theorem forms_same {l : List PI} {i : Nat} {forms : List Rat} (h : isF (l.getD i PI.nil) = false) : forms.drop (countTo isF l (i + 1)) = forms.drop (countTo isF l i) := by
  rw [count_no h]
end Go.Proofs.YtfhihapgjiaobaaGreat

namespace Go.Proofs.YtfhihapgjiaobaaGreat
set_option maxRecDepth 100000
open Go.RowKit
set_option linter.unusedVariables false
set_option linter.unusedSimpArgs false

theorem flat_len {V : Type} {cells : V → List Value} {k : Nat} : ∀ (xs : List V), (∀ x ∈ xs, (cells x).length = k) → (xs.flatMap cells).length = xs.length * k
  | [], _ => by simp
  | x :: xs, h => by
    rw [List.flatMap_cons, List.length_append, h x (by simp), flat_len xs (fun y hy => h y (by simp [hy])), List.length_cons, Nat.add_mul]
    omega
theorem flat_at {V : Type} {cells : V → List Value} {k : Nat} : ∀ (xs : List V), (∀ x ∈ xs, (cells x).length = k) → ∀ j i, i < k → (xs.flatMap cells)[j * k + i]? = (xs[j]?).bind fun x => (cells x)[i]?
  | [], _, j, i, _ => by simp
  | x :: xs, h, 0, i, hi => by
    rw [List.flatMap_cons, Nat.zero_mul, Nat.zero_add, List.getElem?_append_left (by rw [h x (by simp)]; exact hi)]; rfl
  | x :: xs, h, j + 1, i, hi => by
    have hx := h x (by simp)
    rw [List.flatMap_cons, List.getElem?_append_right (by rw [hx, Nat.add_mul]; omega), hx, show (j + 1) * k + i - k = j * k + i by rw [Nat.add_mul]; omega,
      flat_at xs (fun y hy => h y (by simp [hy])) j i hi]
    rfl
/-- no word -/
def NoW (u : Value) : Prop := ∀ x : Int, u ≠ .int .u64 x
def NoWAt (w : World) (g : Nat) : Prop := ∀ (i : Nat) (x : Int), w.cell? ⟨g, i, none⟩ ≠ some (.int .u64 x)
/-- the slice value v owns, from block B on, the elements xs, of k cells each, none a word -/
def OwnC (k : Nat) {V : Type} (cells : V → List Value) (t : TypeId) (B : Nat) (w : World) (v : Value) (xs : List V) : Prop :=
  (∀ x ∈ xs, (cells x).length = k) ∧ ((v = .slice none 0 0 ∧ xs = []) ∨
    ∃ g cap cur, v = .slice (some ⟨g, 0, none⟩) xs.length cap ∧ B ≤ g ∧ w.heap[g]? = some (.cells cur t (0, 0)) ∧ xs.length ≤ cap ∧ cap ≤ maxLen ∧ cur.size = cap * k ∧
      cur.toList.take (xs.length * k) = xs.flatMap cells ∧ ∀ u ∈ cur.toList, NoW u)
section
variable {k : Nat} {V : Type} {cells : V → List Value} {t : TypeId} {B : Nat} {w w' : World} {v : Value} {xs : List V}
theorem OwnC.nil : OwnC k cells t B w (.slice none 0 0) [] := ⟨by simp, .inl ⟨rfl, rfl⟩⟩
theorem OwnC.form (h : OwnC k cells t B w v xs) : ∃ A c, v = .slice A xs.length c ∧ xs.length ≤ c ∧ c ≤ maxLen := by
  rcases h with ⟨_, ⟨rfl, rfl⟩ | ⟨g, cap, cur, rfl, _, _, h1, h2, _⟩⟩
  · exact ⟨none, 0, rfl, Nat.le_refl _, by unfold maxLen; omega⟩
  · exact ⟨_, _, rfl, h1, h2⟩
theorem OwnC.own (h : OwnC k cells t B w v xs) : w.ownsRow B t k v xs.length (xs.flatMap cells) := by
  refine ⟨flat_len xs h.1, ?_⟩
  rcases h.2 with ⟨rfl, rfl⟩ | ⟨g, cap, cur, e, h1, h2, h3, h4, h5, h6, _⟩
  · exact .inl ⟨rfl, rfl⟩
  · exact .inr ⟨g, cap, cur, e, h1, h2, h3, h4, h5, h6⟩
theorem OwnC.noW (h : OwnC k cells t B w v xs) : ∀ g, v.ownBlock = some g → NoWAt w g := by
  intro g hg
  rcases h.2 with ⟨rfl, rfl⟩ | ⟨g', cap, cur, rfl, h1, h2, h3, h4, h5, h6, h7⟩
  · cases hg
  · have e : g' = g := by simpa [Value.ownBlock] using hg
    subst e
    intro i x hx
    rw [cell_of_row w g' i cur t (0, 0) h2] at hx
    have hm : (Value.int .u64 x) ∈ cur := Array.mem_of_getElem? hx
    exact h7 _ (by simpa using hm) x rfl
theorem OwnC.below (h : OwnC k cells t B w v xs) (hb : Below w.heap.size w w') : OwnC k cells t B w' v xs := by
  refine ⟨h.1, ?_⟩
  rcases h.2 with h2 | ⟨g, cap, cur, hv, hg, hh, r⟩
  · exact .inl h2
  · have hlt : g < w.heap.size := by
      rcases Nat.lt_or_ge g w.heap.size with h9 | h9
      · exact h9
      · rw [Array.getElem?_eq_none h9] at hh; cases hh
    exact .inr ⟨g, cap, cur, hv, hg, (hb.block g hlt).trans hh, r⟩
theorem OwnC.slc {ok : World → V → Prop} {A : Option Addr} {n c : Nat} (h : OwnC k cells t B w (.slice A n c) xs) (hok : ∀ x ∈ xs, ok w x) : SlC k cells ok w A n c xs := by
  rcases h with ⟨hl, ⟨e, rfl⟩ | ⟨g, cap, cur, e, h1, h2, h3, h4, h5, h6, _⟩⟩
  · injection e with e1 e2 e3
    subst e1 e2 e3
    exact ⟨⟨rfl, Nat.le_refl _, by unfold maxLen; omega, by simp⟩, fun h0 => absurd h0 (by omega)⟩
  · injection e with e1 e2 e3
    subst e1 e2 e3
    have hlt : g < w.heap.size := by
      rcases Nat.lt_or_ge g w.heap.size with h9 | h9
      · exact h9
      · rw [Array.getElem?_eq_none h9] at h2; cases h2
    refine ⟨⟨rfl, h3, h4, fun x hx => ⟨hok x hx, hl x hx⟩⟩, fun h0 => ⟨g, 0, rfl, hlt, fun j hj i hi => ?_⟩⟩
    rw [← flat_at xs hl j i hi, ← h6, cell_of_row w g _ cur t (0, 0) h2, Nat.zero_add, List.getElem?_take, if_pos]
    · simp
    · have : (j + 1) * k ≤ xs.length * k := Nat.mul_le_mul_right _ hj
      rw [Nat.add_mul] at this
      omega
/-- the words of a number elsewhere stay -/
theorem Sl.grownC {w1 : World} {r : Option Nat} {A : Option Addr} {n c : Nat} {zs : List Int} (s : Sl w A n c zs) (hg : w.grownBy w1 r) (hr : ∀ g, r = some g → NoWAt w g) : Sl w1 A n c zs := by
  refine ⟨s.1, fun h0 => ?_⟩
  obtain ⟨b, off, e, hlt, hc⟩ := s.2 h0
  have hne : some b ≠ r := by
    intro e2
    have := hc 0 h0
    exact hr b e2.symm _ _ this
  have hsz := hg.size
  refine ⟨b, off, e, by omega, fun j hj => ?_⟩
  have hbl := hg.block b hlt hne
  have e1 : w1.cell? ⟨b, off + j, none⟩ = w.cell? ⟨b, off + j, none⟩ := World.cell?_of_block (a := ⟨b, off + j, none⟩) hbl
  rw [e1]
  exact hc j hj
theorem RQ.grownC {w1 : World} {r : Option Nat} {x : RQ} (s : x.ok w) (hg : w.grownBy w1 r) (hr : ∀ g, r = some g → NoWAt w g) : x.ok w1 := ⟨s.1.grownC hg hr, s.2.1.grownC hg hr, s.2.2⟩
theorem RI.grownC {w1 : World} {r : Option Nat} {x : RI} (s : x.ok w) (hg : w.grownBy w1 r) (hr : ∀ g, r = some g → NoWAt w g) : x.ok w1 := ⟨s.1, s.2.1, s.2.2.1, RQ.grownC s.2.2.2 hg hr⟩
end
theorem mem_zeroCells {z : Array Value} {n : Nat} (hz : 0 < z.size) {u : Value} (h : u ∈ (Builtin.zeroCells z n).toList) : u ∈ z.toList := by
  unfold Builtin.zeroCells at h
  simp only [Array.toList_map, List.mem_map] at h
  obtain ⟨i, _, rfl⟩ := h
  have hlt := Nat.mod_lt i hz
  rw [getElem!_pos z (i % z.size) hlt]
  simp
/-- append of one element -/
theorem run_append_C {P : Program} (w : World) {V : Type} {k : Nat} {cells : V → List Value} (B : Nat) (t ty e : TypeId) (i : TypeInfo) (z : Value) (bytes : Nat) (ht : P.underlying t = some (.slice e)) (hi : P.info? e = some i) (hz : i.zero = some z)
    (hsize : i.size = k) (hby : i.bytes = bytes) (hzs : z.cells.size = k) (hsz : 0 < k) (hzw : ∀ u ∈ z.cells.toList, NoW u)
    (v : Value) (xs : List V) (hown : OwnC k cells e B w v xs)
    (a : Addr) (c : Nat) (y : V) (hl : (cells y).length = k) (hnews : ∀ j u, (cells y)[j]? = some u → w.cell? (a.add j) = some u) (h1 : ∀ u ∈ cells y, u.oneCell' = true) (hyw : ∀ u ∈ cells y, NoW u)
    (h63 : xs.length + 1 ≤ maxLen) (hbytes : (xs.length + 1) * bytes ≤ 140737488355328) (hbase : B ≤ w.heap.size) :
    ∃ v' w', (Builtin.append_ #[t, t] ty #[v, .slice (some a) 1 c]).run P w = .ok v' w' ∧ OwnC k cells e B w' v' (xs ++ [y]) ∧ w.grownBy w' v.ownBlock := by
  subst hsize
  subst hby
  have hl' : (cells y).length = 1 * i.size := by omega
  have hsmall : xs.length + 1 ≤ 9223372036854775807 := by simp only [maxLen] at h63; omega
  have hown2 := hown.own
  have hfl := hown2.1
  have hall : ∀ x ∈ xs ++ [y], (cells x).length = i.size := by
    intro x hx
    rcases List.mem_append.1 hx with hx | hx
    · exact hown.1 x hx
    · rw [List.mem_singleton.1 hx]; exact hl
  have hfm : (xs ++ [y]).flatMap cells = xs.flatMap cells ++ cells y := by rw [List.flatMap_append]; simp
  have hlen : (xs.flatMap cells ++ cells y).length = (xs.length + 1) * i.size := by rw [List.length_append, hfl, hl, Nat.add_mul]; omega
  have hxw : ∀ u ∈ xs.flatMap cells, NoW u := by
    rcases hown.2 with ⟨_, rfl⟩ | ⟨g, cap, cur, _, _, _, _, _, _, h6, h7⟩
    · simp
    · intro u hu
      rw [← h6] at hu
      exact h7 u (List.mem_of_mem_take hu)
  have grown : ∀ (old : Nat), old < xs.length + 1 → ∀ (row : Option Nat),
      OwnC i.size cells e B (w.drew.alloc (.cells ((xs.flatMap cells).toArray ++ (cells y).toArray ++ Builtin.zeroCells z.cells (grownCap w (xs.length + 1) old e - (xs.length + 1))) e))
        (.slice (some ⟨w.heap.size, 0, none⟩) (xs.length + 1) (grownCap w (xs.length + 1) old e)) (xs ++ [y]) ∧
      w.grownBy (w.drew.alloc (.cells ((xs.flatMap cells).toArray ++ (cells y).toArray ++ Builtin.zeroCells z.cells (grownCap w (xs.length + 1) old e - (xs.length + 1))) e)) row := by
    intro old ho row
    have hge := grownCap_ge w (xs.length + 1) old e
    have hcm : grownCap w (xs.length + 1) old e ≤ maxLen := grownCap_le_maxLen w (xs.length + 1) old e h63
    refine ⟨⟨hall, .inr ⟨w.heap.size, _, _, by rw [List.length_append]; rfl, hbase, heap_alloc_new w.drew _, by rw [List.length_append]; exact hge, hcm, ?_, ?_, ?_⟩⟩, ⟨rfl, rfl, rfl, by simp, fun k hk _ => _root_.Go.heap_alloc_old w.drew _ hk⟩⟩
    · simp only [Array.size_append, List.size_toArray, size_zeroCells, hzs, hfl, hl, ← Nat.add_mul]
      rw [show xs.length * i.size + i.size = (xs.length + 1) * i.size by rw [Nat.add_mul]; omega, ← Nat.add_mul]
      congr 1
      omega
    · simp only [Array.toList_append, List.append_assoc]
      rw [← List.append_assoc, hfm, show (xs ++ [y]).length = xs.length + 1 by simp, ← hlen]
      exact List.take_left
    · intro u hu
      simp only [Array.toList_append, List.mem_append] at hu
      rcases hu with (hu | hu) | hu
      · exact hxw u hu
      · exact hyw u hu
      · exact hzw u (mem_zeroCells (by omega) hu)
  rcases hown.2 with ⟨rfl, rfl⟩ | ⟨g, cap, cur, rfl, hbg, hg, hnc, hcm, hcs, htake, hcw⟩
  · have hr := run_append_nil (P := P) w t ty e i z ht hi hz a 1 c (cells y) hl' hnews (by omega) (by omega) (by have hb := hbytes; simp only [List.length_nil, Nat.zero_add] at hb; omega)
    have hgr := grown 0 (by simp) (Value.ownBlock (.slice none 0 0))
    simp only [List.length_nil, Nat.zero_add, List.nil_append, List.flatMap_nil, Array.empty_append] at hgr ⊢
    exact ⟨_, _, hr, hgr.1, hgr.2⟩
  · by_cases hroom : xs.length + 1 ≤ cap
    · have hfit : xs.length * i.size + (cells y).length ≤ cur.size := by
        have := Nat.mul_le_mul_right i.size hroom
        rw [Nat.add_mul] at this
        rw [hl, hcs]; omega
      have hr := run_append_room (P := P) w t ty e i ht hi g xs.length cap cur hg a 1 c (cells y) hl' hnews h1 hroom hfit
      refine ⟨_, _, hr, ⟨hall, .inr ⟨g, cap, _, by rw [List.length_append]; rfl, hbg, setRow_heap w g cur _ e _ hg, by rw [List.length_append]; exact hroom, hcm, ?_, ?_, ?_⟩⟩, ⟨rfl, rfl, rfl, by simp, fun k _ hk => setRow_other w g k _ (fun e => hk (by simp [Value.ownBlock, e]))⟩⟩
      · simp only [List.size_toArray, List.length_append, List.length_take, List.length_drop, Array.length_toList]
        omega
      · rw [htake, hfm, show (xs ++ [y]).length = xs.length + 1 by simp, ← hlen]
        exact List.take_left
      · intro u hu
        simp only [List.mem_append] at hu
        rcases hu with (hu | hu) | hu
        · exact hcw u (List.mem_of_mem_take hu)
        · exact hyw u hu
        · exact hcw u (List.mem_of_mem_drop hu)
    · have holds : ∀ j u, (xs.flatMap cells)[j]? = some u → w.cell? ((⟨g, 0, none⟩ : Addr).add j) = some u := hown2.cells (g := g) rfl
      have hr := run_append_grow (P := P) w t ty e i z ht hi hz ⟨g, 0, none⟩ xs.length cap (xs.flatMap cells) hfl holds a 1 c (cells y) hl' hnews (by omega) (by omega) (growslice_fits (by omega) hbytes)
      have hgr := grown cap (by omega) (Value.ownBlock (.slice (some ⟨g, 0, none⟩) xs.length cap))
      exact ⟨_, _, hr, hgr.1, hgr.2⟩
theorem wp_append_C {P : Program} (w : World) {V : Type} {k : Nat} {cells : V → List Value} {o : Oper} {a : Act} {K : Act → World → Prop} {Q : Exit → Act → World → Prop} (s x : Operand) (t : TypeId)
    (ho : o.op = .call { callee := .builtin .append, args := #[s, x], argTypes := #[t, t] })
    (B : Nat) (e : TypeId) (i : TypeInfo) (z : Value) (bytes : Nat) (ht : P.underlying t = some (.slice e)) (hi : P.info? e = some i) (hz : i.zero = some z)
    (hsize : i.size = k) (hby : i.bytes = bytes) (hzs : z.cells.size = k) (hsz : 0 < k) (hzw : ∀ u ∈ z.cells.toList, NoW u)
    (v : Value) (xs : List V) (hs : a.eval s = v) (hown : OwnC k cells e B w v xs)
    (ad : Addr) (c : Nat) (y : V) (hx : a.eval x = .slice (some ad) 1 c) (hl : (cells y).length = k) (hnews : ∀ j u, (cells y)[j]? = some u → w.cell? (ad.add j) = some u) (h1 : ∀ u ∈ cells y, u.oneCell' = true) (hyw : ∀ u ∈ cells y, NoW u)
    (h63 : xs.length + 1 ≤ maxLen) (hbytes : (xs.length + 1) * bytes ≤ 140737488355328) (hbase : B ≤ w.heap.size)
    (h : ∀ v' w', OwnC k cells e B w' v' (xs ++ [y]) → w.grownBy w' v.ownBlock → K (a.put o.dst v') w') : o.wp P a w K Q := by
  obtain ⟨v', w', hr, h2, h3⟩ := run_append_C (P := P) w B t o.type e i z bytes ht hi hz hsize hby hzs hsz hzw v xs hown ad c y hl hnews h1 hyw h63 hbytes hbase
  unfold Oper.wp execOp
  simp only [ho, resolve, invoke, builtin, Sem.run_bind, Sem.run_pure, Result.andThen_ok, List.map_toArray, List.map_cons, List.map_nil, hs, hx, hr]
  exact h v' w' h2 h3
theorem wpList_append_C {P : Program} (w : World) {V : Type} {k : Nat} {cells : V → List Value} {ops : Array Oper} {rest : List Oper} {o : Oper} {a : Act} {Q : Exit → Act → World → Prop} (hgd : o.guard = none) (s x : Operand) (t : TypeId)
    (ho : o.op = .call { callee := .builtin .append, args := #[s, x], argTypes := #[t, t] })
    (B : Nat) (e : TypeId) (i : TypeInfo) (z : Value) (bytes : Nat) (ht : P.underlying t = some (.slice e)) (hi : P.info? e = some i) (hz : i.zero = some z)
    (hsize : i.size = k) (hby : i.bytes = bytes) (hzs : z.cells.size = k) (hsz : 0 < k) (hzw : ∀ u ∈ z.cells.toList, NoW u)
    (v : Value) (xs : List V) (hs : a.eval s = v) (hown : OwnC k cells e B w v xs)
    (ad : Addr) (c : Nat) (y : V) (hx : a.eval x = .slice (some ad) 1 c) (hl : (cells y).length = k) (hnews : ∀ j u, (cells y)[j]? = some u → w.cell? (ad.add j) = some u) (h1 : ∀ u ∈ cells y, u.oneCell' = true) (hyw : ∀ u ∈ cells y, NoW u)
    (h63 : xs.length + 1 ≤ maxLen) (hbytes : (xs.length + 1) * bytes ≤ 140737488355328) (hbase : B ≤ w.heap.size)
    (h : ∀ v' w', OwnC k cells e B w' v' (xs ++ [y]) → w.grownBy w' v.ownBlock → wpList P ops Q rest (a.put o.dst v') w') : wpList P ops Q (o :: rest) a w :=
  wpList_plain hgd fun _ hK => wp_append_C w s x t ho B e i z bytes ht hi hz hsize hby hzs hsz hzw v xs hs hown ad c y hx hl hnews h1 hyw h63 hbytes hbase fun v' w' h2 h3 => hK _ _ (h v' w' h2 h3)

end Go.Proofs.YtfhihapgjiaobaaGreat
