/-
  What rat.Right, gradineref07.Right and Of, and gradineplain.Long do. Conditions: slices of at most N words, N at most 1000.
-/
import Derived.Test.YtnheefhbchkbdaaDoorRefRat
namespace Go.Proofs.YtnheefhbchkbdaaDoor
set_option maxRecDepth 100000
open Go.RowKit
set_option linter.unusedVariables false
set_option linter.unusedSimpArgs false

set_option maxHeartbeats 1000000 in
theorem plain_long {w : World} {s : Bool} {A A' : Option Addr} {n n' c c' : Nat} (k : Int) :
    Calls Tryd.prog 19 #[.agg #[.bool s, .slice A n c, .slice A' n' c'], .int .i64 k] w (RetBl (decide (k < n ∨ k < n')) w) := by
  by_cases h1 : k < n
  · rw [decide_eq_true (.inl h1)]
    go_enter Tryd.func19, Tryd.ntmps19
    go_wp2_with fail
    go_ret
    exact ⟨rfl, below_alloc _ _⟩
  · have e1 : decide (k < (n : Int)) = false := decide_eq_false h1
    obtain ⟨b, hb⟩ : ∃ b, decide (k < n ∨ k < n') = b := ⟨_, rfl⟩
    have e2 : decide (k < (n' : Int)) = b := by rw [← hb]; simp [h1]
    rw [hb]
    clear hb
    go_enter Tryd.func19, Tryd.ntmps19
    go_wp2_with fail
    go_ret
    exact ⟨rfl, below_alloc _ _⟩

/-- is a number valid? -/
def rightB (s : Bool) (xs ys : List Int) : Bool := decide (sz xs = xs.length ∧ sz ys = ys.length ∧ val ys ≠ 0 ∧ ¬ (s = true ∧ val xs = 0) ∧ Nat.gcd (val xs) (val ys) = 1)
theorem right_no1 {s : Bool} {xs ys : List Int} (h : ¬ sz xs = xs.length) : rightB s xs ys = false := decide_eq_false fun e => h e.1
theorem right_no2 {s : Bool} {xs ys : List Int} (h : ¬ sz ys = ys.length) : rightB s xs ys = false := decide_eq_false fun e => h e.2.1
theorem right_no3 {s : Bool} {xs ys : List Int} (h : val ys = 0) : rightB s xs ys = false := decide_eq_false fun e => e.2.2.1 h
theorem right_no4 {s : Bool} {xs ys : List Int} (h : s = true ∧ val xs = 0) : rightB s xs ys = false := decide_eq_false fun e => e.2.2.2.1 h
theorem right_yes {s : Bool} {xs ys : List Int} (h1 : sz xs = xs.length) (h2 : sz ys = ys.length) (h3 : val ys ≠ 0) (h4 : ¬ (s = true ∧ val xs = 0)) : rightB s xs ys = decide (Nat.gcd (val xs) (val ys) = 1) := by
  unfold rightB
  rw [Bool.eq_iff_iff]
  simp only [decide_eq_true_eq]
  exact ⟨fun e => e.2.2.2.2, fun e => ⟨h1, h2, h3, h4, e⟩⟩
/-- a valid number is a number of Lean's own -/
theorem right_Q {w : World} {s : Bool} {A A' : Option Addr} {n n' c c' N : Nat} {xs ys : List Int} (h : Sl w A n c xs) (h' : Sl w A' n' c' ys) (hn : n ≤ N) (hn' : n' ≤ N) (hr : rightB s xs ys = true) :
    ∃ X, Q w s A n c A' n' c' X ∧ Sz X N ∧ X = rq s (val xs) (val ys) := by
  unfold rightB at hr
  rw [decide_eq_true_eq] at hr
  obtain ⟨h1, h2, h3, h4, h5⟩ := hr
  obtain ⟨r1, r2, r3⟩ := rq_cop' (s := s) h3 h5
  have t1 : words (val xs) = xs := by rw [words_val (Dg_U h.us)]; unfold trim; rw [h1, List.take_length]
  have t2 : words (val ys) = ys := by rw [words_val (Dg_U h'.us)]; unfold trim; rw [h2, List.take_length]
  refine ⟨rq s (val xs) (val ys), ⟨?_, ?_, ?_⟩, ⟨?_, ?_⟩, rfl⟩
  · rw [r3]
    cases s
    · rfl
    · have : val xs ≠ 0 := fun e => h4 ⟨rfl, e⟩
      simp [this]
  · rw [r1, t1]; exact h
  · rw [r2, t2]; exact h'
  · rw [r1]; exact val_lt_pow h.us (by have := h.len; omega)
  · rw [r2]; exact val_lt_pow h'.us (by have := h'.len; omega)
/-- .. and back -/
theorem Q_right {w : World} {s : Bool} {A A' : Option Addr} {n n' c c' : Nat} {X : Rat} (h : Q w s A n c A' n' c' X) : rightB s (words X.num.natAbs) (words X.den) = true := by
  unfold rightB
  rw [decide_eq_true_eq, val_words, val_words]
  have sw : ∀ v, sz (words v) = (words v).length := fun v => by
    have e := words_trim v
    unfold trim at e
    have e2 := congrArg List.length e
    rw [List.length_take] at e2
    have := sz_le (words v)
    omega
  refine ⟨sw _, sw _, den_ne X, ?_, gcd_num_den X⟩
  rintro ⟨e1, e2⟩
  have := h.1
  rw [e1, neg_zero_ X e2] at this
  cases this

set_option maxRecDepth 100000 in
set_option maxHeartbeats 4000000 in
theorem ref_ratRight {w : World} {s : Bool} {A A' : Option Addr} {n n' c c' N : Nat} {xs ys : List Int} (h : Sl w A n c xs) (h' : Sl w A' n' c' ys) (hn : n ≤ N) (hn' : n' ≤ N) (hN : N ≤ 1000) :
    Calls Tryd.prog 20 #[.agg #[.bool s, .slice A n c, .slice A' n' c']] w (RetBl (rightB s xs ys) w) := by
  have N1 := fun w1 (hb : Below w.heap.size w w1) => ref_right (h.below hb) (by omega)
  have N2 := fun w1 (hb : Below w.heap.size w w1) => ref_right (h'.below hb) (by omega)
  have GG := fun w1 (hb : Below w.heap.size w w1) => ref_gcd (N := N) (h.below hb) (h'.below hb) hn hn' hN
  have va : val xs < W ^ N := val_lt_pow h.us (by have := h.len; omega)
  have vb : val ys < W ^ N := val_lt_pow h'.us (by have := h'.len; omega)
  have vg := gcd_lt va vb
  have z1 : val xs = 0 ↔ sz xs = 0 := valB_zero_iff W_pos (Dg_U h.us)
  have z2 : val ys = 0 ↔ sz ys = 0 := valB_zero_iff W_pos (Dg_U h'.us)
  have e1 := h.len
  have e2 := h'.len
  by_cases h1 : sz xs = n
  · rw [decide_eq_true h1] at N1
    have HN1 := Lib.hid N1
    by_cases h2 : sz ys = n'
    · rw [decide_eq_true h2] at N2
      have HN2 := Lib.hid N2
      clear N1 N2
      by_cases h3 : val ys = 0
      · rw [right_no3 h3]
        have hz : n' = 0 := by rw [← h2]; exact z2.1 h3
        subst hz
        clear GG va vb vg z1 z2 h1 h2 h3 e1 e2
        go_enter Tryd.func20, Tryd.ntmps20
        go_wp2_with fail
        refine (HN1.out _ (below_alloc _ _)).mono ?_
        rintro _ _ ⟨rfl, rfl⟩
        go_wp2_with fail
        refine (HN2.out _ (below_alloc _ _)).mono ?_
        rintro _ _ ⟨rfl, rfl⟩
        go_wp2_with fail
        go_ret
        exact ⟨rfl, below_alloc _ _⟩
      · by_cases h4 : s = true ∧ val xs = 0
        · rw [right_no4 h4]
          have hz : n = 0 := by rw [← h1]; exact z1.1 h4.2
          have hz' : ¬ n' = 0 := by rw [← h2]; exact fun e => h3 (z2.2 e)
          have hz2 : ((n' : Int) == 0) = false := by simp; omega
          have hz3 : decide (n' = 0) = false := decide_eq_false hz'
          subst hz
          obtain ⟨rfl, _⟩ := h4
          clear GG va vb vg z1 z2 h1 h2 h3 e1 e2
          go_enter Tryd.func20, Tryd.ntmps20
          go_wp2_with fail
          refine (HN1.out _ (below_alloc _ _)).mono ?_
          rintro _ _ ⟨rfl, rfl⟩
          go_wp2_with fail
          refine (HN2.out _ (below_alloc _ _)).mono ?_
          rintro _ _ ⟨rfl, rfl⟩
          go_wp2_with fail
          go_ret
          exact ⟨rfl, below_alloc _ _⟩
        · rw [right_yes (by omega) (by omega) h3 h4]
          obtain ⟨bb', hbb⟩ : ∃ b, decide (Nat.gcd (val xs) (val ys) = 1) = b := ⟨_, rfl⟩
          rw [hbb]
          have hz' : ¬ n' = 0 := by rw [← h2]; exact fun e => h3 (z2.2 e)
          have hz2 : ((n' : Int) == 0) = false := by simp; omega
          have hz3 : decide (n' = 0) = false := decide_eq_false hz'
          obtain ⟨g, hg⟩ : ∃ g, Nat.gcd (val xs) (val ys) = g := ⟨_, rfl⟩
          rw [hg] at vg GG
          simp only [hg] at hbb
          have ez := cmpN_zero g 1
          rw [hbb] at ez
          have CM := fun (w1 : World) (C C' : Option Addr) (a b a' b' : Nat) (x : Sl w1 C a b (words g)) (y : Sl w1 C' a' b' [1]) => ref_cmp x y (by have := x.small vg; omega) (by have := y.len; simp at this; omega)
          have v1 : val [(1 : Int)] = 1 := rfl
          simp only [val_words, v1] at CM
          generalize cmpN g 1 = cm at CM ez
          have HGG := Lib.hid GG
          have HCM := Lib.hid CM
          cases s
          · clear GG CM va vb vg z1 z2 h1 h2 h3 h4 e1 e2 hbb hg
            go_enter Tryd.func20, Tryd.ntmps20
            go_wp2_with fail
            refine (HN1.out _ (below_alloc _ _)).mono ?_
            rintro _ _ ⟨rfl, rfl⟩
            go_wp2_with fail
            refine (HN2.out _ (below_alloc _ _)).mono ?_
            rintro _ _ ⟨rfl, rfl⟩
            go_wp2_with fail
            refine (HGG.out _ (below_alloc _ _)).mono ?_
            rintro _ w1 ⟨A1, n1, c1, rfl, t1, b1⟩
            go_wp2_with fail
            refine (HCM.out _ _ _ _ _ _ _ (t1.below (below_alloc _ _)) (sl_lit w1 1 U_1)).mono ?_
            rintro _ _ ⟨rfl, rfl⟩
            go_wp2_with fail
            go_ret
            exact ⟨rfl, (bb (below_alloc _ _) b1).alloc (bb (below_alloc _ _) b1).size _⟩
          · have hz : ¬ n = 0 := by rw [← h1]; exact fun e => h4 ⟨rfl, z1.2 e⟩
            have hz4 : ((n : Int) == 0) = false := by simp; omega
            have hz5 : decide (n = 0) = false := decide_eq_false hz
            clear GG CM va vb vg z1 z2 h1 h2 h3 h4 e1 e2 hbb hg
            go_enter Tryd.func20, Tryd.ntmps20
            go_wp2_with fail
            refine (HN1.out _ (below_alloc _ _)).mono ?_
            rintro _ _ ⟨rfl, rfl⟩
            go_wp2_with fail
            refine (HN2.out _ (below_alloc _ _)).mono ?_
            rintro _ _ ⟨rfl, rfl⟩
            go_wp2_with fail
            refine (HGG.out _ (below_alloc _ _)).mono ?_
            rintro _ w1 ⟨A1, n1, c1, rfl, t1, b1⟩
            go_wp2_with fail
            refine (HCM.out _ _ _ _ _ _ _ (t1.below (below_alloc _ _)) (sl_lit w1 1 U_1)).mono ?_
            rintro _ _ ⟨rfl, rfl⟩
            go_wp2_with fail
            go_ret
            exact ⟨rfl, (bb (below_alloc _ _) b1).alloc (bb (below_alloc _ _) b1).size _⟩
    · rw [decide_eq_false h2] at N2
      rw [right_no2 (by omega)]
      have HN2 := Lib.hid N2
      clear N1 N2 GG va vb vg z1 z2 h1 h2 e1 e2
      go_enter Tryd.func20, Tryd.ntmps20
      go_wp2_with fail
      refine (HN1.out _ (below_alloc _ _)).mono ?_
      rintro _ _ ⟨rfl, rfl⟩
      go_wp2_with fail
      refine (HN2.out _ (below_alloc _ _)).mono ?_
      rintro _ _ ⟨rfl, rfl⟩
      go_wp2_with fail
      go_ret
      exact ⟨rfl, below_alloc _ _⟩
  · rw [decide_eq_false h1] at N1
    rw [right_no1 (by omega)]
    have HN1 := Lib.hid N1
    clear N1 N2 GG va vb vg z1 z2 h1 e1 e2
    go_enter Tryd.func20, Tryd.ntmps20
    go_wp2_with fail
    refine (HN1.out _ (below_alloc _ _)).mono ?_
    rintro _ _ ⟨rfl, rfl⟩
    go_wp2_with fail
    go_ret
    exact ⟨rfl, below_alloc _ _⟩

/-- the world behind a result's box and two words -/
theorem lits2 (w : World) (us : Array Value) (x y : Int) (hx : U x) (hy : U y) : ∃ V, ((w.alloc (.cells us 24)).alloc (.cells #[.int .u64 x] 37)).alloc (.cells #[.int .u64 y] 37) = V ∧ Box 24 V w.heap.size us ∧ Sl V (some ⟨w.heap.size + 1, 0, none⟩) 1 1 [x] ∧ Sl V (some ⟨w.heap.size + 1 + 1, 0, none⟩) 1 1 [y] ∧ Below w.heap.size w V := by
  refine ⟨_, rfl, ((Box.new w _ us).alloc _).alloc _, ?_, ?_, ((below_alloc _ _).alloc (by simp) _).alloc (by simp; omega) _⟩
  · have := (sl_lit (w.alloc (.cells us 24)) x hx).below (below_alloc _ (.cells #[.int .u64 y] 37))
    rw [show (w.alloc (.cells us 24)).heap.size = w.heap.size + 1 from by simp] at this
    exact this
  · have := sl_lit ((w.alloc (.cells us 24)).alloc (.cells #[.int .u64 x] 37)) y hy
    rw [show ((w.alloc (.cells us 24)).alloc (.cells #[.int .u64 x] 37)).heap.size = w.heap.size + 1 + 1 from by simp] at this
    exact this

end Go.Proofs.YtnheefhbchkbdaaDoor
