/-
  The law ShapeKeeps: the number of elements of permuted dims, and of dims that are dropped. Conditions: the slices read as lists of ints.
-/
import Derived.Test.YthhmofmncjodfaaShM
namespace Go.Proofs.Ythhmofmncjodfaa
open Go.RowKit
set_option linter.unusedVariables false
set_option linter.unusedSimpArgs false

/-- the product of the marked dims below k; how many are marked -/
def pmul (d : List Int) (s : Nat → Bool) : Nat → Int
  | 0 => 1
  | k + 1 => pmul d s k * (if s k then d.getD k 0 else 1)
def cmul (s : Nat → Bool) : Nat → Nat
  | 0 => 0
  | k + 1 => cmul s k + (if s k then 1 else 0)
theorem pmul_congr (d : List Int) {s u : Nat → Bool} {k : Nat} (h : ∀ i, i < k → s i = u i) : pmul d s k = pmul d u k := by
  induction k with
  | zero => rfl
  | succ k ih => rw [pmul, pmul, ih (fun i hi => h i (by omega)), h k (by omega)]
theorem cmul_congr {s u : Nat → Bool} {k : Nat} (h : ∀ i, i < k → s i = u i) : cmul s k = cmul u k := by
  induction k with
  | zero => rfl
  | succ k ih => rw [cmul, cmul, ih (fun i hi => h i (by omega)), h k (by omega)]
theorem pmul_put (d : List Int) {s u : Nat → Bool} {t k : Nat} (ht : t < k) (h0 : s t = false) (h1 : u t = true) (h : ∀ i, i ≠ t → u i = s i) : pmul d u k = pmul d s k * d.getD t 0 := by
  induction k with
  | zero => omega
  | succ k ih =>
    rw [pmul, pmul]
    by_cases e : t = k
    · subst e
      rw [h0, h1, pmul_congr d (u := s) (fun i hi => h i (by omega))]
      simp
    · rw [ih (by omega), h k (by omega), Int.mul_assoc, Int.mul_assoc]
      congr 1
      exact Int.mul_comm _ _
theorem cmul_put {s u : Nat → Bool} {t k : Nat} (ht : t < k) (h0 : s t = false) (h1 : u t = true) (h : ∀ i, i ≠ t → u i = s i) : cmul u k = cmul s k + 1 := by
  induction k with
  | zero => omega
  | succ k ih =>
    rw [cmul, cmul]
    by_cases e : t = k
    · subst e
      rw [h0, h1, cmul_congr (u := s) (fun i hi => h i (by omega))]
      simp
    · rw [ih (by omega), h k (by omega)]
      omega
theorem cmul_le (s : Nat → Bool) (k : Nat) : cmul s k ≤ k := by
  induction k with
  | zero => exact Nat.le_refl _
  | succ k ih => rw [cmul]; split <;> omega
theorem cmul_all {s : Nat → Bool} {k : Nat} (h : cmul s k = k) : ∀ i, i < k → s i = true := by
  induction k with
  | zero => intro i hi; omega
  | succ k ih =>
    rw [cmul] at h
    have h1 := cmul_le s k
    intro i hi
    by_cases hs : s k = true
    · rw [if_pos hs] at h
      by_cases e : i = k
      · rw [e]; exact hs
      · exact ih (by omega) i (by omega)
    · rw [if_neg hs] at h
      omega
theorem pmul_all {d : List Int} {s : Nat → Bool} {k : Nat} (h : ∀ i, i < k → s i = true) (hk : k ≤ d.length) : pmul d s k = prodZ (d.take k) := by
  induction k with
  | zero => simp [pmul, prodZ]
  | succ k ih => rw [pmul, ih (fun i hi => h i (by omega)) (by omega), h k (by omega), if_pos rfl, prodZ_take (by omega)]
def mk (l : List Int) (j i : Nat) : Bool := decide ((i : Int) ∈ l.take j)
theorem perm_prod {d l : List Int} {m : Nat} (h : AxTo m l l.length) : ∀ j, j ≤ l.length → prodZ ((permL d l).take j) = pmul d (mk l j) m ∧ cmul (mk l j) m = j := by
  intro j
  induction j with
  | zero =>
    intro _
    have z : ∀ k, pmul d (mk l 0) k = 1 ∧ cmul (mk l 0) k = 0 := by
      intro k
      induction k with
      | zero => exact ⟨rfl, rfl⟩
      | succ k ih =>
        have e : mk l 0 k = false := by simp [mk]
        rw [pmul, cmul, ih.1, ih.2, e]
        simp
    rw [(z m).1, (z m).2]
    simp [prodZ]
  | succ j ih =>
    intro hj
    obtain ⟨i1, i2⟩ := ih (by omega)
    obtain ⟨⟨h1, h2⟩, h3⟩ := h j (by omega)
    have hn := permL_next d (l := l) (k := j) (by omega)
    have hm := mem_take_snoc (xs := l) (k := j) (by omega)
    generalize l.getD j 0 = x at *
    obtain ⟨t, rfl⟩ : ∃ t : Nat, x = (t : Int) := ⟨x.toNat, by omega⟩
    have htm : t < m := by omega
    have g0 : mk l j t = false := by simp [mk, h3]
    have g1 : mk l (j + 1) t = true := by simp only [mk, decide_eq_true_eq]; exact (hm _).2 (.inr rfl)
    have g2 : ∀ i, i ≠ t → mk l (j + 1) i = mk l j i := fun i hi => by
      simp only [mk, decide_eq_decide]
      rw [hm]
      constructor
      · rintro (h9 | h9)
        · exact h9
        · exact absurd (by omega) hi
      · exact .inl
    rw [hn, prodZ_snoc, i1, pmul_put d htm g0 g1 g2, cmul_put htm g0 g1 g2, i2, Int.toNat_natCast]
    exact ⟨rfl, rfl⟩
theorem permL_prod {d l : List Int} (h : AxTo d.length l l.length) (hl : l.length = d.length) : prodZ (permL d l) = prodZ d := by
  obtain ⟨h1, h2⟩ := perm_prod (d := d) h l.length (Nat.le_refl _)
  rw [List.take_of_length_le (by rw [length_permL]; exact Nat.le_refl _)] at h1
  rw [h1, pmul_all (cmul_all (by rw [h2, hl])) (Nat.le_refl _), List.take_of_length_le (Nat.le_refl _)]
theorem permL_vd {d l : List Int} (hv : Vd d) (h : AxTo d.length l l.length) (hl : l.length = d.length) : Vd (permL d l) := by
  refine ⟨by rw [length_permL, hl]; exact hv.len, fun x hx => ?_, by rw [permL_prod h hl]; exact hv.prod⟩
  obtain ⟨i, hi, rfl⟩ := List.getElem_of_mem hx
  have hi2 : i < l.length := by rw [length_permL] at hi; exact hi
  rw [← getD_eq hi, permL_at d hi2]
  obtain ⟨⟨h1, h2⟩, _⟩ := h i hi2
  exact hv.pos.at (by omega)
theorem perm_count {d l : List Int} (h : permE d l = 0) : cntZ (permR d l) = cntZ d := by
  rw [permR_ok h]
  by_cases h0 : chk d = 0
  · by_cases h1 : axE d.length l = 0
    · by_cases h2 : l.length = d.length
      · have hx := axE_inv h1
        rw [cntZ_ok h0, cntZ_ok (permL_vd (vd_of h0) hx h2).chk, permL_prod hx h2]
      · rw [permE_no h0 (.inr h2)] at h; omega
    · rw [permE_no h0 (.inl h1)] at h; omega
  · rw [permE_chk l h0] at h
    exact absurd h h0

theorem dropTo_prod (d : List Int) (ms : List Bool) {k : Nat} (hk : k ≤ d.length) : prodZ (dropTo d ms false k) * pmul d (fun i => ms.getD i false) k = prodZ (d.take k) := by
  induction k with
  | zero => simp [dropTo, pmul, prodZ]
  | succ k ih =>
    have ih := ih (by omega)
    rw [prodZ_take (by omega), ← ih, pmul]
    cases hm : ms.getD k false
    · rw [dropTo_no false hm, prodZ_snoc]
      simp only [Bool.false_eq_true, if_false, Int.mul_one]
      rw [Int.mul_assoc, Int.mul_assoc, Int.mul_comm (d.getD k 0)]
    · rw [dropTo_drop hm]
      simp only [if_true]
      rw [Int.mul_assoc]
theorem dropTo_same (d : List Int) (ms : List Bool) (k : Nat) : prodZ (dropTo d ms true k) = prodZ (dropTo d ms false k) := by
  induction k with
  | zero => rfl
  | succ k ih =>
    cases hm : ms.getD k false
    · rw [dropTo_no true hm, dropTo_no false hm, prodZ_snoc, prodZ_snoc, ih]
    · rw [dropTo_keep hm, dropTo_drop hm, prodZ_snoc, ih, Int.mul_one]
theorem dropTo_klen (d : List Int) (ms : List Bool) (k : Nat) : (dropTo d ms true k).length = k := by
  induction k with
  | zero => rfl
  | succ k ih =>
    cases hm : ms.getD k false
    · rw [dropTo_no true hm, List.length_append, ih]; rfl
    · rw [dropTo_keep hm, List.length_append, ih]; rfl
theorem dropTo_pos {d : List Int} (hp : Pos1 d) (ms : List Bool) (keep : Bool) {k : Nat} (hk : k ≤ d.length) : Pos1 (dropTo d ms keep k) := by
  induction k with
  | zero => intro x hx; simp [dropTo] at hx
  | succ k ih =>
    have ih := ih (by omega)
    have h1 := hp.at (k := k) (by omega)
    intro x hx
    rw [dropTo, List.mem_append] at hx
    rcases hx with hx | hx
    · exact ih x hx
    · cases hm : ms.getD k false <;> rw [hm] at hx
      · have e : x = d.getD k 0 := by simpa using hx
        rw [e]; exact h1
      · cases keep
        · simp at hx
        · have e : x = 1 := by simpa using hx
          rw [e]; exact Int.le_refl _
theorem pmul_pos {d : List Int} (hp : Pos1 d) (s : Nat → Bool) {k : Nat} (hk : k ≤ d.length) : 1 ≤ pmul d s k := by
  induction k with
  | zero => exact Int.le_refl _
  | succ k ih =>
    rw [pmul]
    have h1 := hp.at (k := k) (by omega)
    split
    · exact (mul_ge_one (ih (by omega)) h1).1
    · rw [Int.mul_one]; exact ih (by omega)
theorem pmul_mono {d : List Int} (hp : Pos1 d) (s : Nat → Bool) {k : Nat} (hk : k < d.length) : pmul d s k ≤ pmul d s (k + 1) := by
  rw [pmul]
  have h1 := hp.at hk
  split
  · exact (mul_ge_one (pmul_pos hp s (by omega)) h1).2.1
  · omega
theorem pmul_mono2 {d : List Int} (hp : Pos1 d) (s : Nat → Bool) {k m : Nat} (hk : k ≤ m) (hm : m ≤ d.length) : pmul d s k ≤ pmul d s m := by
  induction m with
  | zero => obtain rfl : k = 0 := by omega
            exact Int.le_refl _
  | succ m ih =>
    by_cases e : k = m + 1
    · rw [e]; exact Int.le_refl _
    · exact Int.le_trans (ih (by omega) (by omega)) (pmul_mono hp s (by omega))
theorem dropTo_le {d : List Int} (hp : Pos1 d) (ms : List Bool) : prodZ (dropTo d ms false d.length) ≤ prodZ d := by
  have h := dropTo_prod d ms (Nat.le_refl d.length)
  rw [List.take_of_length_le (Nat.le_refl _)] at h
  rw [← h]
  exact (mul_ge_one (prodZ_pos (dropTo_pos hp ms false (Nat.le_refl _))) (pmul_pos hp _ (Nat.le_refl _))).2.1
theorem dropTo_vd {d : List Int} (hv : Vd d) (ms : List Bool) (keep : Bool) : Vd (dropTo d ms keep d.length) := by
  refine ⟨Nat.le_trans (dropTo_len d ms keep d.length) hv.len, dropTo_pos hv.pos ms keep (Nat.le_refl _), ?_⟩
  have h := dropTo_le hv.pos ms
  have h2 := hv.prod
  cases keep
  · omega
  · rw [dropTo_same]; omega
/-- the facts of a drop without an error -/
theorem drop_facts {d l : List Int} (h : dropE d l = 0) : chk d = 0 ∧ axE d.length l = 0 ∧ (dropR d l true).length = d.length ∧ cntZ (dropR d l true) = cntZ (dropR d l false) ∧
    1 ≤ cntZ (dropR d l false) ∧ (∀ k, k ≤ d.length → 1 ≤ cntZ (dropR d l false) * pmul d (fun i => (axM d.length l).getD i false) k ∧ cntZ (dropR d l false) * pmul d (fun i => (axM d.length l).getD i false) k ≤ 64) ∧
    cntZ (dropR d l false) * pmul d (fun i => (axM d.length l).getD i false) d.length = cntZ d := by
  by_cases h0 : chk d = 0
  · have hv := vd_of h0
    have h1 := h
    rw [dropE_ok l h0] at h1
    have e1 := dropTo_prod d (axM d.length l) (Nat.le_refl d.length)
    rw [List.take_of_length_le (Nat.le_refl _)] at e1
    have hx : cntZ (dropR d l false) = prodZ (dropTo d (axM d.length l) false d.length) := by rw [dropR_ok false h, cntZ_ok (dropTo_vd hv _ _).chk]
    have hy : cntZ (dropR d l true) = prodZ (dropTo d (axM d.length l) false d.length) := by rw [dropR_ok true h, cntZ_ok (dropTo_vd hv _ _).chk, dropTo_same]
    have hp := prodZ_pos (dropTo_pos hv.pos (axM d.length l) false (Nat.le_refl d.length))
    have hpr := hv.prod
    refine ⟨h0, h1, by rw [dropR_ok true h, dropTo_klen], by rw [hx, hy], by rw [hx]; exact hp, fun k hk => ?_, by rw [hx, e1, cntZ_ok h0]⟩
    rw [hx]
    have q1 := pmul_pos hv.pos (fun i => (axM d.length l).getD i false) hk
    have q2 := pmul_mono2 hv.pos (fun i => (axM d.length l).getD i false) hk (Nat.le_refl _)
    have q3 := Int.mul_le_mul_of_nonneg_left q2 (show 0 ≤ prodZ (dropTo d (axM d.length l) false d.length) by omega)
    exact ⟨(mul_ge_one hp q1).1, by omega⟩
  · rw [dropE_chk l h0] at h
    exact absurd h h0

set_option maxRecDepth 100000 in
set_option maxHeartbeats 4000000 in
theorem shapeKeeps_walk (A : Option Addr) (n c : Nat) (xs : List Int) (B : Option Addr) (m e : Nat) (ys : List Int) (w : World) (h : SlZ w A n c xs) (h' : SlZ w B m e ys) :
    Calls Try.prog 6 #[.slice A n c, .slice B m e] w (RetBl true w) := by
  have M := law_many19 (w := w) (A := A) (B := B) (c := c) (e := e) h.small h'.small
  generalize (decide (100 < n) || decide (100 < m)) = b at M
  have HM := Lib.hid M
  have HS := fun w1 (h9 : Below w.heap.size w w1) => Lib.hid (same19_from h9)
  clear M
  cases b
  case true =>
    go_enter Try.func6, Try.ntmps6
    go_wp2_with fail
    refine HM.out.mono ?_
    rintro _ _ ⟨rfl, rfl⟩
    go_wp2_with fail
    refine (HS _ (Below.refl _ _)).out.mono ?_
    rintro _ w2 ⟨rfl, hb⟩
    go_wp2_with fail
    go_ret
    exact ⟨rfl, hb⟩
  case false =>
    have HN := Lib.hid (fun w1 (h9 : Below w.heap.size w w1) => sh_count (h.below h9))
    have HP := Lib.hid (sh_perm h h')
    have HL := Lib.hid h.len
    have HD := Lib.hid (fun w1 (h9 : Below w.heap.size w w1) keep => sh_drop (h.below h9) (h'.below h9) keep)
    have HX := Lib.hid (fun w1 (h9 : Below w.heap.size w w1) => sh_axes (h'.below h9) (n : Int))
    have HC := Lib.hid (fun w1 (h9 : Below w.heap.size w w1) => sh_check (h.below h9))
    have HF := Lib.hid (fun e9 : dropE xs ys = 0 => drop_facts e9)
    have HI : Hid (SlZ w A n c xs) := Lib.hid h
    go_enter Try.func6, Try.ntmps6
    go_wp2_with fail
    refine HM.out.mono ?_
    rintro _ _ ⟨rfl, rfl⟩
    go_wp2_with fail
    refine HP.out.mono ?_
    rintro _ w1 ⟨A1, n1, c1, rfl, s1, _, b1⟩
    obtain ⟨pe, hpe⟩ : ∃ z, permE xs ys = z := ⟨_, rfl⟩
    rw [hpe]
    have HPE := Lib.hid hpe
    clear hpe
    have hcnt : pe = 0 → Calls Try.prog 14 #[.slice A1 n1 c1] w1 (Just (.int .i64 (cntZ xs)) w1) := fun e9 => by
      have := sh_count s1
      rw [perm_count (HPE.out.trans e9)] at this
      exact this
    have HCN := Lib.hid hcnt
    clear s1 HP hcnt
    have next : ∀ (K : Prop), K → K := fun _ k => k
    by_cases h0 : pe = 0
    case' pos =>
      subst h0
      have HC1 := Lib.hid (HCN.out rfl)
      have HC2 := Lib.hid (HN.out _ b1)
      have hz : (cntZ xs != cntZ xs) = false := by simp
      go_wp2_with fail
      refine HC1.out.mono ?_
      rintro _ _ ⟨rfl, rfl⟩
      go_wp2_with fail
      refine HC2.out.mono ?_
      rintro _ _ ⟨rfl, rfl⟩
      go_wp2_with fail
      clear HC1 HC2 hz
    case' neg =>
      have hz : (pe == 0) = false := by simpa using h0
      go_wp2_with fail
      clear hz
    all_goals
      clear HCN HPE next
      refine (HD.out _ b1 false).mono ?_
      rintro _ w2 ⟨A2, n2, c2, rfl, s2, _, b2⟩
      have B2 := bb b1 b2
      have S2 := Lib.hid s2
      clear s2 b2
      go_wp2_with fail
      refine (HD.out _ B2 true).mono ?_
      rintro _ w3 ⟨A3, n3, c3, rfl, s3, _, b3⟩
      have B3 := bb B2 b3
      have S3 := Lib.hid s3
      have S2' := Lib.hid (S2.out.below b3)
      clear s3 b3 S2
      go_wp2_with fail
      refine (HX.out _ B3).mono ?_
      rintro _ w4 ⟨A4, n4, c4, rfl, s4, b4⟩
      have B4 := bb B3 b4
      have S4 := Lib.hid s4
      have S2 := Lib.hid (S2'.out.below b4)
      have S3' := Lib.hid (S3.out.below b4)
      clear s4 b4 S2' S3 HX HD b1 B2 B3
      by_cases hd : dropE xs ys = 0
      · obtain ⟨f1, f2, f3, f4, f5, f6, f7⟩ := HF.out hd
        rw [HL.out] at f2 f6 f7
        rw [hd, f2]
        have hr := axR_ok f2
        have s4 := S4.out
        rw [hr] at s4
        have hn4 : n4 = n := by rw [← s4.len, length_axM]
        have hn3 : n3 = n := by rw [← S3'.out.len, f3, HL.out]
        subst n4 n3
        have c1 := sh_count S2.out
        have c2' := sh_count S3'.out
        rw [f4] at c2'
        have hd0 := HI.out.below B4
        generalize cntZ (dropR xs ys false) = q at c1 c2' f5 f6 f7
        have HC1 := Lib.hid c1
        have HC2 := Lib.hid c2'
        have F6 := Lib.hid f6
        have F7 := Lib.hid f7
        have hqq : (q != q) = false := by simp
        have S4' := Lib.hid s4
        clear f1 f2 f3 f4 f6 f7 hr c1 c2' s4 S4 HF S2 S3' HC hd
        go_wp2_with fail
        refine HC1.out.mono ?_
        rintro _ _ ⟨rfl, rfl⟩
        go_wp2_with fail
        refine HC2.out.mono ?_
        rintro _ _ ⟨rfl, rfl⟩
        clear HC1 HC2
        go_wp2_with fail
        clear hqq
        have hn := h.small
        go_loop [13, 101] (fun v iv => ∃ (k : Nat) (z : Int), k ≤ n ∧ iv = .int .i64 k ∧ v = .int .i64 z ∧ Hid (z = q * pmul xs (fun i => (axM n ys).getD i false) k) ∧ 1 ≤ z ∧ z ≤ 64) (fun _ iv => n - mes iv)
        case atStart => exact ⟨0, q, by omega, rfl, rfl, Lib.hid (by simp [pmul]), f5, by have := (F6.out 0 (by omega)).2; simp only [pmul, Int.mul_one] at this; exact this⟩
        case round =>
          obtain ⟨k, z, hk, rfl, rfl, HZ, z1, z2⟩ := hrel
          by_cases hk2 : k < n
          · obtain ⟨g1, o1, x, hx, rfl, _, hi, k1⟩ := hd0.get hk2
            obtain ⟨g2, o2, y, hy, rfl, _, k2⟩ := S4'.out.get hk2
            have hb := F6.out (k + 1) (by omega)
            have hst : q * pmul xs (fun i => (axM n ys).getD i false) (k + 1) = z * (if y then x else 1) := by rw [pmul, hy, hx, HZ.out, Int.mul_assoc]
            rw [hst] at hb
            have HST := Lib.hid hst
            clear hst hx hy
            cases y
            case true =>
              simp only [if_true] at hb HST
              obtain ⟨hb1, hb2⟩ := hb
              go_wp2_with fail
              go_round
              case rel => exact ⟨k + 1, z * x, by omega, by go_num, rfl, Lib.hid HST.out.symm, hb1, hb2⟩
              case measure => simp [mes, intOf]; omega
            case false =>
              simp only [Bool.false_eq_true, if_false, Int.mul_one] at hb HST
              go_wp2_with fail
              go_round
              case rel => exact ⟨k + 1, z, by omega, by go_num, rfl, Lib.hid HST.out.symm, z1, z2⟩
              case measure => simp [mes, intOf]; omega
          · obtain rfl : k = n := by omega
            have hz := HZ.out
            rw [F7.out] at hz
            subst hz
            have HCC := Lib.hid (HN.out _ B4)
            have hqq : (cntZ xs == cntZ xs) = true := by simp
            clear HZ F6 F7
            go_wp2_with fail
            refine HCC.out.mono ?_
            rintro _ _ ⟨rfl, rfl⟩
            go_wp2_with fail
            refine (HS _ B4).out.mono ?_
            rintro _ w8 ⟨rfl, b8⟩
            go_wp2_with fail
            go_ret
            exact ⟨rfl, b8⟩
      · have hz : (dropE xs ys != 0) = true := by simpa using hd
        have hqq : (dropE xs ys == dropE xs ys) = true := by simp
        by_cases h1 : chk xs = 0
        · have he := dropE_ok ys h1
          rw [HL.out] at he
          rw [← he]
          clear he h1 HF HC S2 S3' S4 hd
          go_wp2_with fail
          refine (HS _ B4).out.mono ?_
          rintro _ w8 ⟨rfl, b8⟩
          go_wp2_with fail
          go_ret
          exact ⟨rfl, b8⟩
        · have hc9 := HC.out _ B4
          have hz2 : (chk xs != 0) = true := by simpa using h1
          have HC9 := Lib.hid hc9
          clear hc9 HC HF S2 S3' S4 hd h1
          obtain ⟨b9, hb9⟩ : ∃ b, (dropE xs ys == axE n ys) = b := ⟨_, rfl⟩
          cases b9
          all_goals
            go_wp2_with fail
            try (refine HC9.out.mono ?_; rintro _ _ ⟨rfl, rfl⟩; go_wp2_with fail)
            refine (HS _ B4).out.mono ?_
            rintro _ w8 ⟨rfl, b8⟩
            go_wp2_with fail
            go_ret
            exact ⟨rfl, b8⟩

end Go.Proofs.Ythhmofmncjodfaa
