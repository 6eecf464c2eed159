/-
  Exact numbers in memory: a struct of a sign and two slices of words that reads as a number of Lean's own Rat; boxes of such structs. No Go function in sight.
-/
import Derived.Test.YthpbaaanbimapaaGreatDoorLimbDivAllC
import Derived.Test.YthpbaaanbimapaaGreatDoorQuotWordAllC
import Derived.Test.YthpbaaanbimapaaGreatDoorRefShiftAllC
import Derived.Test.YthpbaaanbimapaaGreatDoorNatShlAllC
namespace Go.Proofs.YthpbaaanbimapaaGreatDoor
set_option maxRecDepth 100000
set_option linter.unusedVariables false

theorem odd_part (v : Nat) (h : v ≠ 0) : ∃ k o, v = 2 ^ k * o ∧ o % 2 = 1 := by
  induction v using Nat.strongRecOn with
  | ind v ih =>
    by_cases h1 : v % 2 = 1
    · exact ⟨0, v, by simp, h1⟩
    · obtain ⟨k, o, e, ho⟩ := ih (v / 2) (by omega) (by omega)
      refine ⟨k + 1, o, ?_, ho⟩
      have e2 : v = 2 * (v / 2) := by omega
      rw [e2, e, Nat.pow_succ, Nat.mul_comm (2 ^ k) 2, Nat.mul_assoc]
theorem tz_of {v k o : Nat} (e : v = 2 ^ k * o) (ho : o % 2 = 1) : tz v = k := by
  refine tz_unique (fun j hj => ?_) ?_
  · have e2 : v = 2 ^ j * (2 * (2 ^ (k - j - 1) * o)) := by
      rw [e, ← Nat.mul_assoc, ← Nat.mul_assoc, ← Nat.pow_succ, ← Nat.pow_add]
      congr 2
      omega
    rw [e2, Nat.mul_div_cancel_left _ (Nat.two_pow_pos j)]
    omega
  · rw [e, Nat.mul_div_cancel_left _ (Nat.two_pow_pos k)]
    exact ho
/-- a number without its factors 2 -/
def odd (v : Nat) : Nat := v / 2 ^ tz v
theorem odd_eq {v : Nat} (h : v ≠ 0) : v = 2 ^ tz v * odd v ∧ odd v % 2 = 1 := by
  obtain ⟨k, o, e, ho⟩ := odd_part v h
  have e2 := tz_of e ho
  have e3 : odd v = o := by
    unfold odd
    rw [e2]
    conv => lhs; rw [e]
    exact Nat.mul_div_cancel_left _ (Nat.two_pow_pos k)
  rw [e2, e3]
  exact ⟨e, ho⟩
theorem odd_le (v : Nat) : odd v ≤ v := Nat.div_le_self _ _
theorem coprime_two {y : Nat} (h : y % 2 = 1) : Nat.Coprime 2 y := by
  unfold Nat.Coprime
  rw [Nat.gcd_rec, h]
  rfl
theorem gcd_pow_odd (k o : Nat) {y : Nat} (h : y % 2 = 1) : Nat.gcd (2 ^ k * o) y = Nat.gcd o y :=
  Nat.Coprime.gcd_mul_left_cancel o (Nat.Coprime.pow_left k (coprime_two h))
theorem gcd_odd_left {x y : Nat} (hx : x ≠ 0) (h : y % 2 = 1) : Nat.gcd (odd x) y = Nat.gcd x y := by
  conv => rhs; rw [(odd_eq hx).1]
  rw [gcd_pow_odd _ _ h]
theorem gcd_start_le {a b : Nat} (ha : a ≠ 0) (hb : b ≠ 0) (h : tz a ≤ tz b) : Nat.gcd a b = Nat.gcd (odd a) (odd b) * 2 ^ tz a := by
  have ea := (odd_eq ha).1
  have eb : b = 2 ^ tz a * (2 ^ (tz b - tz a) * odd b) := by
    conv => lhs; rw [(odd_eq hb).1]
    rw [← Nat.mul_assoc, ← Nat.pow_add]
    congr 2
    omega
  have e : Nat.gcd a b = Nat.gcd (2 ^ tz a * odd a) (2 ^ tz a * (2 ^ (tz b - tz a) * odd b)) := by rw [← ea, ← eb]
  rw [e, Nat.gcd_mul_left, Nat.gcd_comm (odd a), gcd_pow_odd _ _ (odd_eq ha).2, Nat.gcd_comm (odd b), Nat.mul_comm]
theorem gcd_start {a b : Nat} (ha : a ≠ 0) (hb : b ≠ 0) : Nat.gcd a b = Nat.gcd (odd a) (odd b) * 2 ^ min (tz a) (tz b) := by
  rcases Nat.le_total (tz a) (tz b) with h | h
  · rw [Nat.min_eq_left h]; exact gcd_start_le ha hb h
  · rw [Nat.min_eq_right h, Nat.gcd_comm a b, Nat.gcd_comm (odd a)]; exact gcd_start_le hb ha h
/-- a round of halving and taking away -/
theorem gcd_round {x y : Nat} (hx : x % 2 = 1) (hy : y % 2 = 1) (h : y < x) : Nat.gcd (odd (x - y)) y = Nat.gcd x y ∧ odd (x - y) % 2 = 1 ∧ odd (x - y) < x := by
  have h0 : x - y ≠ 0 := by omega
  refine ⟨?_, (odd_eq h0).2, ?_⟩
  · rw [gcd_odd_left h0 hy, Nat.gcd_sub_self_left (by omega)]
  · have := odd_le (x - y); omega
theorem tz_lt {v k : Nat} (h : v < 2 ^ k) (hk : 0 < k) : tz v < k := by
  by_cases h0 : v = 0
  · subst h0; rw [tz_zero]; exact hk
  · have e := (odd_eq h0)
    have ho : 0 < odd v := by have := e.2; omega
    have : 2 ^ tz v ≤ v := by
      conv => rhs; rw [e.1]
      exact Nat.le_mul_of_pos_right _ ho
    exact (Nat.pow_lt_pow_iff_right (by omega)).1 (Nat.lt_of_le_of_lt this h)
/-- Euclid's step -/
theorem gcd_step (a b : Nat) : Nat.gcd b (a % b) = Nat.gcd a b := by
  rw [Nat.gcd_comm b, Nat.gcd_comm a, ← Nat.gcd_rec]
theorem gcd_lt {a b B : Nat} (ha : a < B) (hb : b < B) : Nat.gcd a b < B := by
  rcases Nat.eq_zero_or_pos a with h | h
  · subst h; rw [Nat.gcd_zero_left]; exact hb
  · exact Nat.lt_of_le_of_lt (Nat.gcd_le_left b h) ha
end Go.Proofs.YthpbaaanbimapaaGreatDoor

namespace Go.Proofs.YthpbaaanbimapaaGreatDoor
set_option maxRecDepth 100000
open Go.RowKit
set_option linter.unusedVariables false
set_option linter.unusedSimpArgs false

theorem mesV_val {w : World} {A : Option Addr} {n c : Nat} {xs : List Int} (h : Sl w A n c xs) : mesV (.slice A n c) w = val xs := by
  rcases Nat.eq_zero_or_pos n with h0 | h0
  · subst h0
    have e : xs = [] := List.eq_nil_of_length_eq_zero h.len.symm
    subst e
    unfold mesV
    split
    · rename_i b off n' c' heq
      injection heq with _ e2
      subst e2
      rfl
    · rfl
  · obtain ⟨b, off, rfl, _, hc⟩ := h.at_ (k := 0) h0
    show val (readAt w b off n) = val xs
    have e : readAt w b off n = xs := by
      unfold readAt
      apply List.ext_getElem
      · rw [List.length_map, List.length_range]; exact h.len
      · intro j h1 h2
        have hj : j < n := by simpa using h1
        simp only [List.getElem_map, List.getElem_range]
        rw [hc j hj]
        simp [cellInt, List.getD_eq_getElem?_getD, List.getElem?_eq_getElem h2]
    rw [e]

/-- Euclid's steps on words -/
def GW (G : Nat) (d r : Int) : Prop := U d ∧ U r ∧ Nat.gcd d.toNat r.toNat = G
theorem GW.step {G : Nat} {d r : Int} (h : GW G d r) (h0 : r ≠ 0) : GW G r (d.tmod r) ∧ (d.tmod r).toNat < r.toNat := by
  obtain ⟨hd, hr, hg⟩ := h
  rw [Int.tmod_eq_emod_of_nonneg hd.1]
  have hd' := hd
  have hr' := hr
  unfold U at hd hr
  have p : 0 < r := by omega
  have h1 := Int.emod_nonneg d h0
  have h2 := Int.emod_lt_of_pos d p
  have h3 : (d % r).toNat = d.toNat % r.toNat := Int.toNat_emod hd.1 hr.1
  refine ⟨⟨hr', ?_, ?_⟩, ?_⟩
  · show U (d % r); unfold U; omega
  · show Nat.gcd r.toNat (d % r).toNat = G
    rw [h3, gcd_step]; exact hg
  · show (d % r).toNat < r.toNat
    omega
theorem GW.end_ {G : Nat} {d : Int} (h : GW G d 0) : d.toNat = G := by
  have := h.2.2
  simpa using this

set_option maxHeartbeats 1000000 in
theorem gcd_word {w : World} {A : Option Addr} {n c : Nat} {xs : List Int} (h : Sl w A n c xs) (hn : n ≤ 1000000) (d : Int) (hd : U d) :
    Calls Tryz.prog 213 #[.slice A n c, .int .u64 d] w (RetSl (words (Nat.gcd (val xs) d.toNat)) w) := by
  by_cases hd0 : d = 0
  · subst hd0
    have T := nat_trim h (by omega)
    rw [show (0 : Int).toNat = 0 from rfl, Nat.gcd_zero_right]
    have HT := Lib.hid T
    clear T
    go_enter Tryz.func213, Tryz.ntmps213
    go_wp2_with fail
    refine (quot_word_zero _ _ _ _).mono ?_
    rintro e w' ⟨rfl, rfl⟩
    go_wp2_with fail
    refine HT.out.mono ?_
    rintro e w1 ⟨A1, n1, c1, rfl, s1, b1⟩
    go_wp2_with fail
    go_ret
    exact ⟨_, _, _, rfl, s1, b1⟩
  · have hp : 0 < d := by unfold U at hd; omega
    have QW := quot_word h (by omega) d hd hp
    have hlt : val xs % d.toNat < d.toNat := Nat.mod_lt _ (by omega)
    have hgw : GW (Nat.gcd (val xs) d.toNat) d ((val xs % d.toNat : Nat) : Int) := ⟨hd, by unfold U at hd ⊢; omega, by rw [Int.toNat_natCast, gcd_step]⟩
    generalize Nat.gcd (val xs) d.toNat = G at *
    generalize val xs / d.toNat = q at *
    generalize ((val xs % d.toNat : Nat) : Int) = r0 at *
    have HQ := Lib.hid QW
    have HG := Lib.hid hgw
    clear QW hgw hlt hp
    go_enter Tryz.func213, Tryz.ntmps213
    go_wp2_with fail
    refine HQ.out.mono ?_
    rintro e w1 ⟨A1, n1, c1, rfl, s1, b1⟩
    clear s1 HQ
    go_wp2_with fail
    go_loopw [1, 6] (fun dv rv wr => ∃ (d r : Int), dv = .int .u64 d ∧ rv = .int .u64 r ∧ Hid (GW G d r) ∧ Below w.heap.size w wr) (fun _ rv _ => (intOf rv).toNat)
    case atStart => exact ⟨_, _, rfl, rfl, HG, b1⟩
    case round =>
      clear HG b1
      obtain ⟨d, r, rfl, rfl, HG, hb⟩ := hrel
      by_cases hr : r = 0
      · subst hr
        have OF := fun w => nat_of d HG.out.1 w
        rw [HG.out.end_] at OF
        have HOF := Lib.hid OF
        clear OF
        go_wp2_with fail
        refine (HOF.out _).mono ?_
        rintro e w2 ⟨A2, n2, c2, rfl, s2, b2⟩
        go_wp2_with fail
        go_ret
        exact ⟨_, _, _, rfl, s2, hb.trans (b2.mono hb.size)⟩
      · have hne : (r == 0) = false := by simp [hr]
        obtain ⟨hs1, hs2⟩ := HG.out.step hr
        have HS1 := Lib.hid hs1
        have HS2 := Lib.hid hs2
        clear hs1 hs2
        go_wp2_with fail
        go_region
        go_wp2_with fail
        go_roundw
        case rel => exact ⟨_, _, rfl, rfl, HS1, hb.drew⟩
        case measure => exact HS2.out

set_option maxHeartbeats 1000000 in
theorem gcd_gcd {w : World} {A A' : Option Addr} {n n' c c' N : Nat} {xs ys : List Int} (h : Sl w A n c xs) (h' : Sl w A' n' c' ys) (hn : n ≤ N) (hn' : n' ≤ N) (hN : N ≤ 1000000) :
    Calls Tryz.prog 161 #[.slice A n c, .slice A' n' c'] w (RetSl (words (Nat.gcd (val xs) (val ys))) w) := by
  obtain ⟨G, hG⟩ : ∃ G, Nat.gcd (val xs) (val ys) = G := ⟨_, rfl⟩
  rw [hG]
  have HG := Lib.hid hG
  clear hG
  go_enter Tryz.func161, Tryz.ntmps161
  go_wp2_with fail
  go_loopw [0, 1] (fun av bv wr => ∃ (A A' : Option Addr) (n n' c c' : Nat) (xs ys : List Int), av = .slice A n c ∧ bv = .slice A' n' c' ∧ Sl wr A n c xs ∧ Sl wr A' n' c' ys ∧ n ≤ N ∧ n' ≤ N ∧ Hid (Nat.gcd (val xs) (val ys) = G) ∧ Below w.heap.size w wr) (fun _ bv wr => mesV bv wr)
  case atStart => exact ⟨_, _, _, _, _, _, xs, ys, rfl, rfl, h, h', hn, hn', HG, Below.refl _ _⟩
  case round =>
    clear h h' hn hn' HG
    obtain ⟨A, A', n, n', c, c', xs, ys, rfl, rfl, h, h', hn, hn', HG, hb⟩ := hrel
    have NW := nat_word h' (by omega)
    by_cases hs : sz ys ≤ 1
    · have hv := val_short (Dg_U h'.us) hs
      have hw1 : word1 ys = ys.getD 0 0 := by unfold word1; rw [if_neg (by omega)]
      rw [hw1, decide_eq_true hs] at NW
      have GWD := gcd_word h (by omega) (ys.getD 0 0) (h'.u 0)
      rw [← hv, HG.out] at GWD
      generalize ys.getD 0 0 = d at *
      have HNW := Lib.hid NW
      have HGW := Lib.hid GWD
      clear NW GWD hv hw1 hs
      go_wp2_with fail
      refine HNW.out.mono ?_
      rintro e w' ⟨rfl, rfl⟩
      go_wp2_with fail
      refine HGW.out.mono ?_
      rintro e w1 ⟨A1, n1, c1, rfl, s1, b1⟩
      go_wp2_with fail
      go_ret
      exact ⟨_, _, _, rfl, s1, hb.trans (b1.mono hb.size)⟩
    · rw [decide_eq_false hs] at NW
      obtain ⟨_, hp⟩ := val_long (Dg_U h'.us) (by omega)
      have QD := quot_div h h' (by omega) (by omega) hp
      have hlt := Nat.mod_lt (val xs) hp
      have hvy : val ys < W ^ N := val_lt_pow h'.us (by have := h'.len; omega)
      have hst := gcd_step (val xs) (val ys)
      rw [HG.out] at hst
      have hm := mesV_val h'
      generalize word1 ys = d at *
      generalize val xs / val ys = q at *
      generalize val xs % val ys = r at *
      have HNW := Lib.hid NW
      have HQD := Lib.hid QD
      have HLT := Lib.hid hlt
      have HVY := Lib.hid hvy
      have HST := Lib.hid hst
      have HM := Lib.hid hm
      have HH' := Lib.hid h'
      clear NW QD hlt hvy hst hm hs hp h' h
      go_wp2_with fail
      refine HNW.out.mono ?_
      rintro e w' ⟨rfl, rfl⟩
      go_wp2_with fail
      refine HQD.out.mono ?_
      rintro e w1 ⟨A1, n1, c1, A2, n2, c2, rfl, s1, s2, b1⟩
      have l2 : n2 ≤ N := s2.small (Nat.lt_trans HLT.out HVY.out)
      have hm2 := mesV_val s2
      rw [val_words] at hm2
      have HM2 := Lib.hid hm2
      have h2 := HH'.out.below b1
      have hb1 := hb.trans (b1.mono hb.size)
      clear s1 b1 hm2
      go_wp2_with fail
      go_roundw
      case rel => exact ⟨_, _, _, _, _, _, ys, words r, rfl, rfl, h2, s2, hn', l2, Lib.hid (by rw [val_words]; exact HST.out), hb1⟩
      case measure => rw [HM2.out, HM.out]; exact HLT.out

/-- quot.Div whatever the divisor: in Nat, too, a number by 0 is 0 -/
theorem quot_div_any {w : World} {A A' : Option Addr} {n n' c c' : Nat} {xs ys : List Int} (h : Sl w A n c xs) (h' : Sl w A' n' c' ys) (hn : n ≤ 1000000) (hn' : n' ≤ 1000000) :
    Calls Tryz.prog 86 #[.slice A n c, .slice A' n' c'] w fun e w' => ∃ r ok, RetDiv (val xs / val ys) r ok w e w' := by
  rcases Nat.eq_zero_or_pos (val ys) with h0 | h0
  · refine (quot_div_zero (A := A) (n := n) (c := c) h' hn' h0).mono fun e w' H => ⟨0, false, ?_⟩
    rw [h0, Nat.div_zero]
    exact H
  · exact (quot_div h h' hn hn' h0).mono fun e w' H => ⟨_, _, H⟩

set_option maxHeartbeats 1000000 in
theorem gcd_reduce {w : World} {A A' : Option Addr} {n n' c c' N : Nat} {xs ys : List Int} (h : Sl w A n c xs) (h' : Sl w A' n' c' ys) (hn : n ≤ N) (hn' : n' ≤ N) (hN : N ≤ 1000000) :
    Calls Tryz.prog 200 #[.slice A n c, .slice A' n' c'] w (RetQR (val xs / Nat.gcd (val xs) (val ys)) (val ys / Nat.gcd (val xs) (val ys)) w) := by
  have va : val xs < W ^ N := val_lt_pow h.us (by have := h.len; omega)
  have vb : val ys < W ^ N := val_lt_pow h'.us (by have := h'.len; omega)
  have vg := gcd_lt va vb
  have GG := gcd_gcd h h' hn hn' hN
  have D1 := fun w1 (hb : Below w.heap.size w w1) (B : Option Addr) (nb cb X : Nat) (s : Sl w1 B nb cb (words X)) (hnb : nb ≤ N) => quot_div_any (h.below hb) s (by omega) (by omega)
  have D2 := fun w1 (hb : Below w.heap.size w w1) (B : Option Addr) (nb cb X : Nat) (s : Sl w1 B nb cb (words X)) (hnb : nb ≤ N) => quot_div_any (h'.below hb) s (by omega) (by omega)
  generalize Nat.gcd (val xs) (val ys) = g at *
  have HG := Lib.hid GG
  have HD1 := Lib.hid D1
  have HD2 := Lib.hid D2
  have HV := Lib.hid vg
  clear GG D1 D2 va vb vg h h'
  go_enter Tryz.func200, Tryz.ntmps200
  go_wp2_with fail
  refine HG.out.mono ?_
  rintro e w1 ⟨A1, n1, c1, rfl, s1, b1⟩
  have l1 : n1 ≤ N := s1.small HV.out
  have S1 := HD1.out w1 b1 A1 n1 c1 g s1 l1
  have H1 := Lib.hid S1
  clear S1
  go_wp2_with fail
  refine H1.out.mono ?_
  rintro e w2 ⟨r2, o2, A2, n2, c2, A3, n3, c3, rfl, s2, s3, b2⟩
  have hb2 := b1.trans (b2.mono b1.size)
  have S2 := HD2.out w2 hb2 A1 n1 c1 g (s1.below b2) l1
  have H2 := Lib.hid S2
  clear S2 s3 H1 s1
  go_wp2_with fail
  refine H2.out.mono ?_
  rintro e w4 ⟨r4, o4, A4, n4, c4, A5, n5, c5, rfl, s4, s5, b4⟩
  rw [val_words] at s2 s4
  have s2' := s2.below b4
  have hb4 := hb2.trans (b4.mono hb2.size)
  clear s5 H2 s2
  go_wp2_with fail
  go_ret2
  exact ⟨_, _, _, _, _, _, rfl, s2', s4, hb4⟩

theorem cmpN_zero (a b : Nat) : (cmpN a b == 0) = decide (a = b) := by
  unfold cmpN
  split
  · rw [decide_eq_false (by omega)]; rfl
  · split
    · rw [decide_eq_false (by omega)]; rfl
    · rw [decide_eq_true (by omega)]; rfl
set_option maxHeartbeats 1000000 in
theorem gcd_coprime {w : World} {A A' : Option Addr} {n n' c c' N : Nat} {xs ys : List Int} (h : Sl w A n c xs) (h' : Sl w A' n' c' ys) (hn : n ≤ N) (hn' : n' ≤ N) (hN : N ≤ 100000) :
    Calls Tryz.prog 96 #[.slice A n c, .slice A' n' c'] w fun e w' => e = .returned (.bool (decide (Nat.gcd (val xs) (val ys) = 1))) ∧ Below w.heap.size w w' := by
  have va : val xs < W ^ N := val_lt_pow h.us (by have := h.len; omega)
  have vb : val ys < W ^ N := val_lt_pow h'.us (by have := h'.len; omega)
  have vg := gcd_lt va vb
  have GG := gcd_gcd h h' hn hn' (by omega)
  obtain ⟨g, hg⟩ : ∃ g, Nat.gcd (val xs) (val ys) = g := ⟨_, rfl⟩
  obtain ⟨bb, hbb⟩ : ∃ b, decide (Nat.gcd (val xs) (val ys) = 1) = b := ⟨_, rfl⟩
  rw [hbb]
  rw [hg] at GG vg
  simp only [hg] at hbb
  have OF := fun w => nat_of 1 (by unfold U; omega) w
  rw [show (1 : Int).toNat = 1 from rfl] at OF
  have HG := Lib.hid GG
  have HV := Lib.hid vg
  have HO := Lib.hid OF
  have HB := Lib.hid hbb
  clear GG va vb vg h h' OF hbb hg
  go_enter Tryz.func96, Tryz.ntmps96
  go_wp2_with fail
  refine HG.out.mono ?_
  rintro e w1 ⟨A1, n1, c1, rfl, s1, b1⟩
  have l1 : n1 ≤ N := s1.small HV.out
  go_wp2_with fail
  refine (HO.out _).mono ?_
  rintro e w2 ⟨A2, n2, c2, rfl, s2, b2⟩
  have l2 : n2 ≤ 1 := s2.small (by rw [Nat.pow_one]; unfold W; omega)
  have CM := nat_cmp (s1.below b2) s2 (by omega) (by omega)
  have ez := cmpN_zero g 1
  rw [val_words, val_words] at CM
  rw [HB.out] at ez
  generalize cmpN g 1 = cm at CM ez
  have HC := Lib.hid CM
  have hb2 := b1.trans (b2.mono b1.size)
  clear CM s1 s2 b1 b2 HG
  go_wp2_with fail
  refine HC.out.mono ?_
  rintro e w' ⟨rfl, rfl⟩
  go_wp2_with fail
  go_ret
  exact ⟨rfl, hb2⟩

end Go.Proofs.YthpbaaanbimapaaGreatDoor

namespace Go.Proofs.YthpbaaanbimapaaGreatDoor
set_option maxRecDepth 100000
open Go.RowKit
set_option linter.unusedVariables false
set_option linter.unusedSimpArgs false

theorem words_single {x : Int} (hx : U x) (h : 0 < x) : words x.toNat = [x] := by
  rw [← val_one x, words_val (Dg_U (by intro y hy; simp at hy; subst hy; exact hx)), trim_cons]
  simp [sz]
  omega
theorem shr_odd (v : Nat) : v / 2 ^ ((tz v : Nat) : Int).toNat = odd v := by rw [Int.toNat_natCast]; rfl
theorem tz_lim {v N : Nat} (h : v < W ^ N) : tz v ≤ 64 * N := by
  have : v < 2 ^ (64 * N + 1) := by
    rw [W_pow, ← Nat.pow_mul] at h
    exact Nat.lt_of_lt_of_le h (Nat.pow_le_pow_right (by omega) (by omega))
  have := tz_lt this (by omega)
  omega
theorem tz_small {v N : Nat} (h : v < W ^ N) (hN : N ≤ 1000) : tz v ≤ 65536 := by
  have := tz_lim h
  omega

/-- the two numbers, odd, of a round -/
def Odds (G N X Y : Nat) : Prop := X % 2 = 1 ∧ Y % 2 = 1 ∧ X < W ^ N ∧ Y < W ^ N ∧ Nat.gcd X Y = G
theorem Odds.less {G N X Y : Nat} (h : Odds G N X Y) (hl : Y < X) : Odds G N (odd (X - Y)) Y ∧ odd (X - Y) + Y < X + Y := by
  obtain ⟨hx, hy, hX, hY, hg⟩ := h
  obtain ⟨h1, h2, h3⟩ := gcd_round hx hy hl
  exact ⟨⟨h2, hy, by omega, hY, by rw [h1]; exact hg⟩, by omega⟩
theorem Odds.swap {G N X Y : Nat} (h : Odds G N X Y) : Odds G N Y X := by
  obtain ⟨hx, hy, hX, hY, hg⟩ := h
  exact ⟨hy, hx, hY, hX, by rw [Nat.gcd_comm]; exact hg⟩

set_option maxHeartbeats 2000000 in
theorem ref_gcdT {w : World} {A A' : Option Addr} {n n' c c' N : Nat} {xs ys : List Int} (h : Sl w A n c xs) (h' : Sl w A' n' c' ys) (hn : n ≤ N) (hn' : n' ≤ N) (hN : N ≤ 90000) (hz : min (tz (val xs)) (tz (val ys)) ≤ 65536) :
    Calls Tryz.prog 101 #[.slice A n c, .slice A' n' c'] w (RetSl (words (Nat.gcd (val xs) (val ys))) w) := by
  have va : val xs < W ^ N := val_lt_pow h.us (by have := h.len; omega)
  have vb : val ys < W ^ N := val_lt_pow h'.us (by have := h'.len; omega)
  have HZM := Lib.hid hz
  clear hz
  have za : val xs = 0 ↔ sz xs = 0 := valB_zero_iff W_pos (Dg_U h.us)
  have zb : val ys = 0 ↔ sz ys = 0 := valB_zero_iff W_pos (Dg_U h'.us)
  have ZA := ref_size h (by omega)
  have ZB := ref_size h' (by omega)
  by_cases ha : sz xs = 0
  · rw [ha] at ZA
    rw [za.2 ha, Nat.gcd_zero_left]
    have HT := Lib.hid (ref_trim h' (by omega))
    have HZ := Lib.hid ZA
    clear ZA ZB va vb za zb ha
    go_enter Tryz.func101, Tryz.ntmps101
    go_wp2_with fail
    refine HZ.out.mono ?_
    rintro e w' ⟨rfl, rfl⟩
    go_wp2_with fail
    refine HT.out.mono ?_
    rintro e w1 ⟨A1, n1, c1, rfl, s1, b1⟩
    go_wp2_with fail
    go_ret
    exact ⟨_, _, _, rfl, s1, b1⟩
  by_cases hb : sz ys = 0
  · rw [hb] at ZB
    rw [zb.2 hb, Nat.gcd_zero_right]
    have HT := Lib.hid (ref_trim h (by omega))
    have ha0 : ((sz xs : Int) == 0) = false := by simp; omega
    generalize ((sz xs : Nat) : Int) = p at *
    have HZ := Lib.hid ZA
    have HZB := Lib.hid ZB
    clear ZA ZB va vb za zb hb
    go_enter Tryz.func101, Tryz.ntmps101
    go_wp2_with fail
    refine HZ.out.mono ?_
    rintro e w' ⟨rfl, rfl⟩
    go_wp2_with fail
    refine HZB.out.mono ?_
    rintro e w' ⟨rfl, rfl⟩
    go_wp2_with fail
    refine HT.out.mono ?_
    rintro e w1 ⟨A1, n1, c1, rfl, s1, b1⟩
    go_wp2_with fail
    go_ret
    exact ⟨_, _, _, rfl, s1, b1⟩
  by_cases h11 : sz xs = 1 ∧ sz ys = 1
  · have hva := val_short (Dg_U h.us) (by omega)
    have hvb := val_short (Dg_U h'.us) (by omega)
    have hl1 : 0 < n := by have := sz_le xs; have := h.len; omega
    have hl2 : 0 < n' := by have := sz_le ys; have := h'.len; omega
    obtain ⟨p1, o1, rfl, _, hc1⟩ := h.at_ (k := 0) hl1
    obtain ⟨p2, o2, rfl, _, hc2⟩ := h'.at_ (k := 0) hl2
    have k1 := hc1 0 hl1
    have k2 := hc2 0 hl2
    rw [Nat.add_zero] at k1 k2
    have hg : GW (Nat.gcd (val xs) (val ys)) (xs.getD 0 0) (ys.getD 0 0) := ⟨h.u 0, h'.u 0, by rw [hva, hvb]⟩
    have hgp : 0 < Nat.gcd (val xs) (val ys) := Nat.gcd_pos_of_pos_left _ (Nat.pos_of_ne_zero (fun e => ha (za.1 e)))
    rw [h11.1] at ZA
    rw [h11.2] at ZB
    generalize Nat.gcd (val xs) (val ys) = G at *
    generalize xs.getD 0 0 = x0 at *
    generalize ys.getD 0 0 = y0 at *
    have HZ := Lib.hid ZA
    have HZB := Lib.hid ZB
    have HG := Lib.hid hg
    have HGP := Lib.hid hgp
    clear ZA ZB va vb za zb ha hb hg hgp hva hvb h11 hc1 hc2 h h'
    go_enter Tryz.func101, Tryz.ntmps101
    go_wp2_with fail
    refine HZ.out.mono ?_
    rintro e w' ⟨rfl, rfl⟩
    go_wp2_with fail
    refine HZB.out.mono ?_
    rintro e w' ⟨rfl, rfl⟩
    go_wp2_with fail
    refine HZ.out.mono ?_
    rintro e w' ⟨rfl, rfl⟩
    go_wp2_with fail
    refine HZB.out.mono ?_
    rintro e w' ⟨rfl, rfl⟩
    go_wp2_with fail
    go_region
    go_wp2_with fail
    go_loopw [5, 6] (fun dv rv wr => ∃ (d r : Int), dv = .int .u64 d ∧ rv = .int .u64 r ∧ Hid (GW G d r) ∧ Below w.heap.size w wr) (fun _ rv _ => (intOf rv).toNat)
    case atStart => exact ⟨_, _, rfl, rfl, HG, (Below.refl _ _).drew⟩
    case round =>
      clear HG k1 k2 HZ HZB
      obtain ⟨d, r, rfl, rfl, HG, hb⟩ := hrel
      by_cases hr : r = 0
      · subst hr
        have hd := HG.out.1
        have he := HG.out.end_
        have hw : words G = [d] := by rw [← he]; exact words_single hd (by have := HGP.out; omega)
        have HW := Lib.hid hw
        have HD := Lib.hid hd
        clear hw hd he
        go_wp2_with fail
        go_ret
        exact ⟨_, _, _, rfl, by rw [HW.out]; exact sl_lit _ d HD.out, hb.alloc hb.size _⟩
      · have hrp : 0 < r := by have := HG.out.2.1; unfold U at this; omega
        have hne : (r == 0) = false := by simp [hr]
        obtain ⟨hs1, hs2⟩ := HG.out.step hr
        have HS1 := Lib.hid hs1
        have HS2 := Lib.hid hs2
        clear hs1 hs2
        go_wp2_with fail
        go_region
        go_wp2_with fail
        go_roundw
        case rel => exact ⟨_, _, rfl, rfl, HS1, hb.drew⟩
        case measure => exact HS2.out
  have ha0 : ((sz xs : Int) == 0) = false := by simp; omega
  have hb0 : ((sz ys : Int) == 0) = false := by simp; omega
  have hna : val xs ≠ 0 := fun e => ha (za.1 e)
  have hnb : val ys ≠ 0 := fun e => hb (zb.1 e)
  have EA := fun w1 (hb : Below w.heap.size w w1) => ref_even (h.below hb) (by omega)
  have EB := fun w1 (hb : Below w.heap.size w w1) => ref_even (h'.below hb) (by omega)
  have ta := tz_lim va
  have tb := tz_lim vb
  have RA := fun w1 (hb : Below w.heap.size w w1) => ref_shr (h.below hb) (by omega) (tz (val xs) : Nat) (by omega)
  have RB := fun w1 (hb : Below w.heap.size w w1) => ref_shr (h'.below hb) (by omega) (tz (val ys) : Nat) (by omega)
  rw [shr_odd] at RA RB
  have od : Odds (Nat.gcd (odd (val xs)) (odd (val ys))) N (odd (val xs)) (odd (val ys)) := ⟨(odd_eq hna).2, (odd_eq hnb).2, Nat.lt_of_le_of_lt (odd_le _) va, Nat.lt_of_le_of_lt (odd_le _) vb, rfl⟩
  rw [gcd_start hna hnb]
  generalize Nat.gcd (odd (val xs)) (odd (val ys)) = G at *
  generalize odd (val xs) = X0 at *
  generalize odd (val ys) = Y0 at *
  obtain ⟨t1, et1⟩ : ∃ t, tz (val xs) = t := ⟨_, rfl⟩
  obtain ⟨t2, et2⟩ : ∃ t, tz (val ys) = t := ⟨_, rfl⟩
  rw [et1, et2]
  rw [et1] at EA RA ta
  rw [et2] at EB RB tb
  obtain ⟨m, em⟩ : ∃ m, min t1 t2 = m := ⟨_, rfl⟩
  have emi : (t1 ≤ t2 ∧ m = t1) ∨ (t2 < t1 ∧ m = t2) := by omega
  have hm : m ≤ 65536 := by have := HZM.out; rw [et1, et2, em] at this; exact this
  clear HZM
  rw [em]
  have hmm : clampS (m : Int) = m := by rw [clampS_mid (by omega) (by omega)]; omega
  have HEA := Lib.hid EA
  have HEB := Lib.hid EB
  have HRA := Lib.hid RA
  have HRB := Lib.hid RB
  have HOD := Lib.hid od
  have HMM := Lib.hid hmm
  have HZ := Lib.hid ZA
  have HZB := Lib.hid ZB
  clear ZA ZB va vb za zb hna hnb EA EB RA RB od ta tb et1 et2 em h h' hmm
  rcases emi with ⟨hle, rfl⟩ | ⟨hle, rfl⟩
  all_goals
    by_cases h1 : sz xs = 1
    · have hb1 : ((sz ys : Int) == 1) = false := by simp; omega
      rw [h1] at HZ
      generalize ((sz ys : Nat) : Int) = q at *
      clear ha hb h11 h1 ha0
      go_enter Tryz.func101, Tryz.ntmps101
      go_wp2_with fail
      refine HZ.out.mono ?_
      rintro e w' ⟨rfl, rfl⟩
      go_wp2_with fail
      refine HZB.out.mono ?_
      rintro e w' ⟨rfl, rfl⟩
      go_wp2_with fail
      refine HZ.out.mono ?_
      rintro e w' ⟨rfl, rfl⟩
      go_wp2_with fail
      refine HZB.out.mono ?_
      rintro e w' ⟨rfl, rfl⟩
      go_wp2_with fail
      refine (HEA.out _ (Below.refl _ _)).mono ?_
      rintro e w' ⟨rfl, rfl⟩
      go_wp2_with fail
      refine (HEB.out _ (Below.refl _ _)).mono ?_
      rintro e w' ⟨rfl, rfl⟩
      go_wp2_with fail
      refine (HEA.out _ (Below.refl _ _)).mono ?_
      rintro e w' ⟨rfl, rfl⟩
      go_wp2_with fail
      refine (HRA.out _ (Below.refl _ _)).mono ?_
      rintro e w1 ⟨A1, n1, c1, rfl, s1, b1⟩
      go_wp2_with fail
      refine (HEB.out _ b1).mono ?_
      rintro e w' ⟨rfl, rfl⟩
      go_wp2_with fail
      refine (HRB.out _ b1).mono ?_
      rintro e w2 ⟨A2, n2, c2, rfl, s2, b2⟩
      have hb2 := b1.trans (b2.mono b1.size)
      have s1' := s1.below b2
      clear s1 b1 b2 HEA HEB HRA HRB HZ HZB
      go_wp2_with fail
      go_loopw [8, 9] (fun xv yv wr => ∃ (X Y : Nat) (A A' : Option Addr) (n n' c c' : Nat), xv = .slice A n c ∧ yv = .slice A' n' c' ∧ Sl wr A n c (words X) ∧ Sl wr A' n' c' (words Y) ∧ Hid (Odds G N X Y) ∧ Below w.heap.size w wr) (fun xv yv wr => mesV xv wr + mesV yv wr)
      case atStart => exact ⟨_, _, _, _, _, _, _, _, rfl, rfl, s1', s2, HOD, hb2⟩
      case round =>
        clear s1' s2 HOD hb2
        obtain ⟨X, Y, A, A', n, n', c, c', rfl, rfl, sx, sy, HO, hb⟩ := hrel
        have lx : n ≤ N := sx.small HO.out.2.2.1
        have ly : n' ≤ N := sy.small HO.out.2.2.2.1
        have hmx := mesV_val sx
        have hmy := mesV_val sy
        rw [val_words] at hmx hmy
        have CM := ref_cmp sx sy (by omega) (by omega)
        rw [val_words, val_words] at CM
        have HMX := Lib.hid hmx
        have HMY := Lib.hid hmy
        clear hmx hmy
        rcases Nat.lt_trichotomy X Y with hlt | heq | hgt
        · rw [cmpN_lt hlt] at CM
          obtain ⟨ho, hms⟩ := HO.out.swap.less hlt
          have SB := ref_nsub sy sx (by omega) (by omega) (by rw [val_words, val_words]; omega)
          rw [val_words, val_words] at SB
          have hsm : Y - X < W ^ N := Nat.lt_of_le_of_lt (Nat.sub_le _ _) HO.out.2.2.2.1
          have HC := Lib.hid CM
          have HSB := Lib.hid SB
          have HNO := Lib.hid ho
          have HMS := Lib.hid hms
          have HSM := Lib.hid hsm
          clear CM SB ho hms hsm hlt sy
          go_wp2_with fail
          refine HC.out.mono ?_
          rintro e w' ⟨rfl, rfl⟩
          go_wp2_with fail
          refine HSB.out.mono ?_
          rintro e w3 ⟨A3, n3, c3, rfl, s3, b3⟩
          have l3 : n3 ≤ N := s3.small HSM.out
          have hb3 := hb.trans (b3.mono hb.size)
          have sx3 := sx.below b3
          have EV := ref_even s3 (by omega)
          have SR := ref_shr s3 (by omega) (tz (Y - X) : Nat) (by have := tz_lim HSM.out; omega)
          rw [val_words] at EV SR
          rw [shr_odd] at SR
          generalize ((tz (Y - X) : Nat) : Int) = tt at EV SR
          have HEV := Lib.hid EV
          have HSR := Lib.hid SR
          clear EV SR s3 b3 sx HSB
          go_wp2_with fail
          refine HEV.out.mono ?_
          rintro e w' ⟨rfl, rfl⟩
          go_wp2_with fail
          refine HSR.out.mono ?_
          rintro e w4 ⟨A4, n4, c4, rfl, s4, b4⟩
          have hb4 := hb3.trans (b4.mono hb3.size)
          have sx4 := sx3.below b4
          have m4 := mesV_val s4
          have mx4 := mesV_val sx4
          rw [val_words] at m4 mx4
          have HM4 := Lib.hid m4
          have HMX4 := Lib.hid mx4
          clear m4 mx4 HEV HSR b4 sx3
          go_wp2_with fail
          go_roundw
          case rel => exact ⟨_, _, _, _, _, _, _, _, rfl, rfl, s4, sx4, HNO, hb4⟩
          case measure => rw [HM4.out, HMX4.out, HMX.out, HMY.out]; have := HMS.out; omega
        · subst heq
          rw [cmpN_eq] at CM
          have SL := ref_shl sx (by omega) (m : Int)
          have hG : X = G := by have := HO.out.2.2.2.2; rw [Nat.gcd_self] at this; exact this
          rw [val_words, HMM.out, hG] at SL
          have HC := Lib.hid CM
          have HSL := Lib.hid SL
          clear CM SL hG
          go_wp2_with fail
          refine HC.out.mono ?_
          rintro e w' ⟨rfl, rfl⟩
          go_wp2_with fail
          refine HSL.out.mono ?_
          rintro e w3 ⟨A3, n3, c3, rfl, s3, b3⟩
          go_wp2_with fail
          go_ret
          exact ⟨_, _, _, rfl, s3, hb.trans (b3.mono hb.size)⟩
        · rw [cmpN_gt hgt] at CM
          obtain ⟨ho, hms⟩ := HO.out.less hgt
          have SB := ref_nsub sx sy (by omega) (by omega) (by rw [val_words, val_words]; omega)
          rw [val_words, val_words] at SB
          have hsm : X - Y < W ^ N := Nat.lt_of_le_of_lt (Nat.sub_le _ _) HO.out.2.2.1
          have HC := Lib.hid CM
          have HSB := Lib.hid SB
          have HNO := Lib.hid ho
          have HMS := Lib.hid hms
          have HSM := Lib.hid hsm
          clear CM SB ho hms hsm hgt sx
          go_wp2_with fail
          refine HC.out.mono ?_
          rintro e w' ⟨rfl, rfl⟩
          go_wp2_with fail
          refine HSB.out.mono ?_
          rintro e w3 ⟨A3, n3, c3, rfl, s3, b3⟩
          have l3 : n3 ≤ N := s3.small HSM.out
          have hb3 := hb.trans (b3.mono hb.size)
          have sy3 := sy.below b3
          have EV := ref_even s3 (by omega)
          have SR := ref_shr s3 (by omega) (tz (X - Y) : Nat) (by have := tz_lim HSM.out; omega)
          rw [val_words] at EV SR
          rw [shr_odd] at SR
          generalize ((tz (X - Y) : Nat) : Int) = tt at EV SR
          have HEV := Lib.hid EV
          have HSR := Lib.hid SR
          clear EV SR s3 b3 sy HSB
          go_wp2_with fail
          refine HEV.out.mono ?_
          rintro e w' ⟨rfl, rfl⟩
          go_wp2_with fail
          refine HSR.out.mono ?_
          rintro e w4 ⟨A4, n4, c4, rfl, s4, b4⟩
          have hb4 := hb3.trans (b4.mono hb3.size)
          have sy4 := sy3.below b4
          have m4 := mesV_val s4
          have my4 := mesV_val sy4
          rw [val_words] at m4 my4
          have HM4 := Lib.hid m4
          have HMY4 := Lib.hid my4
          clear m4 my4 HEV HSR b4 sy3
          go_wp2_with fail
          go_roundw
          case rel => exact ⟨_, _, _, _, _, _, _, _, rfl, rfl, s4, sy4, HNO, hb4⟩
          case measure => rw [HM4.out, HMY4.out, HMX.out, HMY.out]; have := HMS.out; omega
    · have ha1 : ((sz xs : Int) == 1) = false := by simp; omega
      generalize ((sz ys : Nat) : Int) = q at *
      generalize ((sz xs : Nat) : Int) = p at *
      clear ha hb h11 h1
      go_enter Tryz.func101, Tryz.ntmps101
      go_wp2_with fail
      refine HZ.out.mono ?_
      rintro e w' ⟨rfl, rfl⟩
      go_wp2_with fail
      refine HZB.out.mono ?_
      rintro e w' ⟨rfl, rfl⟩
      go_wp2_with fail
      refine HZ.out.mono ?_
      rintro e w' ⟨rfl, rfl⟩
      go_wp2_with fail
      refine (HEA.out _ (Below.refl _ _)).mono ?_
      rintro e w' ⟨rfl, rfl⟩
      go_wp2_with fail
      refine (HEB.out _ (Below.refl _ _)).mono ?_
      rintro e w' ⟨rfl, rfl⟩
      go_wp2_with fail
      refine (HEA.out _ (Below.refl _ _)).mono ?_
      rintro e w' ⟨rfl, rfl⟩
      go_wp2_with fail
      refine (HRA.out _ (Below.refl _ _)).mono ?_
      rintro e w1 ⟨A1, n1, c1, rfl, s1, b1⟩
      go_wp2_with fail
      refine (HEB.out _ b1).mono ?_
      rintro e w' ⟨rfl, rfl⟩
      go_wp2_with fail
      refine (HRB.out _ b1).mono ?_
      rintro e w2 ⟨A2, n2, c2, rfl, s2, b2⟩
      have hb2 := b1.trans (b2.mono b1.size)
      have s1' := s1.below b2
      clear s1 b1 b2 HEA HEB HRA HRB HZ HZB
      go_wp2_with fail
      go_loopw [8, 9] (fun xv yv wr => ∃ (X Y : Nat) (A A' : Option Addr) (n n' c c' : Nat), xv = .slice A n c ∧ yv = .slice A' n' c' ∧ Sl wr A n c (words X) ∧ Sl wr A' n' c' (words Y) ∧ Hid (Odds G N X Y) ∧ Below w.heap.size w wr) (fun xv yv wr => mesV xv wr + mesV yv wr)
      case atStart => exact ⟨_, _, _, _, _, _, _, _, rfl, rfl, s1', s2, HOD, hb2⟩
      case round =>
        clear s1' s2 HOD hb2
        obtain ⟨X, Y, A, A', n, n', c, c', rfl, rfl, sx, sy, HO, hb⟩ := hrel
        have lx : n ≤ N := sx.small HO.out.2.2.1
        have ly : n' ≤ N := sy.small HO.out.2.2.2.1
        have hmx := mesV_val sx
        have hmy := mesV_val sy
        rw [val_words] at hmx hmy
        have CM := ref_cmp sx sy (by omega) (by omega)
        rw [val_words, val_words] at CM
        have HMX := Lib.hid hmx
        have HMY := Lib.hid hmy
        clear hmx hmy
        rcases Nat.lt_trichotomy X Y with hlt | heq | hgt
        · rw [cmpN_lt hlt] at CM
          obtain ⟨ho, hms⟩ := HO.out.swap.less hlt
          have SB := ref_nsub sy sx (by omega) (by omega) (by rw [val_words, val_words]; omega)
          rw [val_words, val_words] at SB
          have hsm : Y - X < W ^ N := Nat.lt_of_le_of_lt (Nat.sub_le _ _) HO.out.2.2.2.1
          have HC := Lib.hid CM
          have HSB := Lib.hid SB
          have HNO := Lib.hid ho
          have HMS := Lib.hid hms
          have HSM := Lib.hid hsm
          clear CM SB ho hms hsm hlt sy
          go_wp2_with fail
          refine HC.out.mono ?_
          rintro e w' ⟨rfl, rfl⟩
          go_wp2_with fail
          refine HSB.out.mono ?_
          rintro e w3 ⟨A3, n3, c3, rfl, s3, b3⟩
          have l3 : n3 ≤ N := s3.small HSM.out
          have hb3 := hb.trans (b3.mono hb.size)
          have sx3 := sx.below b3
          have EV := ref_even s3 (by omega)
          have SR := ref_shr s3 (by omega) (tz (Y - X) : Nat) (by have := tz_lim HSM.out; omega)
          rw [val_words] at EV SR
          rw [shr_odd] at SR
          generalize ((tz (Y - X) : Nat) : Int) = tt at EV SR
          have HEV := Lib.hid EV
          have HSR := Lib.hid SR
          clear EV SR s3 b3 sx HSB
          go_wp2_with fail
          refine HEV.out.mono ?_
          rintro e w' ⟨rfl, rfl⟩
          go_wp2_with fail
          refine HSR.out.mono ?_
          rintro e w4 ⟨A4, n4, c4, rfl, s4, b4⟩
          have hb4 := hb3.trans (b4.mono hb3.size)
          have sx4 := sx3.below b4
          have m4 := mesV_val s4
          have mx4 := mesV_val sx4
          rw [val_words] at m4 mx4
          have HM4 := Lib.hid m4
          have HMX4 := Lib.hid mx4
          clear m4 mx4 HEV HSR b4 sx3
          go_wp2_with fail
          go_roundw
          case rel => exact ⟨_, _, _, _, _, _, _, _, rfl, rfl, s4, sx4, HNO, hb4⟩
          case measure => rw [HM4.out, HMX4.out, HMX.out, HMY.out]; have := HMS.out; omega
        · subst heq
          rw [cmpN_eq] at CM
          have SL := ref_shl sx (by omega) (m : Int)
          have hG : X = G := by have := HO.out.2.2.2.2; rw [Nat.gcd_self] at this; exact this
          rw [val_words, HMM.out, hG] at SL
          have HC := Lib.hid CM
          have HSL := Lib.hid SL
          clear CM SL hG
          go_wp2_with fail
          refine HC.out.mono ?_
          rintro e w' ⟨rfl, rfl⟩
          go_wp2_with fail
          refine HSL.out.mono ?_
          rintro e w3 ⟨A3, n3, c3, rfl, s3, b3⟩
          go_wp2_with fail
          go_ret
          exact ⟨_, _, _, rfl, s3, hb.trans (b3.mono hb.size)⟩
        · rw [cmpN_gt hgt] at CM
          obtain ⟨ho, hms⟩ := HO.out.less hgt
          have SB := ref_nsub sx sy (by omega) (by omega) (by rw [val_words, val_words]; omega)
          rw [val_words, val_words] at SB
          have hsm : X - Y < W ^ N := Nat.lt_of_le_of_lt (Nat.sub_le _ _) HO.out.2.2.1
          have HC := Lib.hid CM
          have HSB := Lib.hid SB
          have HNO := Lib.hid ho
          have HMS := Lib.hid hms
          have HSM := Lib.hid hsm
          clear CM SB ho hms hsm hgt sx
          go_wp2_with fail
          refine HC.out.mono ?_
          rintro e w' ⟨rfl, rfl⟩
          go_wp2_with fail
          refine HSB.out.mono ?_
          rintro e w3 ⟨A3, n3, c3, rfl, s3, b3⟩
          have l3 : n3 ≤ N := s3.small HSM.out
          have hb3 := hb.trans (b3.mono hb.size)
          have sy3 := sy.below b3
          have EV := ref_even s3 (by omega)
          have SR := ref_shr s3 (by omega) (tz (X - Y) : Nat) (by have := tz_lim HSM.out; omega)
          rw [val_words] at EV SR
          rw [shr_odd] at SR
          generalize ((tz (X - Y) : Nat) : Int) = tt at EV SR
          have HEV := Lib.hid EV
          have HSR := Lib.hid SR
          clear EV SR s3 b3 sy HSB
          go_wp2_with fail
          refine HEV.out.mono ?_
          rintro e w' ⟨rfl, rfl⟩
          go_wp2_with fail
          refine HSR.out.mono ?_
          rintro e w4 ⟨A4, n4, c4, rfl, s4, b4⟩
          have hb4 := hb3.trans (b4.mono hb3.size)
          have sy4 := sy3.below b4
          have m4 := mesV_val s4
          have my4 := mesV_val sy4
          rw [val_words] at m4 my4
          have HM4 := Lib.hid m4
          have HMY4 := Lib.hid my4
          clear m4 my4 HEV HSR b4 sy3
          go_wp2_with fail
          go_roundw
          case rel => exact ⟨_, _, _, _, _, _, _, _, rfl, rfl, s4, sy4, HNO, hb4⟩
          case measure => rw [HM4.out, HMY4.out, HMX.out, HMY.out]; have := HMS.out; omega

theorem ref_gcd {w : World} {A A' : Option Addr} {n n' c c' N : Nat} {xs ys : List Int} (h : Sl w A n c xs) (h' : Sl w A' n' c' ys) (hn : n ≤ N) (hn' : n' ≤ N) (hN : N ≤ 1000) :
    Calls Tryz.prog 101 #[.slice A n c, .slice A' n' c'] w (RetSl (words (Nat.gcd (val xs) (val ys))) w) := by
  have va : val xs < W ^ N := val_lt_pow h.us (by have := h.len; omega)
  have := tz_small va hN
  exact ref_gcdT h h' hn hn' (by omega) (by omega)

set_option maxHeartbeats 1000000 in
theorem ref_part {w : World} {A A' : Option Addr} {n n' c c' N : Nat} {xs ys : List Int} (h : Sl w A n c xs) (h' : Sl w A' n' c' ys) (hn : n ≤ N) (hn' : n' ≤ N) (hN : N ≤ 90000) :
    Calls Tryz.prog 107 #[.slice A n c, .slice A' n' c'] w (RetSl (words (val xs / val ys)) w) := by
  have zb : val ys = 0 ↔ sz ys = 0 := valB_zero_iff W_pos (Dg_U h'.us)
  have ZB := ref_size h' (by omega)
  by_cases hb : sz ys = 0
  · rw [hb] at ZB
    rw [zb.2 hb, Nat.div_zero]
    have HZ := Lib.hid ZB
    clear ZB zb hb
    go_enter Tryz.func107, Tryz.ntmps107
    go_wp2_with fail
    refine HZ.out.mono ?_
    rintro e w' ⟨rfl, rfl⟩
    go_wp2_with fail
    go_ret
    exact ⟨_, _, _, rfl, Sl.nil _ _ _, Below.refl _ _⟩
  have hb0 : ((sz ys : Int) == 0) = false := by simp; omega
  have hp : 0 < val ys := Nat.pos_of_ne_zero (fun e => hb (zb.1 e))
  generalize ((sz ys : Nat) : Int) = p at *
  have CM := ref_cmp (h'.below (below_alloc w (.cells #[.int .u64 1] 34))) (sl_lit w 1 (by unfold U; omega)) (by omega) (by omega)
  have hba := below_alloc w (.cells #[.int .u64 1] 34)
  rw [val_one, show (1 : Int).toNat = 1 from rfl] at CM
  have ez := cmpN_zero (val ys) 1
  have TR := ref_trim (h.below hba) (by omega)
  have DV := ref_div (h.below hba) (h'.below hba) (by omega) (by omega) hp
  by_cases h1 : val ys = 1
  · rw [decide_eq_true h1] at ez
    generalize cmpN (val ys) 1 = cm at *
    rw [h1, Nat.div_one]
    have HZ := Lib.hid ZB
    have HC := Lib.hid CM
    have HT := Lib.hid TR
    have HBA := Lib.hid hba
    clear ZB CM TR DV hp hba zb hb h1 h h'
    go_enter Tryz.func107, Tryz.ntmps107
    go_wp2_with fail
    refine HZ.out.mono ?_
    rintro e w' ⟨rfl, rfl⟩
    go_wp2_with fail
    refine HC.out.mono ?_
    rintro e w' ⟨rfl, rfl⟩
    go_wp2_with fail
    refine HT.out.mono ?_
    rintro e w1 ⟨A1, n1, c1, rfl, s1, b1⟩
    go_wp2_with fail
    go_ret
    exact ⟨_, _, _, rfl, s1, HBA.out.trans (b1.mono HBA.out.size)⟩
  · rw [decide_eq_false h1] at ez
    generalize cmpN (val ys) 1 = cm at *
    generalize val xs / val ys = q at *
    have HZ := Lib.hid ZB
    have HC := Lib.hid CM
    have HD := Lib.hid DV
    have HBA := Lib.hid hba
    clear ZB CM TR DV hp hba zb hb h1 h h'
    go_enter Tryz.func107, Tryz.ntmps107
    go_wp2_with fail
    refine HZ.out.mono ?_
    rintro e w' ⟨rfl, rfl⟩
    go_wp2_with fail
    refine HC.out.mono ?_
    rintro e w' ⟨rfl, rfl⟩
    go_wp2_with fail
    refine HD.out.mono ?_
    rintro e w1 ⟨A1, n1, c1, A2, n2, c2, rfl, s1, s2, b1⟩
    go_wp2_with fail
    go_ret
    exact ⟨_, _, _, rfl, s1, HBA.out.trans (b1.mono HBA.out.size)⟩

end Go.Proofs.YthpbaaanbimapaaGreatDoor

namespace Go.Proofs.YthpbaaanbimapaaGreatDoor
set_option maxRecDepth 100000
open Go.RowKit
set_option linter.unusedVariables false
set_option linter.unusedSimpArgs false

end Go.Proofs.YthpbaaanbimapaaGreatDoor

namespace Go.Proofs.YthpbaaanbimapaaGreatDoor
set_option maxRecDepth 100000
set_option linter.unusedVariables false
set_option linter.unusedSimpArgs false

/-- a natural with a sign -/
def sI (s : Bool) (p : Nat) : Int := if s then -(p : Int) else p
/-- the number of a sign and two naturals -/
def rq (s : Bool) (p q : Nat) : Rat := mkRat (sI s p) q
def neg_ (X : Rat) : Bool := decide (X.num < 0)

theorem sI_natAbs (s : Bool) (p : Nat) : (sI s p).natAbs = p := by unfold sI; cases s <;> simp
theorem sI_zero (s : Bool) : sI s 0 = 0 := by unfold sI; cases s <;> simp
theorem sI_neg (s : Bool) (p : Nat) : decide (sI s p < 0) = (s && decide (p ≠ 0)) := by
  unfold sI; cases s
  · simp
  · rw [Bool.eq_iff_iff]; simp only [if_true, decide_eq_true_eq, Bool.true_and]; omega
theorem sI_num (X : Rat) : sI (neg_ X) X.num.natAbs = X.num := by
  unfold sI neg_
  by_cases h : X.num < 0
  · simp [h]; omega
  · simp [h]; omega
theorem sI_mul (s t : Bool) (p q : Nat) : sI (s != t) (p * q) = sI s p * sI t q := by
  unfold sI; cases s <;> cases t <;> simp [Int.neg_mul, Int.mul_neg]
theorem sI_mul_nat (s : Bool) (p q : Nat) : sI s (p * q) = sI s p * q := by
  unfold sI; cases s <;> simp [Int.neg_mul]
theorem neg_zero_ (X : Rat) (h : X.num.natAbs = 0) : neg_ X = false := by unfold neg_; exact decide_eq_false (by omega)

/-- in lowest terms -/
theorem rq_cop {s : Bool} {p q : Nat} (h0 : q ≠ 0) (h : Nat.gcd p q = 1) : (rq s p q).num = sI s p ∧ (rq s p q).den = q := by
  unfold rq
  rw [Rat.num_mkRat, Rat.den_mkRat, if_neg h0, if_neg h0, sI_natAbs, Nat.gcd_comm, h]
  simp
theorem rq_red (s : Bool) (p q : Nat) (h0 : q ≠ 0) : rq s p q = rq s (p / Nat.gcd p q) (q / Nat.gcd p q) := by
  have hg : Nat.gcd p q ≠ 0 := fun e => h0 (Nat.eq_zero_of_gcd_eq_zero_right e)
  have h1 : p / Nat.gcd p q * Nat.gcd p q = p := Nat.div_mul_cancel (Nat.gcd_dvd_left p q)
  have h2 : q / Nat.gcd p q * Nat.gcd p q = q := Nat.div_mul_cancel (Nat.gcd_dvd_right p q)
  unfold rq
  have h3 := Rat.mkRat_mul_right (n := sI s (p / Nat.gcd p q)) (d := q / Nat.gcd p q) hg
  rw [← sI_mul_nat, h1, h2] at h3
  exact h3
theorem rq_num (s : Bool) (p q : Nat) (h0 : q ≠ 0) : (rq s p q).num.natAbs = p / Nat.gcd p q ∧ (rq s p q).den = q / Nat.gcd p q ∧ neg_ (rq s p q) = (s && decide (p / Nat.gcd p q ≠ 0)) := by
  have hg : 0 < Nat.gcd p q := Nat.pos_of_ne_zero fun e => h0 (Nat.eq_zero_of_gcd_eq_zero_right e)
  have hq : q / Nat.gcd p q ≠ 0 := by
    have := Nat.div_pos (Nat.le_of_dvd (Nat.pos_of_ne_zero h0) (Nat.gcd_dvd_right p q)) hg
    omega
  have hc : Nat.gcd (p / Nat.gcd p q) (q / Nat.gcd p q) = 1 := Nat.gcd_div_gcd_div_gcd_of_pos_right (Nat.pos_of_ne_zero h0)
  obtain ⟨h1, h2⟩ := rq_cop (s := s) hq hc
  rw [← rq_red s p q h0] at h1 h2
  refine ⟨by rw [h1, sI_natAbs], h2, ?_⟩
  unfold neg_
  rw [h1, sI_neg]
theorem rq_cop' {s : Bool} {p q : Nat} (h0 : q ≠ 0) (h : Nat.gcd p q = 1) : (rq s p q).num.natAbs = p ∧ (rq s p q).den = q ∧ neg_ (rq s p q) = (s && decide (p ≠ 0)) := by
  obtain ⟨h1, h2⟩ := rq_cop (s := s) h0 h
  refine ⟨by rw [h1, sI_natAbs], h2, ?_⟩
  unfold neg_; rw [h1, sI_neg]
theorem rq_self (X : Rat) : rq (neg_ X) X.num.natAbs X.den = X := by unfold rq; rw [sI_num, Rat.mkRat_self]
theorem den_ne (X : Rat) : X.den ≠ 0 := X.den_nz
theorem gcd_num_den (X : Rat) : Nat.gcd X.num.natAbs X.den = 1 := X.reduced
theorem rat_ext {X Y : Rat} (h1 : neg_ X = neg_ Y) (h2 : X.num.natAbs = Y.num.natAbs) (h3 : X.den = Y.den) : X = Y := by
  rw [← rq_self X, ← rq_self Y, h1, h2, h3]

/-- both numbers have at most N words -/
def Sz (X : Rat) (N : Nat) : Prop := X.num.natAbs < W ^ N ∧ X.den < W ^ N
theorem Sz.mono {X : Rat} {N M : Nat} (h : Sz X N) (hm : N ≤ M) : Sz X M :=
  ⟨Nat.lt_of_lt_of_le h.1 (Nat.pow_le_pow_right W_pos hm), Nat.lt_of_lt_of_le h.2 (Nat.pow_le_pow_right W_pos hm)⟩
theorem Sz.neg {X : Rat} {N : Nat} (h : Sz X N) : Sz (-X) N := by
  refine ⟨?_, h.2⟩
  rw [Rat.neg_num, Int.natAbs_neg]; exact h.1
theorem rq_sz {s : Bool} {p q N : Nat} (h0 : q ≠ 0) (hp : p < W ^ N) (hq : q < W ^ N) : Sz (rq s p q) N := by
  obtain ⟨h1, h2, _⟩ := rq_num s p q h0
  refine ⟨?_, ?_⟩
  · rw [h1]; exact Nat.lt_of_le_of_lt (Nat.div_le_self _ _) hp
  · rw [h2]; exact Nat.lt_of_le_of_lt (Nat.div_le_self _ _) hq
theorem two_pow_W (k : Nat) : 2 * W ^ k ≤ W ^ (k + 1) := by
  rw [Nat.pow_succ, Nat.mul_comm]; exact Nat.mul_le_mul_left _ (by unfold W; omega)
theorem mk_rq (z : Int) (q : Nat) : ∃ s, rq s z.natAbs q = mkRat z q := by
  refine ⟨decide (z < 0), ?_⟩
  unfold rq sI
  by_cases h : z < 0
  · simp [h]; congr 1; omega
  · simp [h]; congr 1; omega
theorem mk_sz {z : Int} {q N : Nat} (h0 : q ≠ 0) (hp : z.natAbs < W ^ N) (hq : q < W ^ N) : Sz (mkRat z q) N := by
  obtain ⟨s, h⟩ := mk_rq z q
  rw [← h]; exact rq_sz h0 hp hq
theorem Sz.add {X Y : Rat} {N M : Nat} (h : Sz X N) (k : Sz Y M) : Sz (X + Y) (N + M + 1) := by
  rw [Rat.add_def']
  have a1 := mul_lt_powW h.1 k.2
  have a2 := mul_lt_powW k.1 h.2
  have a3 := mul_lt_powW h.2 k.2
  have e : W ^ (M + N) = W ^ (N + M) := by rw [Nat.add_comm]
  rw [e] at a2
  have t := two_pow_W (N + M)
  refine mk_sz (Nat.mul_ne_zero (den_ne _) (den_ne _)) ?_ (by omega)
  have := Int.natAbs_add_le (X.num * Y.den) (Y.num * X.den)
  rw [Int.natAbs_mul, Int.natAbs_mul, Int.natAbs_natCast, Int.natAbs_natCast] at this
  omega
theorem Sz.mul {X Y : Rat} {N M : Nat} (h : Sz X N) (k : Sz Y M) : Sz (X * Y) (N + M) := by
  rw [Rat.mul_def']
  refine mk_sz (Nat.mul_ne_zero (den_ne _) (den_ne _)) ?_ (mul_lt_powW h.2 k.2)
  rw [Int.natAbs_mul]
  exact mul_lt_powW h.1 k.1
theorem Sz.pos {X : Rat} {N : Nat} (h : Sz X N) : 1 < W ^ N := by
  have := h.2; have := den_ne X; omega
theorem Sz.inv {X : Rat} {N : Nat} (h : Sz X N) : Sz X⁻¹ N := by
  refine ⟨?_, ?_⟩
  · rw [Rat.num_inv, Int.natAbs_mul, Int.natAbs_natCast]
    have h2 := h.2
    have : X.num.sign.natAbs ≤ 1 := by rw [Int.natAbs_sign]; split <;> omega
    exact Nat.lt_of_le_of_lt (Nat.mul_le_mul_right _ this) (by omega)
  · rw [Rat.den_inv]; split
    · exact h.pos
    · exact h.1

/-- the sum, over the common denominator -/
theorem add_rq (X Y : Rat) {s : Bool} {m : Nat} (h : sI s m = X.num * ((Y.den / Nat.gcd X.den Y.den : Nat) : Int) + Y.num * ((X.den / Nat.gcd X.den Y.den : Nat) : Int)) :
    rq s m (X.den * (Y.den / Nat.gcd X.den Y.den)) = X + Y := by
  have hg : Nat.gcd X.den Y.den ≠ 0 := fun e => den_ne X (Nat.eq_zero_of_gcd_eq_zero_left e)
  have h1 : X.den / Nat.gcd X.den Y.den * Nat.gcd X.den Y.den = X.den := Nat.div_mul_cancel (Nat.gcd_dvd_left _ _)
  have h2 : Y.den / Nat.gcd X.den Y.den * Nat.gcd X.den Y.den = Y.den := Nat.div_mul_cancel (Nat.gcd_dvd_right _ _)
  rw [Rat.add_def']
  unfold rq
  rw [h, ← Rat.mkRat_mul_right hg, Int.add_mul, Int.mul_assoc, Int.mul_assoc, ← Int.natCast_mul, ← Int.natCast_mul, h1, h2, Nat.mul_assoc, h2]
theorem add_den_ne (X Y : Rat) : X.den * (Y.den / Nat.gcd X.den Y.den) ≠ 0 := by
  have h2 : Y.den / Nat.gcd X.den Y.den * Nat.gcd X.den Y.den = Y.den := Nat.div_mul_cancel (Nat.gcd_dvd_right _ _)
  refine Nat.mul_ne_zero (den_ne X) fun e => ?_
  rw [e, Nat.zero_mul] at h2
  exact den_ne Y h2.symm
/-- sums with signs -/
theorem sI_add_same (s : Bool) (a b : Nat) : sI s (a + b) = sI s a + sI s b := by unfold sI; cases s <;> simp; omega
theorem sI_add_left {s t : Bool} {a b : Nat} (h : s ≠ t) (hle : b ≤ a) : sI s (a - b) = sI s a + sI t b := by
  unfold sI; cases s <;> cases t <;> simp at h ⊢ <;> omega
theorem sI_add_right {s t : Bool} {a b : Nat} (h : s ≠ t) (hle : a ≤ b) : sI t (b - a) = sI s a + sI t b := by
  unfold sI; cases s <;> cases t <;> simp at h ⊢ <;> omega
/-- the product, reduced crosswise -/
theorem mul_rq (X Y : Rat) (s : Bool) (hs : s = (neg_ X != neg_ Y)) (a b c d : Nat) (ha : a = X.num.natAbs / Nat.gcd X.num.natAbs Y.den) (hb : b = Y.den / Nat.gcd X.num.natAbs Y.den)
    (hc : c = Y.num.natAbs / Nat.gcd Y.num.natAbs X.den) (hd : d = X.den / Nat.gcd Y.num.natAbs X.den) :
    rq s (a * c) (d * b) = X * Y ∧ d * b ≠ 0 ∧ Nat.gcd (a * c) (d * b) = 1 := by
  have hg1 : Nat.gcd X.num.natAbs Y.den ≠ 0 := fun e => den_ne Y (Nat.eq_zero_of_gcd_eq_zero_right e)
  have hg2 : Nat.gcd Y.num.natAbs X.den ≠ 0 := fun e => den_ne X (Nat.eq_zero_of_gcd_eq_zero_right e)
  have h1 : a * Nat.gcd X.num.natAbs Y.den = X.num.natAbs := by rw [ha]; exact Nat.div_mul_cancel (Nat.gcd_dvd_left _ _)
  have h2 : b * Nat.gcd X.num.natAbs Y.den = Y.den := by rw [hb]; exact Nat.div_mul_cancel (Nat.gcd_dvd_right _ _)
  have h3 : c * Nat.gcd Y.num.natAbs X.den = Y.num.natAbs := by rw [hc]; exact Nat.div_mul_cancel (Nat.gcd_dvd_left _ _)
  have h4 : d * Nat.gcd Y.num.natAbs X.den = X.den := by rw [hd]; exact Nat.div_mul_cancel (Nat.gcd_dvd_right _ _)
  have c1 : Nat.Coprime a b := by
    rw [ha, hb]; exact Nat.gcd_div_gcd_div_gcd_of_pos_right (Nat.pos_of_ne_zero (den_ne Y))
  have c2 : Nat.Coprime c d := by
    rw [hc, hd]; exact Nat.gcd_div_gcd_div_gcd_of_pos_right (Nat.pos_of_ne_zero (den_ne X))
  have c3 : Nat.Coprime a d := Nat.Coprime.coprime_dvd_left ⟨_, h1.symm⟩ (Nat.Coprime.coprime_dvd_right ⟨_, h4.symm⟩ X.reduced)
  have c4 : Nat.Coprime c b := Nat.Coprime.coprime_dvd_left ⟨_, h3.symm⟩ (Nat.Coprime.coprime_dvd_right ⟨_, h2.symm⟩ Y.reduced)
  generalize Nat.gcd X.num.natAbs Y.den = g1 at *
  generalize Nat.gcd Y.num.natAbs X.den = g2 at *
  refine ⟨?_, ?_, ?_⟩
  · rw [Rat.mul_def']
    unfold rq
    have hg : g1 * g2 ≠ 0 := Nat.mul_ne_zero hg1 hg2
    rw [← Rat.mkRat_mul_right hg, hs, ← sI_mul_nat]
    have e1 : a * c * (g1 * g2) = X.num.natAbs * Y.num.natAbs := by rw [← h1, ← h3, Nat.mul_mul_mul_comm]
    have e2 : d * b * (g1 * g2) = X.den * Y.den := by
      rw [← h4, ← h2, Nat.mul_comm g1 g2, Nat.mul_mul_mul_comm]
    rw [e1, e2, sI_mul, sI_num, sI_num]
  · refine Nat.mul_ne_zero (fun e => ?_) (fun e => ?_)
    · rw [e, Nat.zero_mul] at h4; exact den_ne X h4.symm
    · rw [e, Nat.zero_mul] at h2; exact den_ne Y h2.symm
  · exact Nat.Coprime.mul_right (Nat.Coprime.mul_left c3 c2) (Nat.Coprime.mul_left c1 c4)
theorem num_ne {X : Rat} (h : X ≠ 0) : X.num ≠ 0 := fun e => h (Rat.num_eq_zero.1 e)
theorem inv_rq (X : Rat) (h : X ≠ 0) : rq (neg_ X) X.den X.num.natAbs = X⁻¹ := by
  have h0 := num_ne h
  have hc : Nat.gcd X.den X.num.natAbs = 1 := by rw [Nat.gcd_comm]; exact X.reduced
  obtain ⟨h1, h2⟩ := rq_cop (s := neg_ X) (p := X.den) (q := X.num.natAbs) (by omega) hc
  refine Rat.ext ?_ ?_
  · rw [h1, Rat.num_inv]
    unfold sI neg_
    by_cases hn : X.num < 0
    · rw [Int.sign_eq_neg_one_of_neg hn]; simp [hn]
    · rw [Int.sign_eq_one_of_pos (by omega)]; simp [hn]
  · rw [h2, Rat.den_inv, if_neg h0]
def cmpQ (X Y : Rat) : Int := if X < Y then -1 else if Y < X then 1 else 0
end Go.Proofs.YthpbaaanbimapaaGreatDoor

namespace Go.Proofs.YthpbaaanbimapaaGreatDoor
set_option maxRecDepth 100000
open Go.RowKit
set_option linter.unusedVariables false
set_option linter.unusedSimpArgs false

/-- the struct of the sign s and the slices (A n c), (A' n' c') reads, in w, as X -/
def Q (w : World) (s : Bool) (A : Option Addr) (n c : Nat) (A' : Option Addr) (n' c' : Nat) (X : Rat) : Prop :=
  s = neg_ X ∧ Sl w A n c (words X.num.natAbs) ∧ Sl w A' n' c' (words X.den)
theorem Q.below {w w' : World} {s : Bool} {A A' : Option Addr} {n c n' c' : Nat} {X : Rat} (h : Q w s A n c A' n' c' X) (hb : Below w.heap.size w w') : Q w' s A n c A' n' c' X :=
  ⟨h.1, h.2.1.below hb, h.2.2.below hb⟩
theorem Q.drewN {w : World} {s : Bool} {A A' : Option Addr} {n c n' c' : Nat} {X : Rat} (h : Q w s A n c A' n' c' X) (k : Nat) : Q (w.drewN k) s A n c A' n' c' X := h
/-- a call that returns a number, and turns nothing that was there -/
def RetQ (X : Rat) (w : World) (e : Ending) (w' : World) : Prop :=
  ∃ s A n c A' n' c', e = .returned (.agg #[.bool s, .slice A n c, .slice A' n' c']) ∧ Q w' s A n c A' n' c' X ∧ Below w.heap.size w w'
/-- .. and an error's number -/
def RetQE (X : Rat) (k : Int) (w : World) (e : Ending) (w' : World) : Prop :=
  ∃ s A n c A' n' c', e = .returned (.tuple #[.agg #[.bool s, .slice A n c, .slice A' n' c'], .int .i64 k]) ∧ Q w' s A n c A' n' c' X ∧ Below w.heap.size w w'
/-- a number is stored into block g -/
def put3 (w : World) (g : Nat) (x0 x1 x2 : Value) : World := ((w.setCell ⟨g, 0, none⟩ x0).setCell ⟨g, 1, none⟩ x1).setCell ⟨g, 2, none⟩ x2
/-- a box of a number (none of its cells is an integer) -/
def IsBox (t : TypeId) (w : World) (g : Nat) : Prop := ∃ s A n c A' n' c', Box t w g #[.bool s, .slice A n c, .slice A' n' c']
theorem IsBox.below {t : TypeId} {w w' : World} {g : Nat} (h : IsBox t w g) (hb : Below w.heap.size w w') : IsBox t w' g := by
  obtain ⟨s, A, n, c, A', n', c', h⟩ := h
  exact ⟨s, A, n, c, A', n', c', h.below' hb⟩
theorem Sl.apartBox {t : TypeId} {w : World} {g : Nat} {A : Option Addr} {n c : Nat} {xs : List Int} (hB : IsBox t w g) (h : Sl w A n c xs) : SlN g w A n c xs := by
  refine ⟨h, fun h0 => ?_⟩
  obtain ⟨b, off, e, hlt, hc⟩ := h.2 h0
  refine ⟨b, off, e, fun e2 => ?_⟩
  subst e2
  obtain ⟨s, B, m, d, B', m', d', hb⟩ := hB
  have k := hc 0 h0
  rw [hb.cell] at k
  match off, k with
  | 0, k => simp at k
  | 1, k => simp at k
  | 2, k => simp at k
  | off + 3, k => simp at k
theorem keep_put3 (w : World) (g : Nat) (x0 x1 x2 : Value) : Keep g w (put3 w g x0 x1 x2) := (((Keep.refl g w).setCell 0 x0).setCell 1 x1).setCell 2 x2
theorem Sl.put3 {t : TypeId} {w : World} {g : Nat} {A : Option Addr} {n c : Nat} {xs : List Int} {x0 x1 x2 : Value} (hB : IsBox t w g) (h : Sl w A n c xs) : Sl (put3 w g x0 x1 x2) A n c xs :=
  ((h.apartBox hB).keep (keep_put3 w g x0 x1 x2)).sl
theorem Q.put3 {t : TypeId} {w : World} {g : Nat} {s : Bool} {A A' : Option Addr} {n c n' c' : Nat} {X : Rat} {x0 x1 x2 : Value} (hB : IsBox t w g) (h : Q w s A n c A' n' c' X) : Q (put3 w g x0 x1 x2) s A n c A' n' c' X :=
  ⟨h.1, h.2.1.put3 hB, h.2.2.put3 hB⟩
theorem below_put3 {B g : Nat} {a w : World} (h : Below B a w) (hg : B ≤ g) (hB : B ≤ a.heap.size) (x0 x1 x2 : Value) : Below B a (put3 w g x0 x1 x2) := Below.keep h (keep_put3 w g x0 x1 x2) hg hB

theorem Box.put3 {t : TypeId} {w : World} {g g' : Nat} {vs : Array Value} (h : Box t w g vs) (hne : g ≠ g') (x0 x1 x2 : Value) : Box t (put3 w g' x0 x1 x2) g vs := ((keep_put3 w g' x0 x1 x2).block g h.lt hne).trans h
/-- a call that returns a natural with a sign -/
def RetSB (z : Int) (w : World) (e : Ending) (w' : World) : Prop :=
  ∃ s A n c, e = .returned (.tuple #[.bool s, .slice A n c]) ∧ sI s z.natAbs = z ∧ Sl w' A n c (words z.natAbs) ∧ Below w.heap.size w w'
/-- the world behind the boxes of a number and of a result -/
theorem boxes1 (t : TypeId) (w : World) (vs us : Array Value) : ∃ W, (w.alloc (.cells vs t)).alloc (.cells us t) = W ∧ Box t W w.heap.size vs ∧ Box t W (w.heap.size + 1) us ∧ Below w.heap.size w W := by
  refine ⟨_, rfl, (Box.new w t vs).alloc _, ?_, (below_alloc _ _).alloc (by simp) _⟩
  have := Box.new (w.alloc (.cells vs t)) t us
  rw [show (w.alloc (.cells vs t)).heap.size = w.heap.size + 1 from by simp] at this
  exact this
theorem boxes2 (t : TypeId) (w : World) (vs us xs : Array Value) : ∃ W, ((w.alloc (.cells vs t)).alloc (.cells us t)).alloc (.cells xs t) = W ∧ Box t W w.heap.size vs ∧ Box t W (w.heap.size + 1) us ∧ Box t W (w.heap.size + 1 + 1) xs ∧ Below w.heap.size w W := by
  obtain ⟨W, h, h1, h2, h3⟩ := boxes1 t w vs us
  have hs : W.heap.size = w.heap.size + 2 := by rw [← h]; simp
  refine ⟨_, rfl, ?_, ?_, ?_, ?_⟩
  · rw [h]; exact h1.alloc _
  · rw [h]; exact h2.alloc _
  · rw [h, ← hs]; exact Box.new W t xs
  · rw [h]; exact h3.alloc h3.size _

end Go.Proofs.YthpbaaanbimapaaGreatDoor
