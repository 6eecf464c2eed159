/-
  What gcd.Gcd, gcd.Reduce, gcd.Lcm and gcd.Coprime do, told by Nat.gcd. Conditions: the slices read as lists of words, of at most 100000 words.
-/
import Derived.Test.YteedipcmhaiglaaQuotDiv
import Derived.Test.YteedipcmhaiglaaGcdMath
namespace Go.Proofs.Yteedipcmhaiglaa
set_option maxRecDepth 100000
open Go.RowKit
set_option linter.unusedVariables false
set_option linter.unusedSimpArgs false

theorem mesV_val {w : World} {A : Option Addr} {n c : Nat} {xs : List Int} (h : Sl w A n c xs) : mesV (.slice A n c) w = val xs := by
  rcases Nat.eq_zero_or_pos n with h0 | h0
  · subst h0
    have e : xs = [] := List.eq_nil_of_length_eq_zero h.len.symm
    subst e
    unfold mesV
    split
    · rename_i b off n' c' heq
      injection heq with _ e2
      subst e2
      rfl
    · rfl
  · obtain ⟨b, off, rfl, _, hc⟩ := h.at_ (k := 0) h0
    show val (readAt w b off n) = val xs
    have e : readAt w b off n = xs := by
      unfold readAt
      apply List.ext_getElem
      · rw [List.length_map, List.length_range]; exact h.len
      · intro j h1 h2
        have hj : j < n := by simpa using h1
        simp only [List.getElem_map, List.getElem_range]
        rw [hc j hj]
        simp [cellInt, List.getD_eq_getElem?_getD, List.getElem?_eq_getElem h2]
    rw [e]

/-- Euclid's steps on words -/
def GW (G : Nat) (d r : Int) : Prop := U d ∧ U r ∧ Nat.gcd d.toNat r.toNat = G
theorem GW.step {G : Nat} {d r : Int} (h : GW G d r) (h0 : r ≠ 0) : GW G r (d.tmod r) ∧ (d.tmod r).toNat < r.toNat := by
  obtain ⟨hd, hr, hg⟩ := h
  rw [Int.tmod_eq_emod_of_nonneg hd.1]
  have hd' := hd
  have hr' := hr
  unfold U at hd hr
  have p : 0 < r := by omega
  have h1 := Int.emod_nonneg d h0
  have h2 := Int.emod_lt_of_pos d p
  have h3 : (d % r).toNat = d.toNat % r.toNat := Int.toNat_emod hd.1 hr.1
  refine ⟨⟨hr', ?_, ?_⟩, ?_⟩
  · show U (d % r); unfold U; omega
  · show Nat.gcd r.toNat (d % r).toNat = G
    rw [h3, gcd_step]; exact hg
  · show (d % r).toNat < r.toNat
    omega
theorem GW.end_ {G : Nat} {d : Int} (h : GW G d 0) : d.toNat = G := by
  have := h.2.2
  simpa using this

set_option maxHeartbeats 1000000 in
theorem gcd_word {w : World} {A : Option Addr} {n c : Nat} {xs : List Int} (h : Sl w A n c xs) (hn : n ≤ 1000000) (d : Int) (hd : U d) :
    Calls Try.prog 110 #[.slice A n c, .int .u64 d] w (RetSl (words (Nat.gcd (val xs) d.toNat)) w) := by
  by_cases hd0 : d = 0
  · subst hd0
    have T := nat_trim h (by omega)
    rw [show (0 : Int).toNat = 0 from rfl, Nat.gcd_zero_right]
    have HT := Lib.hid T
    clear T
    go_enter Try.func110, Try.ntmps110
    go_wp2_with fail
    refine (quot_word_zero _ _ _ _).mono ?_
    rintro e w' ⟨rfl, rfl⟩
    go_wp2_with fail
    refine HT.out.mono ?_
    rintro e w1 ⟨A1, n1, c1, rfl, s1, b1⟩
    go_wp2_with fail
    go_ret
    exact ⟨_, _, _, rfl, s1, b1⟩
  · have hp : 0 < d := by unfold U at hd; omega
    have QW := quot_word h (by omega) d hd hp
    have hlt : val xs % d.toNat < d.toNat := Nat.mod_lt _ (by omega)
    have hgw : GW (Nat.gcd (val xs) d.toNat) d ((val xs % d.toNat : Nat) : Int) := ⟨hd, by unfold U at hd ⊢; omega, by rw [Int.toNat_natCast, gcd_step]⟩
    generalize Nat.gcd (val xs) d.toNat = G at *
    generalize val xs / d.toNat = q at *
    generalize ((val xs % d.toNat : Nat) : Int) = r0 at *
    have HQ := Lib.hid QW
    have HG := Lib.hid hgw
    clear QW hgw hlt hp
    go_enter Try.func110, Try.ntmps110
    go_wp2_with fail
    refine HQ.out.mono ?_
    rintro e w1 ⟨A1, n1, c1, rfl, s1, b1⟩
    clear s1 HQ
    go_wp2_with fail
    go_loopw [1, 6] (fun dv rv wr => ∃ (d r : Int), dv = .int .u64 d ∧ rv = .int .u64 r ∧ Hid (GW G d r) ∧ Below w.heap.size w wr) (fun _ rv _ => (intOf rv).toNat)
    case atStart => exact ⟨_, _, rfl, rfl, HG, b1⟩
    case round =>
      clear HG b1
      obtain ⟨d, r, rfl, rfl, HG, hb⟩ := hrel
      by_cases hr : r = 0
      · subst hr
        have OF := fun w => nat_of d HG.out.1 w
        rw [HG.out.end_] at OF
        have HOF := Lib.hid OF
        clear OF
        go_wp2_with fail
        refine (HOF.out _).mono ?_
        rintro e w2 ⟨A2, n2, c2, rfl, s2, b2⟩
        go_wp2_with fail
        go_ret
        exact ⟨_, _, _, rfl, s2, hb.trans (b2.mono hb.size)⟩
      · have hne : (r == 0) = false := by simp [hr]
        obtain ⟨hs1, hs2⟩ := HG.out.step hr
        have HS1 := Lib.hid hs1
        have HS2 := Lib.hid hs2
        clear hs1 hs2
        go_wp2_with fail
        go_region
        go_wp2_with fail
        go_roundw
        case rel => exact ⟨_, _, rfl, rfl, HS1, hb.drew⟩
        case measure => exact HS2.out

set_option maxHeartbeats 1000000 in
theorem gcd_gcd {w : World} {A A' : Option Addr} {n n' c c' N : Nat} {xs ys : List Int} (h : Sl w A n c xs) (h' : Sl w A' n' c' ys) (hn : n ≤ N) (hn' : n' ≤ N) (hN : N ≤ 1000000) :
    Calls Try.prog 104 #[.slice A n c, .slice A' n' c'] w (RetSl (words (Nat.gcd (val xs) (val ys))) w) := by
  obtain ⟨G, hG⟩ : ∃ G, Nat.gcd (val xs) (val ys) = G := ⟨_, rfl⟩
  rw [hG]
  have HG := Lib.hid hG
  clear hG
  go_enter Try.func104, Try.ntmps104
  go_wp2_with fail
  go_loopw [0, 1] (fun av bv wr => ∃ (A A' : Option Addr) (n n' c c' : Nat) (xs ys : List Int), av = .slice A n c ∧ bv = .slice A' n' c' ∧ Sl wr A n c xs ∧ Sl wr A' n' c' ys ∧ n ≤ N ∧ n' ≤ N ∧ Hid (Nat.gcd (val xs) (val ys) = G) ∧ Below w.heap.size w wr) (fun _ bv wr => mesV bv wr)
  case atStart => exact ⟨_, _, _, _, _, _, xs, ys, rfl, rfl, h, h', hn, hn', HG, Below.refl _ _⟩
  case round =>
    clear h h' hn hn' HG
    obtain ⟨A, A', n, n', c, c', xs, ys, rfl, rfl, h, h', hn, hn', HG, hb⟩ := hrel
    have NW := nat_word h' (by omega)
    by_cases hs : sz ys ≤ 1
    · have hv := val_short (Dg_U h'.us) hs
      have hw1 : word1 ys = ys.getD 0 0 := by unfold word1; rw [if_neg (by omega)]
      rw [hw1, decide_eq_true hs] at NW
      have GWD := gcd_word h (by omega) (ys.getD 0 0) (h'.u 0)
      rw [← hv, HG.out] at GWD
      generalize ys.getD 0 0 = d at *
      have HNW := Lib.hid NW
      have HGW := Lib.hid GWD
      clear NW GWD hv hw1 hs
      go_wp2_with fail
      refine HNW.out.mono ?_
      rintro e w' ⟨rfl, rfl⟩
      go_wp2_with fail
      refine HGW.out.mono ?_
      rintro e w1 ⟨A1, n1, c1, rfl, s1, b1⟩
      go_wp2_with fail
      go_ret
      exact ⟨_, _, _, rfl, s1, hb.trans (b1.mono hb.size)⟩
    · rw [decide_eq_false hs] at NW
      obtain ⟨_, hp⟩ := val_long (Dg_U h'.us) (by omega)
      have QD := quot_div h h' (by omega) (by omega) hp
      have hlt := Nat.mod_lt (val xs) hp
      have hvy : val ys < W ^ N := val_lt_pow h'.us (by have := h'.len; omega)
      have hst := gcd_step (val xs) (val ys)
      rw [HG.out] at hst
      have hm := mesV_val h'
      generalize word1 ys = d at *
      generalize val xs / val ys = q at *
      generalize val xs % val ys = r at *
      have HNW := Lib.hid NW
      have HQD := Lib.hid QD
      have HLT := Lib.hid hlt
      have HVY := Lib.hid hvy
      have HST := Lib.hid hst
      have HM := Lib.hid hm
      have HH' := Lib.hid h'
      clear NW QD hlt hvy hst hm hs hp h' h
      go_wp2_with fail
      refine HNW.out.mono ?_
      rintro e w' ⟨rfl, rfl⟩
      go_wp2_with fail
      refine HQD.out.mono ?_
      rintro e w1 ⟨A1, n1, c1, A2, n2, c2, rfl, s1, s2, b1⟩
      have l2 : n2 ≤ N := s2.small (Nat.lt_trans HLT.out HVY.out)
      have hm2 := mesV_val s2
      rw [val_words] at hm2
      have HM2 := Lib.hid hm2
      have h2 := HH'.out.below b1
      have hb1 := hb.trans (b1.mono hb.size)
      clear s1 b1 hm2
      go_wp2_with fail
      go_roundw
      case rel => exact ⟨_, _, _, _, _, _, ys, words r, rfl, rfl, h2, s2, hn', l2, Lib.hid (by rw [val_words]; exact HST.out), hb1⟩
      case measure => rw [HM2.out, HM.out]; exact HLT.out

/-- quot.Div whatever the divisor: in Nat, too, a number by 0 is 0 -/
theorem quot_div_any {w : World} {A A' : Option Addr} {n n' c c' : Nat} {xs ys : List Int} (h : Sl w A n c xs) (h' : Sl w A' n' c' ys) (hn : n ≤ 1000000) (hn' : n' ≤ 1000000) :
    Calls Try.prog 69 #[.slice A n c, .slice A' n' c'] w fun e w' => ∃ r ok, RetDiv (val xs / val ys) r ok w e w' := by
  rcases Nat.eq_zero_or_pos (val ys) with h0 | h0
  · refine (quot_div_zero (A := A) (n := n) (c := c) h' hn' h0).mono fun e w' H => ⟨0, false, ?_⟩
    rw [h0, Nat.div_zero]
    exact H
  · exact (quot_div h h' hn hn' h0).mono fun e w' H => ⟨_, _, H⟩

set_option maxHeartbeats 1000000 in
theorem gcd_reduce {w : World} {A A' : Option Addr} {n n' c c' N : Nat} {xs ys : List Int} (h : Sl w A n c xs) (h' : Sl w A' n' c' ys) (hn : n ≤ N) (hn' : n' ≤ N) (hN : N ≤ 1000000) :
    Calls Try.prog 91 #[.slice A n c, .slice A' n' c'] w (RetQR (val xs / Nat.gcd (val xs) (val ys)) (val ys / Nat.gcd (val xs) (val ys)) w) := by
  have va : val xs < W ^ N := val_lt_pow h.us (by have := h.len; omega)
  have vb : val ys < W ^ N := val_lt_pow h'.us (by have := h'.len; omega)
  have vg := gcd_lt va vb
  have GG := gcd_gcd h h' hn hn' hN
  have D1 := fun w1 (hb : Below w.heap.size w w1) (B : Option Addr) (nb cb X : Nat) (s : Sl w1 B nb cb (words X)) (hnb : nb ≤ N) => quot_div_any (h.below hb) s (by omega) (by omega)
  have D2 := fun w1 (hb : Below w.heap.size w w1) (B : Option Addr) (nb cb X : Nat) (s : Sl w1 B nb cb (words X)) (hnb : nb ≤ N) => quot_div_any (h'.below hb) s (by omega) (by omega)
  generalize Nat.gcd (val xs) (val ys) = g at *
  have HG := Lib.hid GG
  have HD1 := Lib.hid D1
  have HD2 := Lib.hid D2
  have HV := Lib.hid vg
  clear GG D1 D2 va vb vg h h'
  go_enter Try.func91, Try.ntmps91
  go_wp2_with fail
  refine HG.out.mono ?_
  rintro e w1 ⟨A1, n1, c1, rfl, s1, b1⟩
  have l1 : n1 ≤ N := s1.small HV.out
  have S1 := HD1.out w1 b1 A1 n1 c1 g s1 l1
  have H1 := Lib.hid S1
  clear S1
  go_wp2_with fail
  refine H1.out.mono ?_
  rintro e w2 ⟨r2, o2, A2, n2, c2, A3, n3, c3, rfl, s2, s3, b2⟩
  have hb2 := b1.trans (b2.mono b1.size)
  have S2 := HD2.out w2 hb2 A1 n1 c1 g (s1.below b2) l1
  have H2 := Lib.hid S2
  clear S2 s3 H1 s1
  go_wp2_with fail
  refine H2.out.mono ?_
  rintro e w4 ⟨r4, o4, A4, n4, c4, A5, n5, c5, rfl, s4, s5, b4⟩
  rw [val_words] at s2 s4
  have s2' := s2.below b4
  have hb4 := hb2.trans (b4.mono hb2.size)
  clear s5 H2 s2
  go_wp2_with fail
  go_ret2
  exact ⟨_, _, _, _, _, _, rfl, s2', s4, hb4⟩

theorem cmpN_zero (a b : Nat) : (cmpN a b == 0) = decide (a = b) := by
  unfold cmpN
  split
  · rw [decide_eq_false (by omega)]; rfl
  · split
    · rw [decide_eq_false (by omega)]; rfl
    · rw [decide_eq_true (by omega)]; rfl
end Go.Proofs.Yteedipcmhaiglaa
