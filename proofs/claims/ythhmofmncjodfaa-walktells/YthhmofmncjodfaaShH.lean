/-
  What Drop of package shape and of the document return. Conditions: the slices read as lists of ints.
-/
import Derived.Test.YthhmofmncjodfaaShG
namespace Go.Proofs.Ythhmofmncjodfaa
open Go.RowKit
set_option linter.unusedVariables false
set_option linter.unusedSimpArgs false

/-- what is left of the first k dims -/
def dropTo (d : List Int) (ms : List Bool) (keep : Bool) : Nat → List Int
  | 0 => []
  | k + 1 => dropTo d ms keep k ++ (if ms.getD k false then (if keep then [1] else []) else [d.getD k 0])
theorem dropTo_len (d : List Int) (ms : List Bool) (keep : Bool) (k : Nat) : (dropTo d ms keep k).length ≤ k := by
  induction k with
  | zero => simp [dropTo]
  | succ k ih =>
    rw [dropTo, List.length_append]
    cases ms.getD k false <;> cases keep <;> simp <;> omega
theorem dropTo_no {d : List Int} {ms : List Bool} (keep : Bool) {k : Nat} (h : ms.getD k false = false) : dropTo d ms keep (k + 1) = dropTo d ms keep k ++ [d.getD k 0] := by rw [dropTo, h]; rfl
theorem dropTo_keep {d : List Int} {ms : List Bool} {k : Nat} (h : ms.getD k false = true) : dropTo d ms true (k + 1) = dropTo d ms true k ++ [1] := by rw [dropTo, h]; rfl
theorem dropTo_drop {d : List Int} {ms : List Bool} {k : Nat} (h : ms.getD k false = true) : dropTo d ms false (k + 1) = dropTo d ms false k := by rw [dropTo, h]; simp
theorem dropTo_i64 {d : List Int} (hd : ∀ x ∈ d, I64 x) (ms : List Bool) (keep : Bool) (k : Nat) : ∀ x ∈ dropTo d ms keep k, I64 x := by
  induction k with
  | zero => intro x hx; simp [dropTo] at hx
  | succ k ih =>
    intro x hx
    rw [dropTo, List.mem_append] at hx
    rcases hx with hx | hx
    · exact ih x hx
    · have h0 : I64 0 := by unfold I64; omega
      have h1 : I64 1 := by unfold I64; omega
      cases hm : ms.getD k false <;> rw [hm] at hx
      · have e : x = d.getD k 0 := by simpa using hx
        by_cases hk : k < d.length
        · rw [e, getD_eq hk]; exact hd _ (List.getElem_mem hk)
        · rw [e, List.getD_eq_getElem?_getD, List.getElem?_eq_none (by omega)]; exact h0
      · cases keep
        · simp at hx
        · have e : x = 1 := by simpa using hx
          rw [e]; exact h1
def dropE (d l : List Int) : Int := if chk d = 0 then axE d.length l else chk d
def dropR (d l : List Int) (keep : Bool) : List Int := if dropE d l = 0 then dropTo d (axM d.length l) keep d.length else []
theorem dropE_chk {d : List Int} (l : List Int) (h : ¬ chk d = 0) : dropE d l = chk d := by unfold dropE; rw [if_neg h]
theorem dropE_ok {d : List Int} (l : List Int) (h : chk d = 0) : dropE d l = axE d.length l := by unfold dropE; rw [if_pos h]
theorem dropR_ok {d l : List Int} (keep : Bool) (h : dropE d l = 0) : dropR d l keep = dropTo d (axM d.length l) keep d.length := by unfold dropR; rw [if_pos h]
theorem dropR_no {d l : List Int} (keep : Bool) (h : ¬ dropE d l = 0) : dropR d l keep = [] := by unfold dropR; rw [if_neg h]
theorem SlZ.i64 {w : World} {A : Option Addr} {n c : Nat} {xs : List Int} (h : SlZ w A n c xs) : ∀ x ∈ xs, I64 x := fun x hx => (h.1.2.2.2 x hx).1

set_option maxRecDepth 100000 in
set_option maxHeartbeats 4000000 in
theorem sh_drop {w : World} {A B : Option Addr} {n c m e : Nat} {d l : List Int} (h : SlZ w A n c d) (h' : SlZ w B m e l) (keep : Bool) : Calls Try.prog 23 #[.slice A n c, .slice B m e, .bool keep] w (RetZE (dropR d l keep) (dropE d l) w) := by
  have CK := sh_check h
  have AX := sh_axes h' (n : Int)
  have HL := Lib.hid h.len
  have hn := h.small
  have HI := Lib.hid h.i64
  by_cases h0 : chk d = 0
  · have hE := dropE_ok l h0
    rw [h.len] at hE
    rw [h0] at CK
    have hn6 : n ≤ 6 := by have := (vd_of h0).len; have := h.len; omega
    have HC := Lib.hid CK
    clear CK h0
    by_cases hx : axE n l = 0
    · rw [hx] at AX hE
      rw [axR_ok hx] at AX
      have HR := Lib.hid (dropR_ok keep hE)
      have HE := Lib.hid hE
      have HA := Lib.hid AX
      clear AX hE hx
      go_enter Try.func23, Try.ntmps23
      go_wp2_with fail
      refine HC.out.mono ?_
      rintro _ _ ⟨rfl, rfl⟩
      go_wp2_with fail
      refine HA.out.mono ?_
      rintro _ w1 ⟨A1, n1, c1, rfl, s1, b1⟩
      have hn1 : n1 = n := by rw [← s1.len, length_axM]
      subst n1
      have hb1 := b1.size
      have S1 := Lib.hid s1
      have hdl := h.below b1
      have B1 := Lib.hid b1
      clear s1 b1 HA
      obtain ⟨w2, hmk, ho2, b2⟩ := make_C (cells := zc) 22 3 (.int .i64 0) 8 Try.underlying22 infoZ zeroZ rfl (by decide) w1 n (by omega) (by omega)
      have HO0 := Lib.hid ho2
      clear ho2
      go_wp2_with fail
      go_loopw [11, 34] (fun kv iv wr => ∃ (k : Nat) (zs : List Int), k ≤ n ∧ iv = .int .i64 k ∧ Hid (OwnC 1 zc 3 w1.heap.size wr kv zs) ∧ Hid (zs = dropTo d (axM n l) keep k) ∧ Below w1.heap.size w1 wr) (fun _ iv _ => n - mes iv)
      case atStart => exact ⟨0, [], by omega, rfl, HO0, Lib.hid rfl, b2⟩
      case round =>
        clear HO0 b2
        obtain ⟨k, zs, hk, rfl, HO, HZ, hb⟩ := hrel
        have hzl : zs.length ≤ k := by rw [HZ.out]; exact dropTo_len _ _ _ _
        have hwr := hb.size
        by_cases hk2 : k < n
        · obtain ⟨b, off, x, hx, rfl, hlt, hi, hc⟩ := (hdl.below hb).get hk2
          obtain ⟨b', off', y, hy, rfl, hlt', hc'⟩ := (S1.out.below hb).get hk2
          have HX := Lib.hid hx
          clear hx
          cases y
          case false =>
            have hnext := dropTo_no (d := d) keep hy
            rw [HX.out, ← HZ.out] at hnext
            have HN := Lib.hid hnext
            clear hnext hy
            go_wp2_with (at_builtin; refine wpList_append_z rfl _ _ rfl w1.heap.size _ zs rfl HO.out 1 x rfl (by omega) hwr ?_)
            intro av2 w3 hown hb4
            have hb3 := hb.trans hb4
            rw [← HN.out] at hown
            have HO3 := Lib.hid hown
            clear hown hb4 HO HZ
            go_wp2_with fail
            go_roundw
            case rel => exact ⟨k + 1, _, by omega, by go_num, HO3, Lib.hid rfl, hb3⟩
            case measure => simp [mes, intOf]; omega
          case true =>
            cases keep
            case false =>
              have hnext := dropTo_drop (d := d) hy
              rw [← HZ.out] at hnext
              have HN := Lib.hid hnext
              clear hnext hy
              go_wp2_with fail
              go_roundw
              case rel => exact ⟨k + 1, zs, by omega, by go_num, HO, Lib.hid HN.out.symm, hb⟩
              case measure => simp [mes, intOf]; omega
            case true =>
              have hnext := dropTo_keep (d := d) hy
              rw [← HZ.out] at hnext
              have HN := Lib.hid hnext
              clear hnext hy
              go_wp2_with (at_builtin; refine wpList_append_z rfl _ _ rfl w1.heap.size _ zs rfl HO.out 1 1 rfl (by omega) hwr ?_)
              intro av2 w3 hown hb4
              have hb3 := hb.trans hb4
              rw [← HN.out] at hown
              have HO3 := Lib.hid hown
              clear hown hb4 HO HZ
              go_wp2_with fail
              go_roundw
              case rel => exact ⟨k + 1, _, by omega, by go_num, HO3, Lib.hid rfl, hb3⟩
              case measure => simp [mes, intOf]; omega
        · obtain rfl : k = n := by omega
          have hz := HZ.out
          obtain ⟨A2, n2, c2, rfl, hs2, hn2⟩ := HO.out.retz (by rw [hz]; exact dropTo_i64 HI.out _ _ _)
          have HS2 := Lib.hid hs2
          clear HO hs2 hzl hz
          go_wp2_with fail
          go_ret2
          rw [HR.out, HE.out]
          have hz := HZ.out
          refine ⟨_, _, _, rfl, ?_, fun h9 b off e => Nat.le_trans hb1 (hn2 h9 b off e), bb B1.out hb⟩
          rw [HL.out, ← hz]
          exact HS2.out
    · have hz : (axE n l != 0) = true := by simpa using hx
      rw [dropR_no keep (by rw [hE]; exact hx), hE]
      have HA := Lib.hid AX
      clear AX hE hx
      go_enter Try.func23, Try.ntmps23
      go_wp2_with fail
      refine HC.out.mono ?_
      rintro _ _ ⟨rfl, rfl⟩
      go_wp2_with fail
      refine HA.out.mono ?_
      rintro _ w1 ⟨A1, n1, c1, rfl, s1, b1⟩
      go_wp2_with fail
      go_ret2
      exact retZE_no _ b1
  · have hE := dropE_chk l h0
    have hz : (chk d != 0) = true := by simpa using h0
    rw [dropR_no keep (by rw [hE]; exact h0), hE]
    have HC := Lib.hid CK
    clear CK h0 AX hE
    go_enter Try.func23, Try.ntmps23
    go_wp2_with fail
    refine HC.out.mono ?_
    rintro _ _ ⟨rfl, rfl⟩
    go_wp2_with fail
    go_ret2
    exact retZE_no _ (Below.refl _ _)

set_option maxRecDepth 100000 in
set_option maxHeartbeats 4000000 in
theorem ref_drop19 {w : World} {A B : Option Addr} {n c m e : Nat} {d l : List Int} (h : SlZ w A n c d) (h' : SlZ w B m e l) (keep : Bool) : Calls Try.prog 24 #[.slice A n c, .slice B m e, .bool keep] w (RetZE (dropR d l keep) (dropE d l) w) := by
  have CK := ref_check19 h
  have AX := ref_axes19 h' (n : Int)
  have HL := Lib.hid h.len
  have hn := h.small
  have HI := Lib.hid h.i64
  by_cases h0 : chk d = 0
  · have hE := dropE_ok l h0
    rw [h.len] at hE
    rw [h0] at CK
    have hn6 : n ≤ 6 := by have := (vd_of h0).len; have := h.len; omega
    have HC := Lib.hid CK
    clear CK h0
    by_cases hx : axE n l = 0
    · rw [hx] at AX hE
      rw [axR_ok hx] at AX
      have HR := Lib.hid (dropR_ok keep hE)
      have HE := Lib.hid hE
      have HA := Lib.hid AX
      clear AX hE hx
      go_enter Try.func24, Try.ntmps24
      go_wp2_with fail
      refine HC.out.mono ?_
      rintro _ _ ⟨rfl, rfl⟩
      go_wp2_with fail
      refine HA.out.mono ?_
      rintro _ w1 ⟨A1, n1, c1, rfl, s1, b1⟩
      have hn1 : n1 = n := by rw [← s1.len, length_axM]
      subst n1
      have hb1 := b1.size
      have S1 := Lib.hid s1
      have hdl := h.below b1
      have B1 := Lib.hid b1
      clear s1 b1 HA
      have b2 := Below.refl w1.heap.size w1
      have HO0 := Lib.hid (OwnC.nil (k := 1) (cells := zc) (t := 3) (B := w1.heap.size) (w := w1))
      go_wp2_with fail
      go_loopw [10, 29] (fun kv iv wr => ∃ (k : Nat) (zs : List Int), k ≤ n ∧ iv = .int .i64 k ∧ Hid (OwnC 1 zc 3 w1.heap.size wr kv zs) ∧ Hid (zs = dropTo d (axM n l) keep k) ∧ Below w1.heap.size w1 wr) (fun _ iv _ => n - mes iv)
      case atStart => exact ⟨0, [], by omega, rfl, HO0, Lib.hid rfl, b2⟩
      case round =>
        clear HO0 b2
        obtain ⟨k, zs, hk, rfl, HO, HZ, hb⟩ := hrel
        have hzl : zs.length ≤ k := by rw [HZ.out]; exact dropTo_len _ _ _ _
        have hwr := hb.size
        by_cases hk2 : k < n
        · obtain ⟨b, off, x, hx, rfl, hlt, hi, hc⟩ := (hdl.below hb).get hk2
          obtain ⟨b', off', y, hy, rfl, hlt', hc'⟩ := (S1.out.below hb).get hk2
          have HX := Lib.hid hx
          clear hx
          cases y
          case false =>
            have hnext := dropTo_no (d := d) keep hy
            rw [HX.out, ← HZ.out] at hnext
            have HN := Lib.hid hnext
            clear hnext hy
            go_wp2_with (at_builtin; refine wpList_append_z rfl _ _ rfl w1.heap.size _ zs rfl HO.out 1 x rfl (by omega) hwr ?_)
            intro av2 w3 hown hb4
            have hb3 := hb.trans hb4
            rw [← HN.out] at hown
            have HO3 := Lib.hid hown
            clear hown hb4 HO HZ
            go_wp2_with fail
            go_roundw
            case rel => exact ⟨k + 1, _, by omega, by go_num, HO3, Lib.hid rfl, hb3⟩
            case measure => simp [mes, intOf]; omega
          case true =>
            cases keep
            case false =>
              have hnext := dropTo_drop (d := d) hy
              rw [← HZ.out] at hnext
              have HN := Lib.hid hnext
              clear hnext hy
              go_wp2_with fail
              go_roundw
              case rel => exact ⟨k + 1, zs, by omega, by go_num, HO, Lib.hid HN.out.symm, hb⟩
              case measure => simp [mes, intOf]; omega
            case true =>
              have hnext := dropTo_keep (d := d) hy
              rw [← HZ.out] at hnext
              have HN := Lib.hid hnext
              clear hnext hy
              go_wp2_with (at_builtin; refine wpList_append_z rfl _ _ rfl w1.heap.size _ zs rfl HO.out 1 1 rfl (by omega) hwr ?_)
              intro av2 w3 hown hb4
              have hb3 := hb.trans hb4
              rw [← HN.out] at hown
              have HO3 := Lib.hid hown
              clear hown hb4 HO HZ
              go_wp2_with fail
              go_roundw
              case rel => exact ⟨k + 1, _, by omega, by go_num, HO3, Lib.hid rfl, hb3⟩
              case measure => simp [mes, intOf]; omega
        · obtain rfl : k = n := by omega
          have hz := HZ.out
          obtain ⟨A2, n2, c2, rfl, hs2, hn2⟩ := HO.out.retz (by rw [hz]; exact dropTo_i64 HI.out _ _ _)
          have HS2 := Lib.hid hs2
          clear HO hs2 hzl hz
          go_wp2_with fail
          go_ret2
          rw [HR.out, HE.out]
          have hz := HZ.out
          refine ⟨_, _, _, rfl, ?_, fun h9 b off e => Nat.le_trans hb1 (hn2 h9 b off e), bb B1.out hb⟩
          rw [HL.out, ← hz]
          exact HS2.out
    · have hz : (axE n l != 0) = true := by simpa using hx
      rw [dropR_no keep (by rw [hE]; exact hx), hE]
      have HA := Lib.hid AX
      clear AX hE hx
      go_enter Try.func24, Try.ntmps24
      go_wp2_with fail
      refine HC.out.mono ?_
      rintro _ _ ⟨rfl, rfl⟩
      go_wp2_with fail
      refine HA.out.mono ?_
      rintro _ w1 ⟨A1, n1, c1, rfl, s1, b1⟩
      go_wp2_with fail
      go_ret2
      exact retZE_no _ b1
  · have hE := dropE_chk l h0
    have hz : (chk d != 0) = true := by simpa using h0
    rw [dropR_no keep (by rw [hE]; exact h0), hE]
    have HC := Lib.hid CK
    clear CK h0 AX hE
    go_enter Try.func24, Try.ntmps24
    go_wp2_with fail
    refine HC.out.mono ?_
    rintro _ _ ⟨rfl, rfl⟩
    go_wp2_with fail
    go_ret2
    exact retZE_no _ (Below.refl _ _)
end Go.Proofs.Ythhmofmncjodfaa
