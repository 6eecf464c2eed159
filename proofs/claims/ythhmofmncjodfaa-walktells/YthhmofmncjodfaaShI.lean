/-
  What Perm of package shape and of the document return. Conditions: the slices read as lists of ints.
-/
import Derived.Test.YthhmofmncjodfaaShH
namespace Go.Proofs.Ythhmofmncjodfaa
open Go.RowKit
set_option linter.unusedVariables false
set_option linter.unusedSimpArgs false

/-- the dims in the order of l -/
def permL (d l : List Int) : List Int := l.map fun a => d.getD a.toNat 0
theorem length_permL (d l : List Int) : (permL d l).length = l.length := by simp [permL]
theorem permL_at (d : List Int) {l : List Int} {i : Nat} (hi : i < l.length) : (permL d l).getD i 0 = d.getD (l.getD i 0).toNat 0 := by simp [permL, hi]
theorem permL_next (d : List Int) {l : List Int} {k : Nat} (hk : k < l.length) : (permL d l).take (k + 1) = (permL d l).take k ++ [d.getD (l.getD k 0).toNat 0] := by
  rw [take_snocZ (by rw [length_permL]; exact hk), permL_at d hk]
theorem permL_i64 {d : List Int} (hd : ∀ x ∈ d, I64 x) (l : List Int) : ∀ x ∈ permL d l, I64 x := by
  intro x hx
  simp only [permL, List.mem_map] at hx
  obtain ⟨a, _, rfl⟩ := hx
  by_cases hk : a.toNat < d.length
  · rw [getD_eq hk]; exact hd _ (List.getElem_mem hk)
  · rw [List.getD_eq_getElem?_getD, List.getElem?_eq_none (by omega)]
    unfold I64
    simp
def permE (d l : List Int) : Int := if chk d = 0 then (if axE d.length l = 0 ∧ l.length = d.length then 0 else 10) else chk d
def permR (d l : List Int) : List Int := if permE d l = 0 then permL d l else []
theorem permE_chk {d : List Int} (l : List Int) (h : ¬ chk d = 0) : permE d l = chk d := by unfold permE; rw [if_neg h]
theorem permE_ok {d l : List Int} (h : chk d = 0) (h1 : axE d.length l = 0) (h2 : l.length = d.length) : permE d l = 0 := by unfold permE; rw [if_pos h, if_pos ⟨h1, h2⟩]
theorem permE_no {d l : List Int} (h : chk d = 0) (h1 : ¬ axE d.length l = 0 ∨ ¬ l.length = d.length) : permE d l = 10 := by
  unfold permE
  rw [if_pos h, if_neg]
  rintro ⟨h2, h3⟩
  rcases h1 with h1 | h1
  · exact h1 h2
  · exact h1 h3
theorem permR_ok {d l : List Int} (h : permE d l = 0) : permR d l = permL d l := by unfold permR; rw [if_pos h]
theorem permR_no {d l : List Int} (h : ¬ permE d l = 0) : permR d l = [] := by unfold permR; rw [if_neg h]
theorem axE_inv {m : Nat} {l : List Int} (h : axE m l = 0) : AxTo m l l.length := by
  unfold axE at h
  rw [Int.toNat_natCast] at h
  split at h
  · omega
  · split at h
    · rename_i h9; exact (axB_iff m l).1 h9
    · omega
theorem perm_all {d l zs : List Int} (hl : zs.length = l.length) (h : ∀ i, i < l.length → zs.getD i 0 = d.getD (l.getD i 0).toNat 0) : zs = permL d l := by
  apply List.ext_getElem
  · rw [hl, length_permL]
  · intro i h1 h2
    have := h i (by omega)
    rw [getD_eq h1] at this
    rw [this, ← permL_at d (by omega), getD_eq h2]

set_option maxRecDepth 100000 in
set_option maxHeartbeats 4000000 in
theorem sh_perm {w : World} {A B : Option Addr} {n c m e : Nat} {d l : List Int} (h : SlZ w A n c d) (h' : SlZ w B m e l) : Calls Try.prog 25 #[.slice A n c, .slice B m e] w (RetZE (permR d l) (permE d l) w) := by
  have CK := sh_check h
  have AX := sh_axes h' (n : Int)
  have HL := Lib.hid h.len
  have HL' := Lib.hid h'.len
  have hn := h.small
  have hm := h'.small
  have HI := Lib.hid h.i64
  by_cases h0 : chk d = 0
  · rw [h0] at CK
    have hn6 : n ≤ 6 := by have := (vd_of h0).len; have := h.len; omega
    have HC := Lib.hid CK
    have H0 := Lib.hid h0
    clear CK h0
    by_cases hx : axE n l = 0
    · by_cases hmn : m = n
      · have hE := permE_ok H0.out (by rw [HL.out]; exact hx) (by rw [HL.out, HL'.out]; exact hmn)
        have HR := Lib.hid (permR_ok hE)
        have HE := Lib.hid hE
        have HX := Lib.hid (axE_inv hx)
        rw [hx] at AX
        have HA := Lib.hid AX
        clear AX hE hx H0
        subst hmn
        go_enter Try.func25, Try.ntmps25
        go_wp2_with fail
        refine HC.out.mono ?_
        rintro _ _ ⟨rfl, rfl⟩
        go_wp2_with fail
        refine HA.out.mono ?_
        rintro _ w1 ⟨A1, n1, c1, rfl, s1, b1⟩
        have hb1 := b1.size
        have hdl := h.below b1
        have hll := h'.below b1
        have B1 := Lib.hid b1
        clear s1 b1 HA
        obtain ⟨w2, hmk, hr2, b2, s2⟩ := make_zs w1 m (by omega)
        have HR2 := Lib.hid hr2
        have HS2 := Lib.hid s2
        clear hr2 s2
        go_wp2_with fail
        clear hmk
        go_loopw [38] (fun iv wr => ∃ (k : Nat) (zs : List Int), k ≤ m ∧ iv = .int .i64 k ∧ Hid (zs.length = m) ∧ Hid (IRow wr w1.heap.size zs) ∧ Hid (∀ i, i < k → zs.getD i 0 = d.getD (l.getD i 0).toNat 0) ∧ Below w1.heap.size w1 wr) (fun iv _ => m - mes iv)
        case atStart => exact ⟨0, List.replicate m 0, by omega, rfl, Lib.hid (by simp), HR2, Lib.hid (fun i hi => by omega), b2⟩
        case round =>
          clear HR2 b2
          obtain ⟨k, zs, hk, rfl, HB, HR2, HM, hb⟩ := hrel
          by_cases hk2 : k < m
          · obtain ⟨b, off, x, hx, rfl, hlt, hi, hc⟩ := (hll.below hb).get hk2
            obtain ⟨⟨hx1, hx2⟩, _⟩ := HX.out k (by rw [HL'.out]; exact hk2)
            rw [hx] at hx1 hx2
            obtain ⟨t, rfl⟩ : ∃ t : Nat, x = (t : Int) := ⟨x.toNat, by omega⟩
            have htm : t < m := by omega
            obtain ⟨b', off', y, hy, rfl, hlt', hi', hc'⟩ := (hdl.below hb).get htm
            have c1 := HR2.out.cell (i := k) (by rw [HB.out]; exact hk2)
            have f1 := HR2.out.free k
            generalize zs.getD k 0 = v0 at c1
            have HXX := Lib.hid hx
            have HYY := Lib.hid hy
            clear hx hy
            go_wp2_with fail
            go_roundw
            case rel =>
              refine ⟨k + 1, zs.set k y, by omega, by go_num, Lib.hid (by rw [List.length_set]; exact HB.out), Lib.hid (HR2.out.set k y), Lib.hid (fun i hi => ?_), hb.setCell (p := ⟨w1.heap.size, k, none⟩) (Nat.le_refl _) _⟩
              rw [setI_at (by rw [HB.out]; exact hk2)]
              by_cases e9 : i = k
              · subst e9
                rw [if_pos rfl, HXX.out, Int.toNat_natCast, HYY.out]
              · rw [if_neg e9]
                exact HM.out i (by omega)
            case measure => simp [mes, intOf]; omega
          · obtain rfl : k = m := by omega
            have hz := perm_all (d := d) (l := l) (zs := zs) (by rw [HB.out, HL'.out]) (fun i hi => HM.out i (by rw [HL'.out] at hi; exact hi))
            have hs := HR2.out.slz (c := k) (by rw [hz]; exact permL_i64 HI.out l) (by rw [HB.out]; exact Nat.le_refl _) (by unfold maxLen; omega)
            rw [HB.out, hz] at hs
            have HS := Lib.hid hs
            clear hz hs
            go_wp2_with fail
            go_ret2
            rw [HR.out, HE.out]
            exact ⟨_, _, _, rfl, HS.out, fun _ => New.some_ hb1, bb B1.out hb⟩
      · have hE := permE_no (l := l) H0.out (.inr (by rw [HL.out, HL'.out]; exact hmn))
        rw [permR_no (by rw [hE]; decide), hE]
        rw [hx] at AX
        have hz : (decide (m = n)) = false := by simpa using hmn
        have hz2 : ((m : Int) != (n : Int)) = true := by simp; omega
        have HA := Lib.hid AX
        clear AX hE hx H0 hmn
        go_enter Try.func25, Try.ntmps25
        go_wp2_with fail
        refine HC.out.mono ?_
        rintro _ _ ⟨rfl, rfl⟩
        go_wp2_with fail
        refine HA.out.mono ?_
        rintro _ w1 ⟨A1, n1, c1, rfl, s1, b1⟩
        go_wp2_with fail
        go_ret2
        exact retZE_no _ b1
    · have hE := permE_no (l := l) H0.out (.inl (by rw [HL.out]; exact hx))
      rw [permR_no (by rw [hE]; decide), hE]
      have hz : (axE n l != 0) = true := by simpa using hx
      have HA := Lib.hid AX
      clear AX hE hx H0
      go_enter Try.func25, Try.ntmps25
      go_wp2_with fail
      refine HC.out.mono ?_
      rintro _ _ ⟨rfl, rfl⟩
      go_wp2_with fail
      refine HA.out.mono ?_
      rintro _ w1 ⟨A1, n1, c1, rfl, s1, b1⟩
      go_wp2_with fail
      go_ret2
      exact retZE_no _ b1
  · have hE := permE_chk l h0
    have hz : (chk d != 0) = true := by simpa using h0
    rw [permR_no (by rw [hE]; exact h0), hE]
    have HC := Lib.hid CK
    clear CK h0 AX hE
    go_enter Try.func25, Try.ntmps25
    go_wp2_with fail
    refine HC.out.mono ?_
    rintro _ _ ⟨rfl, rfl⟩
    go_wp2_with fail
    go_ret2
    exact retZE_no _ (Below.refl _ _)

set_option maxRecDepth 100000 in
set_option maxHeartbeats 4000000 in
theorem ref_perm19 {w : World} {A B : Option Addr} {n c m e : Nat} {d l : List Int} (h : SlZ w A n c d) (h' : SlZ w B m e l) : Calls Try.prog 26 #[.slice A n c, .slice B m e] w (RetZE (permR d l) (permE d l) w) := by
  have CK := ref_check19 h
  have AX := ref_axes19 h' (n : Int)
  have HL := Lib.hid h.len
  have HL' := Lib.hid h'.len
  have hn := h.small
  have hm := h'.small
  have HI := Lib.hid h.i64
  by_cases h0 : chk d = 0
  · rw [h0] at CK
    have hn6 : n ≤ 6 := by have := (vd_of h0).len; have := h.len; omega
    have HC := Lib.hid CK
    have H0 := Lib.hid h0
    clear CK h0
    by_cases hx : axE n l = 0
    · by_cases hmn : m = n
      · have hE := permE_ok H0.out (by rw [HL.out]; exact hx) (by rw [HL.out, HL'.out]; exact hmn)
        have HR := Lib.hid (permR_ok hE)
        have HE := Lib.hid hE
        have HX := Lib.hid (axE_inv hx)
        rw [hx] at AX
        have HA := Lib.hid AX
        clear AX hE hx H0
        subst hmn
        go_enter Try.func26, Try.ntmps26
        go_wp2_with fail
        refine HC.out.mono ?_
        rintro _ _ ⟨rfl, rfl⟩
        go_wp2_with fail
        refine HA.out.mono ?_
        rintro _ w1 ⟨A1, n1, c1, rfl, s1, b1⟩
        have hb1 := b1.size
        have hdl := h.below b1
        have hll := h'.below b1
        have B1 := Lib.hid b1
        clear s1 b1 HA
        go_wp2_with fail
        go_loopw [9, 34] (fun kv iv wr => ∃ (k : Nat) (zs : List Int), k ≤ m ∧ iv = .int .i64 k ∧ Hid (OwnC 1 zc 3 w1.heap.size wr kv zs) ∧ Hid (zs = (permL d l).take k) ∧ Below w1.heap.size w1 wr) (fun _ iv _ => m - mes iv)
        case atStart => exact ⟨0, [], by omega, rfl, Lib.hid OwnC.nil, Lib.hid (by simp), Below.refl _ _⟩
        case round =>
          obtain ⟨k, zs, hk, rfl, HO, HZ, hb⟩ := hrel
          have hzl : zs.length ≤ k := by rw [HZ.out, List.length_take]; omega
          have hwr := hb.size
          by_cases hk2 : k < m
          · obtain ⟨b, off, x, hx, rfl, hlt, hi, hc⟩ := (hll.below hb).get hk2
            obtain ⟨⟨hx1, hx2⟩, _⟩ := HX.out k (by rw [HL'.out]; exact hk2)
            have hnext := permL_next d (l := l) (k := k) (by rw [HL'.out]; exact hk2)
            rw [hx] at hx1 hx2 hnext
            obtain ⟨t, rfl⟩ : ∃ t : Nat, x = (t : Int) := ⟨x.toNat, by omega⟩
            have htm : t < m := by omega
            obtain ⟨b', off', y, hy, rfl, hlt', hi', hc'⟩ := (hdl.below hb).get htm
            rw [Int.toNat_natCast, hy, ← HZ.out] at hnext
            have HN := Lib.hid hnext
            clear hx hy hnext
            go_wp2_with (at_builtin; refine wpList_append_z rfl _ _ rfl w1.heap.size _ zs rfl HO.out 1 y rfl (by omega) hwr ?_)
            intro av2 w3 hown hb4
            have hb3 := hb.trans hb4
            rw [← HN.out] at hown
            have HO3 := Lib.hid hown
            clear hown hb4 HO HZ
            go_wp2_with fail
            go_roundw
            case rel => exact ⟨k + 1, _, by omega, by go_num, HO3, Lib.hid rfl, hb3⟩
            case measure => simp [mes, intOf]; omega
          · obtain rfl : k = m := by omega
            have hz := HZ.out
            rw [List.take_of_length_le (by rw [length_permL, HL'.out]; exact Nat.le_refl _)] at hz
            obtain ⟨A2, n2, c2, rfl, hs2, hn2⟩ := HO.out.retz (by rw [hz]; exact permL_i64 HI.out _)
            rw [hz] at hs2
            have HS2 := Lib.hid hs2
            clear HO hs2 hzl hz
            go_wp2_with fail
            go_ret2
            rw [HR.out, HE.out]
            exact ⟨_, _, _, rfl, HS2.out, fun h9 b off e => Nat.le_trans hb1 (hn2 h9 b off e), bb B1.out hb⟩
      · have hE := permE_no (l := l) H0.out (.inr (by rw [HL.out, HL'.out]; exact hmn))
        rw [permR_no (by rw [hE]; decide), hE]
        rw [hx] at AX
        have hz : (decide (m = n)) = false := by simpa using hmn
        have hz2 : ((m : Int) != (n : Int)) = true := by simp; omega
        have HA := Lib.hid AX
        clear AX hE hx H0 hmn
        go_enter Try.func26, Try.ntmps26
        go_wp2_with fail
        refine HC.out.mono ?_
        rintro _ _ ⟨rfl, rfl⟩
        go_wp2_with fail
        refine HA.out.mono ?_
        rintro _ w1 ⟨A1, n1, c1, rfl, s1, b1⟩
        go_wp2_with fail
        go_ret2
        exact retZE_no _ b1
    · have hE := permE_no (l := l) H0.out (.inl (by rw [HL.out]; exact hx))
      rw [permR_no (by rw [hE]; decide), hE]
      have hz : (axE n l != 0) = true := by simpa using hx
      have HA := Lib.hid AX
      clear AX hE hx H0
      go_enter Try.func26, Try.ntmps26
      go_wp2_with fail
      refine HC.out.mono ?_
      rintro _ _ ⟨rfl, rfl⟩
      go_wp2_with fail
      refine HA.out.mono ?_
      rintro _ w1 ⟨A1, n1, c1, rfl, s1, b1⟩
      go_wp2_with fail
      go_ret2
      exact retZE_no _ b1
  · have hE := permE_chk l h0
    have hz : (chk d != 0) = true := by simpa using h0
    rw [permR_no (by rw [hE]; exact h0), hE]
    have HC := Lib.hid CK
    clear CK h0 AX hE
    go_enter Try.func26, Try.ntmps26
    go_wp2_with fail
    refine HC.out.mono ?_
    rintro _ _ ⟨rfl, rfl⟩
    go_wp2_with fail
    go_ret2
    exact retZE_no _ (Below.refl _ _)

end Go.Proofs.Ythhmofmncjodfaa
