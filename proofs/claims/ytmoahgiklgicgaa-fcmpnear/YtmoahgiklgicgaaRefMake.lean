/-
  What the document's own functions on numbers (package gradineref02) that make numbers return. Conditions: the slices read as lists of words, of at most 10^7 words.
-/
import Derived.Test.YtmoahgiklgicgaaNatMake
namespace Go.Proofs.Ytmoahgiklgicgaa
set_option maxRecDepth 100000
open Go.RowKit
set_option linter.unusedVariables false
set_option linter.unusedSimpArgs false

/-- the cells of a list of words -/
def vs (zs : List Int) : List Value := zs.map (Value.int .u64)
theorem vs_length (zs : List Int) : (vs zs).length = zs.length := by unfold vs; simp
/-- the slice value v owns, from block B on, the words zs -/
def Own (t : TypeId) (B : Nat) (w : World) (v : Value) (zs : List Int) : Prop := w.ownsRow B t 1 v zs.length (vs zs)
theorem Own.out {t : TypeId} {B : Nat} {w : World} {v : Value} {zs : List Int} (h : Own t B w v zs) : w.ownsRow B t 1 v zs.length (vs zs) := h
theorem Own.nil (t : TypeId) (B : Nat) (w : World) : Own t B w (.slice none 0 0) [] := World.ownsRow_nil _ _ _ _
theorem Own.snoc {t : TypeId} {B : Nat} {w : World} {v : Value} {zs : List Int} {x : Int} (h : w.ownsRow B t 1 v (zs.length + 1) (vs zs ++ [.int .u64 x])) : Own t B w v (zs ++ [x]) := by
  unfold Own
  have e : vs (zs ++ [x]) = vs zs ++ [.int .u64 x] := by unfold vs; simp
  rw [e, List.length_append]
  exact h
theorem own_form {w : World} {base : Nat} {t : TypeId} {v : Value} {zs : List Int} (h : Own t base w v zs) : ∃ A c, v = .slice A zs.length c := by
  rcases h with ⟨hl, ⟨rfl, h0⟩ | ⟨g, cap, cur, rfl, _⟩⟩
  · exact ⟨none, 0, by rw [h0]⟩
  · exact ⟨_, _, rfl⟩
theorem own_below {w wr w1 : World} {t : TypeId} {v : Value} {zs : List Int} {o : Obj} (hb : Below w.heap.size w wr) (hown : Own t w.heap.size wr v zs) (hg : (wr.alloc o).grownBy w1 v.ownBlock) : Below w.heap.size w w1 :=
  (hb.alloc hb.size o).grown hg (by have := hb.size; simp; omega) (fun k e => (hown.out.lt k e).1)
theorem Own.sl {w : World} {base : Nat} {t : TypeId} {A : Option Addr} {n c : Nat} {zs : List Int} (h : Own t base w (.slice A n c) zs) (hu : ∀ x ∈ zs, U x) : Sl w A n c zs := by
  obtain ⟨A', c', e⟩ := own_form h
  injection e with e1 e2 e3
  subst e1 e2 e3
  exact Sl.of_own h.out hu
theorem retSl_own {w w' : World} {t : TypeId} {v : Value} {zs : List Int} (h : Own t w.heap.size w' v zs) (hu : ∀ x ∈ zs, U x) (hb : Below w.heap.size w w') : RetSl zs w (.returned v) w' := by
  obtain ⟨A, c, rfl⟩ := own_form h
  exact ⟨A, _, c, rfl, h.sl hu, hb⟩
theorem take_snoc (xs : List Int) (k : Nat) (h : k < xs.length) : xs.take (k + 1) = xs.take k ++ [xs.getD k 0] := by
  rw [List.take_succ_eq_append_getElem h, List.getD_eq_getElem?_getD, List.getElem?_eq_getElem h]; rfl

/-- a call that returns a row of its own -/
def RetOwn (zs : List Int) (w : World) (e : Ending) (w' : World) : Prop := ∃ v, e = .returned v ∧ Own 22 w.heap.size w' v zs ∧ Below w.heap.size w w'
theorem Own.mono {t : TypeId} {b b' : Nat} {w : World} {v : Value} {zs : List Int} (h : Own t b w v zs) (hb : b' ≤ b) : Own t b' w v zs := by
  obtain ⟨h1, h2⟩ := h
  refine ⟨h1, ?_⟩
  rcases h2 with h2 | ⟨g, cap, cur, hv, hg, r⟩
  · exact .inl h2
  · exact .inr ⟨g, cap, cur, hv, Nat.le_trans hb hg, r⟩

set_option maxHeartbeats 400000 in
theorem ref_trim_own {w : World} {A : Option Addr} {n c : Nat} {xs : List Int} (h : Sl w A n c xs) (hn : n ≤ 100000000) :
    Calls Try.prog 46 #[.slice A n c] w (RetOwn (words (val xs)) w) := by
  have hs : sz xs ≤ n := by rw [h.len]; exact sz_le xs
  have S1 := ref_size h (by omega)
  have hlen := h.len
  have hw : words (val xs) = xs.take (sz xs) := words_val (Dg_U h.us)
  generalize hp : sz xs = p at S1 hs hw
  rw [hw]
  have T1 := Lib.hid S1
  have HL := Lib.hid hlen
  clear hp S1 hw hlen
  obtain ⟨i0, hi, hz0, hz1, hz2⟩ := info_parts infoW
  go_enter Try.func46, Try.ntmps46
  go_wp2_with fail
  refine T1.out.mono ?_
  rintro e w' ⟨rfl, rfl⟩
  go_wp2_with fail
  go_loopw [3, 7] (fun v i wr => ∃ (k : Nat) (zs : List Int), k ≤ p ∧ i = .int .i64 k ∧ Own 22 w.heap.size wr v zs ∧ Below w.heap.size w wr ∧ Hid (zs = xs.take k)) (fun _ i _ => p - mes i)
  case atStart => exact ⟨0, [], by omega, rfl, Own.nil _ _ _, Below.refl _ _, Lib.hid rfl⟩
  case round =>
    obtain ⟨k, zs, hk, rfl, hown, hb, HZ⟩ := hrel
    have hzl : zs.length ≤ k := by rw [HZ.out, List.length_take]; omega
    by_cases hk2 : k < p
    · obtain ⟨ba, off, rfl, hba, hca⟩ := h.at_ (k := k) (by omega)
      have hac := (hb.cell (p := ⟨ba, off + k, none⟩) hba).trans (hca k (by omega))
      have ht := take_snoc xs k (by have := HL.out; omega)
      obtain ⟨x, hx⟩ : ∃ x, xs.getD k 0 = x := ⟨_, rfl⟩
      rw [hx] at hac ht
      have HT := Lib.hid ht
      clear ht hx hca
      go_wp2_with (at_builtin; refine wpList_append_own _ rfl _ _ 34 rfl w.heap.size 22 i0 (.int .u64 0) 1 8 Try.underlying34 hi hz0 hz1 hz2 rfl (by decide) _ _ _ rfl (hown.out.alloc _) ⟨wr.heap.size, 0, none⟩ 1 1 [.int .u64 x] rfl rfl ?c1 ?c2 ?c3 ?c4 ?c5 ?_)
      case c1 => exact cell_one_new _ _ _
      case c2 => intro u hu; simp at hu; subst hu; rfl
      case c3 => unfold maxLen; omega
      case c4 => omega
      case c5 => have := hb.size; simp; omega
      intro v' w1 hown' hgrow _
      have hb1 := own_below hb hown hgrow
      have hown2 : Own 22 w.heap.size w1 v' (zs ++ [x]) := Own.snoc hown'
      have HO := Lib.hid hown2
      clear hown hown' hgrow hown2 hac
      go_wp2
      go_roundw
      case rel => exact ⟨k + 1, _, by omega, by go_num, HO.out, hb1, Lib.hid (by rw [HT.out, ← HZ.out])⟩
      case measure => simp [mes, intOf]; omega
    · obtain rfl : k = p := by omega
      go_wp2_with fail
      go_ret
      have hz := HZ.out
      subst hz
      exact ⟨_, rfl, hown, hb⟩
theorem ref_trim {w : World} {A : Option Addr} {n c : Nat} {xs : List Int} (h : Sl w A n c xs) (hn : n ≤ 100000000) :
    Calls Try.prog 46 #[.slice A n c] w (RetSl (words (val xs)) w) :=
  (ref_trim_own h hn).mono fun _ _ ⟨_, he, ho, hb⟩ => he ▸ retSl_own ho (words_U _) hb

set_option maxHeartbeats 400000 in
theorem ref_halves_own {w : World} {A : Option Addr} {n c : Nat} {xs : List Int} (h : Sl w A n c xs) (hn : n ≤ 10000000) :
    Calls Try.prog 49 #[.slice A n c] w (RetOwn (hwords (val xs)) w) := by
  have hlen := h.len
  have HL := Lib.hid hlen
  clear hlen
  obtain ⟨i0, hi, hz0, hz1, hz2⟩ := info_parts infoW
  go_enter Try.func49, Try.ntmps49
  go_wp2_with fail
  go_loopw [3, 7] (fun v i wr => ∃ (k : Nat) (zs : List Int), k ≤ n ∧ i = .int .i64 k ∧ Own 22 w.heap.size wr v zs ∧ Below w.heap.size w wr ∧ Hid (zs = hl (xs.take k))) (fun _ i _ => n - mes i)
  case atStart => exact ⟨0, [], by omega, rfl, Own.nil _ _ _, Below.refl _ _, Lib.hid rfl⟩
  case round =>
    obtain ⟨k, zs, hk, rfl, hown, hb, HZ⟩ := hrel
    have hzl : zs.length ≤ 2 * k := by rw [HZ.out, hl_length, List.length_take]; omega
    by_cases hk2 : k < n
    · obtain ⟨ba, off, rfl, hba, hca⟩ := h.at_ (k := k) (by omega)
      have hac := (hb.cell (p := ⟨ba, off + k, none⟩) hba).trans (hca k (by omega))
      have ht := take_snoc xs k (by have := HL.out; omega)
      have hu := h.u k
      obtain ⟨x, hx⟩ : ∃ x, xs.getD k 0 = x := ⟨_, rfl⟩
      rw [hx] at hac ht hu
      have ea := and32 hu
      have HT := Lib.hid ht
      have HC := Lib.hid (hca k (by omega))
      have HX := Lib.hid hx
      clear ht hx hca
      go_wp2_with (at_builtin; refine wpList_append_own _ rfl (.tmp 10) (.tmp 16) 34 rfl w.heap.size 22 i0 (.int .u64 0) 1 8 Try.underlying34 hi hz0 hz1 hz2 rfl (by decide) _ _ _ rfl (hown.out.alloc _) ⟨wr.heap.size, 0, none⟩ 1 1 [.int .u64 (x % 4294967296)] rfl rfl ?c1 ?c2 ?c3 ?c4 ?c5 ?_)
      case c1 => exact cell_one_new _ _ _
      case c2 => intro u hu; simp at hu; subst hu; rfl
      case c3 => unfold maxLen; omega
      case c4 => omega
      case c5 => have := hb.size; simp; omega
      intro v' w1 hown' hgrow _
      have hb1 := own_below hb hown hgrow
      have hown1 : Own 22 w.heap.size w1 v' (zs ++ [x % 4294967296]) := Own.snoc hown'
      have hac1 : w1.cell? ⟨ba, off + k, none⟩ = some (.int .u64 x) := (hb1.cell (p := ⟨ba, off + k, none⟩) hba).trans (by rw [HC.out, HX.out])
      generalize hzs1 : zs ++ [x % 4294967296] = zs1 at hown1
      have hzl1 : zs1.length ≤ 2 * k + 1 := by rw [← hzs1]; simp; omega
      have HZ1 := Lib.hid hzs1
      clear hown hown' hgrow hac hzs1 hb
      go_wp2_with (at_builtin; refine wpList_append_own _ rfl (.tmp 18) (.tmp 24) 34 rfl w.heap.size 22 i0 (.int .u64 0) 1 8 Try.underlying34 hi hz0 hz1 hz2 rfl (by decide) _ _ _ rfl (hown1.out.alloc _) ⟨w1.heap.size, 0, none⟩ 1 1 [.int .u64 (x / 4294967296)] rfl rfl ?d1 ?d2 ?d3 ?d4 ?d5 ?_)
      case d1 => exact cell_one_new _ _ _
      case d2 => intro u hu; simp at hu; subst hu; rfl
      case d3 => unfold maxLen; omega
      case d4 => omega
      case d5 => have := hb1.size; simp; omega
      intro v2 w2 hown2 hgrow2 _
      have hb2 := own_below hb1 hown1 hgrow2
      have hown3 : Own 22 w.heap.size w2 v2 (zs1 ++ [x / 4294967296]) := Own.snoc hown2
      have HO := Lib.hid hown3
      clear hown1 hown2 hgrow2 hown3 hac1
      go_wp2
      go_roundw
      case rel => exact ⟨k + 1, _, by omega, by go_num, HO.out, hb2, Lib.hid (by rw [HT.out, hl_append, ← HZ.out, ← HZ1.out]; simp [hl])⟩
      case measure => simp [mes, intOf]; omega
    · obtain rfl : k = n := by omega
      obtain ⟨A2, c2, rfl⟩ := own_form hown
      have hz : zs = hl xs := by rw [HZ.out, List.take_of_length_le (by have := HL.out; omega)]
      subst hz
      have hsl := hown.sl (U_Dg ((hl_Dg (Dg_U h.us)).mono H_le_W))
      have R := ref_trim_own hsl (by omega)
      rw [hl_trim (Dg_U h.us)] at R
      have HR := Lib.hid R
      clear R hsl hown
      go_wp2_with fail
      refine HR.out.mono ?_
      rintro e w' ⟨v3, rfl, s3, b3⟩
      go_wp2_with fail
      go_ret
      exact ⟨_, rfl, s3.mono hb.size, hb.trans (b3.mono hb.size)⟩
theorem ref_halves {w : World} {A : Option Addr} {n c : Nat} {xs : List Int} (h : Sl w A n c xs) (hn : n ≤ 10000000) :
    Calls Try.prog 49 #[.slice A n c] w (RetSl (hwords (val xs)) w) :=
  (ref_halves_own h hn).mono fun _ _ ⟨_, he, ho, hb⟩ => he ▸ retSl_own ho (hwords_U _) hb

set_option maxHeartbeats 1000000 in
theorem ref_whole {w : World} {A : Option Addr} {n c : Nat} {hs : List Int} (h : Sl w A n c hs) (hd : Dg H hs) (hn : n ≤ 20000000) :
    Calls Try.prog 51 #[.slice A n c] w (RetSl (words (valB H hs)) w) := by
  have hlen := h.len
  have HL := Lib.hid hlen
  clear hlen
  obtain ⟨i0, hi, hz0, hz1, hz2⟩ := info_parts infoW
  go_enter Try.func51, Try.ntmps51
  go_wp2_with fail
  go_loopw [3, 4] (fun v i wr => ∃ (k : Nat) (zs : List Int), k ≤ n ∧ 2 * k ≤ n + 1 ∧ i = .int .i64 (2 * (k : Int)) ∧ Own 22 w.heap.size wr v zs ∧ Below w.heap.size w wr ∧ WholeInv hs k zs) (fun _ i _ => n + 2 - mes i)
  case atStart => exact ⟨0, [], by omega, by omega, rfl, Own.nil _ _ _, Below.refl _ _, wholeInv_0 hs⟩
  case round =>
    obtain ⟨k, zs, hk, hk1, rfl, hown, hb, hz⟩ := hrel
    have hzl : zs.length ≤ k := Nat.le_of_eq hz.1
    by_cases hk2 : 2 * k < n
    · obtain ⟨ba, off, rfl, hba, hca⟩ := h.at_ (k := 2 * k) (by omega)
      have hac := (hb.cell (p := ⟨ba, off + 2 * k, none⟩) hba).trans (hca (2 * k) (by omega))
      have hst := wholeInv_step hd hz
      have d0 := hd.at_ H_pos (2 * k)
      have d1 := hd.at_ H_pos (2 * k + 1)
      have hor := whole_or d0 d1
      have hp : n ≤ 2 * k + 1 → hs.getD (2 * k + 1) 0 = 0 := fun h9 => by rw [List.getD_eq_getElem?_getD, List.getElem?_eq_none (by have := HL.out; omega)]; rfl
      have hcb : 2 * k + 1 < n → wr.cell? ⟨ba, off + (2 * k + 1), none⟩ = some (.int .u64 (hs.getD (2 * k + 1) 0)) := fun h9 => (hb.cell (p := ⟨ba, off + (2 * k + 1), none⟩) hba).trans (hca (2 * k + 1) h9)
      generalize hs.getD (2 * k) 0 = x at *
      generalize hs.getD (2 * k + 1) 0 = y at *
      have e2k : (2 * (k : Int)).toNat = 2 * k := by omega
      have hkn : 2 * (k : Int) < (n : Int) := by omega
      by_cases hk3 : 2 * k + 1 < n
      · have hbc := hcb hk3
        have hkn2 : 2 * (k : Int) + 1 < (n : Int) := by omega
        obtain ⟨z, ez⟩ : ∃ z, x + y * 4294967296 = z := ⟨_, rfl⟩
        rw [ez] at hst
        have d1' : y < 4294967296 := by have := d1.2; unfold H at this; omega
        have d1n := d1.1
        have hor2 : bits BinOp.or IntKind.u64 x (y * 4294967296) = z := by rw [← ez, ← hor, wrapU_lo, lo_U]; unfold U; omega
        have HS := Lib.hid hst
        clear hst d0 d1 hor hp hcb hca hz ez
        go_wp2_with (at_builtin; refine wpList_append_own _ rfl (.tmp 29) (.tmp 31) 34 rfl w.heap.size 22 i0 (.int .u64 0) 1 8 Try.underlying34 hi hz0 hz1 hz2 rfl (by decide) _ _ _ rfl (hown.out.alloc _) ⟨wr.heap.size, 0, none⟩ 1 1 [.int .u64 (z)] rfl rfl ?c1 ?c2 ?c3 ?c4 ?c5 ?_)
        case c1 => exact cell_one_new _ _ _
        case c2 => intro u hu; simp at hu; subst hu; rfl
        case c3 => unfold maxLen; omega
        case c4 => omega
        case c5 => have := hb.size; simp; omega
        intro v' w1 hown' hgrow _
        have hb1 := own_below hb hown hgrow
        have HO := Lib.hid (Own.snoc hown')
        clear hown hown' hgrow hac hbc
        go_wp2
        go_roundw
        case rel => exact ⟨k + 1, _, by omega, by omega, by go_num, HO.out, hb1, HS.out⟩
        case measure => simp [mes, intOf]; omega
      · have hy := hp (by omega)
        subst hy
        have hkn2 : (n : Int) ≤ 2 * (k : Int) + 1 := by omega
        rw [Int.zero_mul, Int.add_zero] at hst
        have HS := Lib.hid hst
        clear hst d0 d1 hor hp hcb hca hz
        go_wp2_with (at_builtin; refine wpList_append_own _ rfl (.tmp 29) (.tmp 31) 34 rfl w.heap.size 22 i0 (.int .u64 0) 1 8 Try.underlying34 hi hz0 hz1 hz2 rfl (by decide) _ _ _ rfl (hown.out.alloc _) ⟨wr.heap.size, 0, none⟩ 1 1 [.int .u64 (x)] rfl rfl ?d1 ?d2 ?d3 ?d4 ?d5 ?_)
        case d1 => exact cell_one_new _ _ _
        case d2 => intro u hu; simp at hu; subst hu; rfl
        case d3 => unfold maxLen; omega
        case d4 => omega
        case d5 => have := hb.size; simp; omega
        intro v' w1 hown' hgrow _
        have hb1 := own_below hb hown hgrow
        have HO := Lib.hid (Own.snoc hown')
        clear hown hown' hgrow hac
        go_wp2
        go_roundw
        case rel => exact ⟨k + 1, _, by omega, by omega, by go_num, HO.out, hb1, HS.out⟩
        case measure => simp [mes, intOf]; omega
    · obtain ⟨A2, c2, rfl⟩ := own_form hown
      have hdz : Dg W zs := hz.2.1
      have hv := wholeInv_end hz (by have := HL.out; omega)
      have hsl := hown.sl (U_Dg hdz)
      have R := ref_trim hsl (by omega)
      rw [hv] at R
      have HR := Lib.hid R
      have hkn : (n : Int) ≤ 2 * (k : Int) := by omega
      clear R hsl hown hz hv
      go_wp2_with fail
      refine HR.out.mono ?_
      rintro e w' ⟨A3, n3, c3, rfl, s3, b3⟩
      go_wp2_with fail
      go_ret
      exact ⟨_, _, _, rfl, s3, hb.trans (b3.mono hb.size)⟩

end Go.Proofs.Ytmoahgiklgicgaa
