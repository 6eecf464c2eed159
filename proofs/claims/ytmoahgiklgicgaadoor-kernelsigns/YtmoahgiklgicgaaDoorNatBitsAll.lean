/-
  Plain mathematics of shifts of lists of words in place: from the top down for a shift to the left, from the bottom up for one to the right. No Go in sight.
-/
import Derived.Test.YtmoahgiklgicgaaDoorMemAll
import Derived.Laws.CopyOwn
import Derived.Deep.QuietTactic
import Derived.BigQuiet
import Derived.Test.YtmoahgiklgicgaaDoorNatMath
namespace Go.Proofs.YtmoahgiklgicgaaDoor
set_option maxRecDepth 100000
open Go.RowKit
set_option linter.unusedVariables false
set_option linter.unusedSimpArgs false

theorem blen_le64 {xs : List Int} (h : ∀ x ∈ xs, U x) (j : Nat) : blen (xs.getD j 0).toNat ≤ 64 := by
  have := (Dg_U h).at_ W_pos j
  refine blen_le ?_
  unfold W at this
  omega
theorem blen_val_le {w : World} {A : Option Addr} {n c : Nat} {xs : List Int} (h : Sl w A n c xs) : blen (val xs) ≤ n * 64 := by
  rcases Nat.eq_zero_or_pos (sz xs) with h0 | h0
  · have : val xs = 0 := (valB_zero_iff W_pos (Dg_U h.us)).2 h0
    rw [this, blen_zero]; omega
  · rw [blen_val (Dg_U h.us) h0]
    have := blen_le64 h.us (sz xs - 1)
    have := sz_le xs
    have := h.len
    omega

set_option maxHeartbeats 400000 in
theorem ref_bits {w : World} {A : Option Addr} {n c : Nat} {xs : List Int} (h : Sl w A n c xs) (hn : n ≤ 1000000000) :
    Calls Tryd.prog 62 #[.slice A n c] w fun e w' => e = .returned (.int .i64 (blen (val xs))) ∧ w = w' := by
  have hs : sz xs ≤ n := by rw [h.len]; exact sz_le xs
  by_cases h0 : sz xs = 0
  · have hv : val xs = 0 := (valB_zero_iff W_pos (Dg_U h.us)).2 h0
    have HV := Lib.hid hv
    have S := ref_size h hn
    rw [h0] at S
    have HS := Lib.hid S
    clear hv S h0
    go_enter Tryd.func62, Tryd.ntmps62
    go_wp2_with fail
    refine HS.out.mono ?_
    rintro e w' ⟨rfl, rfl⟩
    go_wp2_with fail
    go_ret
    exact ⟨ret1 (by rw [HV.out]; rfl), rfl⟩
  · obtain ⟨m, hm⟩ : ∃ m, sz xs = m + 1 := ⟨sz xs - 1, by omega⟩
    have hv := blen_val (Dg_U h.us) (by omega)
    have hb := blen_le64 h.us m
    have hu := h.u m
    rw [hm, Nat.add_sub_cancel] at hv
    have S := ref_size h hn
    rw [hm] at S
    have hm' : m < n := by omega
    obtain ⟨b, off, rfl, hb', hc⟩ := h.at_ hm'
    have hcell := hc m hm'
    obtain ⟨z, hz⟩ : ∃ z, xs.getD m 0 = z := ⟨_, rfl⟩
    rw [hz] at hcell hv hb hu
    have HV := Lib.hid hv
    have HS := Lib.hid S
    clear hv S h0 hm hs hc hz
    go_enter Tryd.func62, Tryd.ntmps62
    go_wp2_with fail
    refine HS.out.mono ?_
    rintro e w' ⟨rfl, rfl⟩
    go_wp2_with fail
    refine (ref_len z hu _).mono ?_
    rintro e w' ⟨rfl, rfl⟩
    go_wp2_with fail
    go_ret
    exact ⟨ret1 (by rw [HV.out]; omega), rfl⟩


theorem bit_wd {xs : List Int} (h : ∀ x ∈ xs, U x) (k : Nat) : (bits BinOp.and IntKind.u64 (wd xs ((k : Int) / 64) / 2 ^ (k % 64)) 1 == 1) = bitN (val xs) k := by
  have e1 : wd xs ((k : Int) / 64) = (((xs.getD (k / 64) 0).toNat : Nat) : Int) := by
    have := (Dg_U h).at_ W_pos (k / 64)
    unfold wd
    rw [show ((k : Int) / 64).toNat = k / 64 by omega]
    omega
  have hu : U (((xs.getD (k / 64) 0).toNat : Nat) : Int) := by
    have := (Dg_U h).at_ W_pos (k / 64)
    unfold U; unfold W at this; omega
  have hd : ∀ t : Nat, ((t : Int) == 1) = decide (t = 1) := fun t => by rw [Bool.eq_iff_iff]; simp; omega
  rw [e1, bit_of _ _ hu, bitN_nat, bit_word (Dg_U h), hd]

set_option maxHeartbeats 400000 in
theorem ref_bit {w : World} {A : Option Addr} {n c : Nat} {xs : List Int} (h : Sl w A n c xs) (hn : n ≤ 1000000000) (i : Int) (hi2 : i ≤ 9223372036854775807) :
    Calls Tryd.prog 78 #[.slice A n c, .int .i64 i] w fun e w' => e = .returned (.bool (bitN (val xs) i)) ∧ w = w' := by
  by_cases hi : i < 0
  · have hb := bitN_neg (val xs) hi
    have HB := Lib.hid hb
    clear hb
    have h1 : decide (0 ≤ i) = false := by simp; omega
    go_enter Tryd.func78, Tryd.ntmps78
    go_wp2
    go_ret
    exact ⟨retB HB.out.symm, rfl⟩
  · obtain ⟨k, rfl⟩ := Int.eq_ofNat_of_zero_le (show 0 ≤ i by omega)
    have hb := bit_wd h.us k
    by_cases hk : k / 64 < n
    · obtain ⟨b, off, rfl, hb', hc⟩ := h.at_ hk
      have hcell := hc (k / 64) hk
      have e1 : wd xs ((k : Int) / 64) = xs.getD (k / 64) 0 := by unfold wd; rw [show ((k : Int) / 64).toNat = k / 64 by omega]
      rw [← e1] at hcell
      obtain ⟨z, hz⟩ : ∃ z, wd xs ((k : Int) / 64) = z := ⟨_, rfl⟩
      rw [hz] at hcell hb
      have HB := Lib.hid hb
      clear hb e1 hz hc
      have h1 : decide (0 ≤ (k : Int)) = true := by simp
      have h2 : decide (k / 64 < n) = true := by simp; omega
      have h3 : (k : Int) / 64 < (n : Int) := by omega
      go_enter Tryd.func78, Tryd.ntmps78
      go_wp2
      go_ret
      exact ⟨retB HB.out, rfl⟩
    · have e1 : wd xs ((k : Int) / 64) = 0 := by
        unfold wd
        rw [show ((k : Int) / 64).toNat = k / 64 by omega, List.getD_eq_getElem?_getD, List.getElem?_eq_none (by have := h.len; omega)]; rfl
      have hb2 : bitN (val xs) k = false := by
        rw [← hb, e1, Int.zero_ediv]
        decide
      have HB := Lib.hid hb2
      clear hb hb2 e1
      have h1 : decide (0 ≤ (k : Int)) = true := by simp
      have h2 : decide (k / 64 < n) = false := by simp; omega
      have h3 : (n : Int) ≤ (k : Int) / 64 := by omega
      go_enter Tryd.func78, Tryd.ntmps78
      go_wp2
      go_ret
      exact ⟨retB HB.out.symm, rfl⟩

theorem bitN_true {v k : Nat} (h : v / 2 ^ k % 2 = 1) : bitN v k = true := by rw [bitN_nat]; simpa using h
theorem bitN_false {v k : Nat} (h : v / 2 ^ k % 2 ≠ 1) : bitN v k = false := by rw [bitN_nat]; simpa using h

set_option maxHeartbeats 400000 in
theorem ref_even {w : World} {A : Option Addr} {n c : Nat} {xs : List Int} (h : Sl w A n c xs) (hn : n ≤ 1000000000) :
    Calls Tryd.prog 92 #[.slice A n c] w fun e w' => e = .returned (.int .i64 (tz (val xs))) ∧ w = w' := by
  have hbl := blen_val_le h
  have S := ref_size h hn
  have hs : sz xs ≤ n := by rw [h.len]; exact sz_le xs
  by_cases h0 : sz xs = 0
  · have hv : val xs = 0 := (valB_zero_iff W_pos (Dg_U h.us)).2 h0
    have HV := Lib.hid hv
    rw [h0] at S
    have HS := Lib.hid S
    clear hv S h0
    go_enter Tryd.func92, Tryd.ntmps92
    go_wp2_with fail
    refine HS.out.mono ?_
    rintro e w' ⟨rfl, rfl⟩
    go_wp2_with fail
    go_ret
    exact ⟨ret1 (by rw [HV.out]; rfl), rfl⟩
  · have hv : val xs ≠ 0 := fun e => h0 ((valB_zero_iff W_pos (Dg_U h.us)).1 e)
    obtain ⟨L, hL⟩ : ∃ L, blen (val xs) = L := ⟨_, rfl⟩
    rw [hL] at hbl
    have HL := Lib.hid hL
    have HV := Lib.hid hv
    obtain ⟨p, hp⟩ : ∃ p, sz xs = p := ⟨_, rfl⟩
    rw [hp] at S hs h0
    have HS := Lib.hid S
    have h0' : ((p : Int) == 0) = false := by simp; omega
    clear S hL hv hp
    go_enter Tryd.func92, Tryd.ntmps92
    go_wp2_with fail
    refine HS.out.mono ?_
    rintro e w' ⟨rfl, rfl⟩
    go_wp2_with fail
    go_loop [3] (fun i => ∃ k : Nat, k ≤ L ∧ i = .int .i64 k ∧ LowZero (val xs) k) (fun i => L - mes i)
    case atStart => exact ⟨0, by omega, rfl, lowZero_0 _⟩
    case round =>
      obtain ⟨k, hk, rfl, hz⟩ := hrel
      have hk2 : k < L := by
        rcases Nat.lt_or_ge k L with h9 | h9
        · exact h9
        · exact absurd (lowZero_zero (v := val xs) (by rw [HL.out, ← (show k = L from by omega)]; exact hz)) HV.out
      have B := ref_bit h hn (k : Int) (by omega)
      by_cases hb : val xs / 2 ^ k % 2 = 1
      · rw [bitN_true hb] at B
        have HB := Lib.hid B
        have H1 := Lib.hid hb
        clear B hb
        go_wp2_with fail
        refine HB.out.mono ?_
        rintro e w' ⟨rfl, rfl⟩
        go_wp2_with fail
        go_ret
        exact ⟨ret1 (by rw [tz_unique hz H1.out]), rfl⟩
      · rw [bitN_false hb] at B
        have HB := Lib.hid B
        have H1 := Lib.hid hb
        clear B hb
        go_wp2_with fail
        refine HB.out.mono ?_
        rintro e w' ⟨rfl, rfl⟩
        go_wp2_with fail
        go_round
        case rel => exact ⟨k + 1, by omega, by go_num, hz.step H1.out⟩
        case measure => simp [mes, intOf]; omega

/-- the first k places are the same -/
def SameTo (xs ys : List Int) (k : Nat) : Prop := ∀ j, j < k → xs.getD j 0 = ys.getD j 0
theorem SameTo.step {xs ys : List Int} {k : Nat} (h : SameTo xs ys k) (h0 : xs.getD k 0 = ys.getD k 0) : SameTo xs ys (k + 1) := fun j hj => by
  rcases Nat.lt_or_ge j k with hl | hl
  · exact h j hl
  · rw [show j = k by omega]; exact h0
theorem SameTo.all {xs ys : List Int} (hl : xs.length = ys.length) (h : SameTo xs ys xs.length) : xs = ys := by
  apply List.ext_getElem hl
  intro i h1 h2
  have := h i h1
  simpa [List.getD_eq_getElem?_getD, h1, h2] using this

end Go.Proofs.YtmoahgiklgicgaaDoor

namespace Go.Proofs.YtmoahgiklgicgaaDoor
set_option maxRecDepth 100000
open Go.RowKit
set_option linter.unusedVariables false
set_option linter.unusedSimpArgs false

theorem infoW : (Tryd.prog.info? 22).map (fun i => (i.zero, i.size, i.bytes)) = some (some (.int .u64 0), 1, 8) := by kernel_rfl

/-- a normalized cut of a row that the call made -/
theorem retSl_cut {w w' : World} {t : TypeId} {g c v : Nat} {zs : List Int} (hr : Row t w' g zs) (hd : Dg W zs) (hc : zs.length ≤ c) (hv : val zs = v) (hb : Below w.heap.size w w') :
    RetSl (words v) w (.returned (.slice (some ⟨g, 0, none⟩) (sz zs) c)) w' := by
  subst hv
  exact ⟨_, _, _, rfl, cut_sl (hr.sl (U_Dg hd) hc), hb⟩

end Go.Proofs.YtmoahgiklgicgaaDoor

namespace Go.Proofs.YtmoahgiklgicgaaDoor
set_option maxRecDepth 100000
open Go.RowKit
set_option linter.unusedVariables false
set_option linter.unusedSimpArgs false

/-- the cells of a list of words -/
def vs (zs : List Int) : List Value := zs.map (Value.int .u64)
theorem vs_length (zs : List Int) : (vs zs).length = zs.length := by unfold vs; simp
/-- the slice value v owns, from block B on, the words zs -/
def Own (t : TypeId) (B : Nat) (w : World) (v : Value) (zs : List Int) : Prop := w.ownsRow B t 1 v zs.length (vs zs)
theorem Own.out {t : TypeId} {B : Nat} {w : World} {v : Value} {zs : List Int} (h : Own t B w v zs) : w.ownsRow B t 1 v zs.length (vs zs) := h
theorem Own.nil (t : TypeId) (B : Nat) (w : World) : Own t B w (.slice none 0 0) [] := World.ownsRow_nil _ _ _ _
theorem Own.snoc {t : TypeId} {B : Nat} {w : World} {v : Value} {zs : List Int} {x : Int} (h : w.ownsRow B t 1 v (zs.length + 1) (vs zs ++ [.int .u64 x])) : Own t B w v (zs ++ [x]) := by
  unfold Own
  have e : vs (zs ++ [x]) = vs zs ++ [.int .u64 x] := by unfold vs; simp
  rw [e, List.length_append]
  exact h
theorem own_form {w : World} {base : Nat} {t : TypeId} {v : Value} {zs : List Int} (h : Own t base w v zs) : ∃ A c, v = .slice A zs.length c := by
  rcases h with ⟨hl, ⟨rfl, h0⟩ | ⟨g, cap, cur, rfl, _⟩⟩
  · exact ⟨none, 0, by rw [h0]⟩
  · exact ⟨_, _, rfl⟩
theorem own_below {w wr w1 : World} {t : TypeId} {v : Value} {zs : List Int} {o : Obj} (hb : Below w.heap.size w wr) (hown : Own t w.heap.size wr v zs) (hg : (wr.alloc o).grownBy w1 v.ownBlock) : Below w.heap.size w w1 :=
  (hb.alloc hb.size o).grown hg (by have := hb.size; simp; omega) (fun k e => (hown.out.lt k e).1)
theorem Own.sl {w : World} {base : Nat} {t : TypeId} {A : Option Addr} {n c : Nat} {zs : List Int} (h : Own t base w (.slice A n c) zs) (hu : ∀ x ∈ zs, U x) : Sl w A n c zs := by
  obtain ⟨A', c', e⟩ := own_form h
  injection e with e1 e2 e3
  subst e1 e2 e3
  exact Sl.of_own h.out hu
theorem retSl_own {w w' : World} {t : TypeId} {v : Value} {zs : List Int} (h : Own t w.heap.size w' v zs) (hu : ∀ x ∈ zs, U x) (hb : Below w.heap.size w w') : RetSl zs w (.returned v) w' := by
  obtain ⟨A, c, rfl⟩ := own_form h
  exact ⟨A, _, c, rfl, h.sl hu, hb⟩
theorem take_snoc (xs : List Int) (k : Nat) (h : k < xs.length) : xs.take (k + 1) = xs.take k ++ [xs.getD k 0] := by
  rw [List.take_succ_eq_append_getElem h, List.getD_eq_getElem?_getD, List.getElem?_eq_getElem h]; rfl

/-- a call that returns a row of its own -/
def RetOwn (zs : List Int) (w : World) (e : Ending) (w' : World) : Prop := ∃ v, e = .returned v ∧ Own 22 w.heap.size w' v zs ∧ Below w.heap.size w w'
theorem Own.mono {t : TypeId} {b b' : Nat} {w : World} {v : Value} {zs : List Int} (h : Own t b w v zs) (hb : b' ≤ b) : Own t b' w v zs := by
  obtain ⟨h1, h2⟩ := h
  refine ⟨h1, ?_⟩
  rcases h2 with h2 | ⟨g, cap, cur, hv, hg, r⟩
  · exact .inl h2
  · exact .inr ⟨g, cap, cur, hv, Nat.le_trans hb hg, r⟩

set_option maxHeartbeats 400000 in
theorem ref_trim_own {w : World} {A : Option Addr} {n c : Nat} {xs : List Int} (h : Sl w A n c xs) (hn : n ≤ 100000000) :
    Calls Tryd.prog 77 #[.slice A n c] w (RetOwn (words (val xs)) w) := by
  have hs : sz xs ≤ n := by rw [h.len]; exact sz_le xs
  have S1 := ref_size h (by omega)
  have hlen := h.len
  have hw : words (val xs) = xs.take (sz xs) := words_val (Dg_U h.us)
  generalize hp : sz xs = p at S1 hs hw
  rw [hw]
  have T1 := Lib.hid S1
  have HL := Lib.hid hlen
  clear hp S1 hw hlen
  obtain ⟨i0, hi, hz0, hz1, hz2⟩ := info_parts infoW
  go_enter Tryd.func77, Tryd.ntmps77
  go_wp2_with fail
  refine T1.out.mono ?_
  rintro e w' ⟨rfl, rfl⟩
  go_wp2_with fail
  go_loopw [3, 7] (fun v i wr => ∃ (k : Nat) (zs : List Int), k ≤ p ∧ i = .int .i64 k ∧ Own 22 w.heap.size wr v zs ∧ Below w.heap.size w wr ∧ Hid (zs = xs.take k)) (fun _ i _ => p - mes i)
  case atStart => exact ⟨0, [], by omega, rfl, Own.nil _ _ _, Below.refl _ _, Lib.hid rfl⟩
  case round =>
    obtain ⟨k, zs, hk, rfl, hown, hb, HZ⟩ := hrel
    have hzl : zs.length ≤ k := by rw [HZ.out, List.length_take]; omega
    by_cases hk2 : k < p
    · obtain ⟨ba, off, rfl, hba, hca⟩ := h.at_ (k := k) (by omega)
      have hac := (hb.cell (p := ⟨ba, off + k, none⟩) hba).trans (hca k (by omega))
      have ht := take_snoc xs k (by have := HL.out; omega)
      obtain ⟨x, hx⟩ : ∃ x, xs.getD k 0 = x := ⟨_, rfl⟩
      rw [hx] at hac ht
      have HT := Lib.hid ht
      clear ht hx hca
      go_wp2_with (at_builtin; refine wpList_append_own _ rfl _ _ 49 rfl w.heap.size 22 i0 (.int .u64 0) 1 8 Tryd.underlying49 hi hz0 hz1 hz2 rfl (by decide) _ _ _ rfl (hown.out.alloc _) ⟨wr.heap.size, 0, none⟩ 1 1 [.int .u64 x] rfl rfl ?c1 ?c2 ?c3 ?c4 ?c5 ?_)
      case c1 => exact cell_one_new _ _ _
      case c2 => intro u hu; simp at hu; subst hu; rfl
      case c3 => unfold maxLen; omega
      case c4 => omega
      case c5 => have := hb.size; simp; omega
      intro v' w1 hown' hgrow _
      have hb1 := own_below hb hown hgrow
      have hown2 : Own 22 w.heap.size w1 v' (zs ++ [x]) := Own.snoc hown'
      have HO := Lib.hid hown2
      clear hown hown' hgrow hown2 hac
      go_wp2
      go_roundw
      case rel => exact ⟨k + 1, _, by omega, by go_num, HO.out, hb1, Lib.hid (by rw [HT.out, ← HZ.out])⟩
      case measure => simp [mes, intOf]; omega
    · obtain rfl : k = p := by omega
      go_wp2_with fail
      go_ret
      have hz := HZ.out
      subst hz
      exact ⟨_, rfl, hown, hb⟩
theorem ref_trim {w : World} {A : Option Addr} {n c : Nat} {xs : List Int} (h : Sl w A n c xs) (hn : n ≤ 100000000) :
    Calls Tryd.prog 77 #[.slice A n c] w (RetSl (words (val xs)) w) :=
  (ref_trim_own h hn).mono fun _ _ ⟨_, he, ho, hb⟩ => he ▸ retSl_own ho (words_U _) hb

set_option maxHeartbeats 400000 in
theorem ref_halves_own {w : World} {A : Option Addr} {n c : Nat} {xs : List Int} (h : Sl w A n c xs) (hn : n ≤ 10000000) :
    Calls Tryd.prog 83 #[.slice A n c] w (RetOwn (hwords (val xs)) w) := by
  have hlen := h.len
  have HL := Lib.hid hlen
  clear hlen
  obtain ⟨i0, hi, hz0, hz1, hz2⟩ := info_parts infoW
  go_enter Tryd.func83, Tryd.ntmps83
  go_wp2_with fail
  go_loopw [3, 7] (fun v i wr => ∃ (k : Nat) (zs : List Int), k ≤ n ∧ i = .int .i64 k ∧ Own 22 w.heap.size wr v zs ∧ Below w.heap.size w wr ∧ Hid (zs = hl (xs.take k))) (fun _ i _ => n - mes i)
  case atStart => exact ⟨0, [], by omega, rfl, Own.nil _ _ _, Below.refl _ _, Lib.hid rfl⟩
  case round =>
    obtain ⟨k, zs, hk, rfl, hown, hb, HZ⟩ := hrel
    have hzl : zs.length ≤ 2 * k := by rw [HZ.out, hl_length, List.length_take]; omega
    by_cases hk2 : k < n
    · obtain ⟨ba, off, rfl, hba, hca⟩ := h.at_ (k := k) (by omega)
      have hac := (hb.cell (p := ⟨ba, off + k, none⟩) hba).trans (hca k (by omega))
      have ht := take_snoc xs k (by have := HL.out; omega)
      have hu := h.u k
      obtain ⟨x, hx⟩ : ∃ x, xs.getD k 0 = x := ⟨_, rfl⟩
      rw [hx] at hac ht hu
      have ea := and32 hu
      have HT := Lib.hid ht
      have HC := Lib.hid (hca k (by omega))
      have HX := Lib.hid hx
      clear ht hx hca
      go_wp2_with (at_builtin; refine wpList_append_own _ rfl (.tmp 10) (.tmp 16) 49 rfl w.heap.size 22 i0 (.int .u64 0) 1 8 Tryd.underlying49 hi hz0 hz1 hz2 rfl (by decide) _ _ _ rfl (hown.out.alloc _) ⟨wr.heap.size, 0, none⟩ 1 1 [.int .u64 (x % 4294967296)] rfl rfl ?c1 ?c2 ?c3 ?c4 ?c5 ?_)
      case c1 => exact cell_one_new _ _ _
      case c2 => intro u hu; simp at hu; subst hu; rfl
      case c3 => unfold maxLen; omega
      case c4 => omega
      case c5 => have := hb.size; simp; omega
      intro v' w1 hown' hgrow _
      have hb1 := own_below hb hown hgrow
      have hown1 : Own 22 w.heap.size w1 v' (zs ++ [x % 4294967296]) := Own.snoc hown'
      have hac1 : w1.cell? ⟨ba, off + k, none⟩ = some (.int .u64 x) := (hb1.cell (p := ⟨ba, off + k, none⟩) hba).trans (by rw [HC.out, HX.out])
      generalize hzs1 : zs ++ [x % 4294967296] = zs1 at hown1
      have hzl1 : zs1.length ≤ 2 * k + 1 := by rw [← hzs1]; simp; omega
      have HZ1 := Lib.hid hzs1
      clear hown hown' hgrow hac hzs1 hb
      go_wp2_with (at_builtin; refine wpList_append_own _ rfl (.tmp 18) (.tmp 24) 49 rfl w.heap.size 22 i0 (.int .u64 0) 1 8 Tryd.underlying49 hi hz0 hz1 hz2 rfl (by decide) _ _ _ rfl (hown1.out.alloc _) ⟨w1.heap.size, 0, none⟩ 1 1 [.int .u64 (x / 4294967296)] rfl rfl ?d1 ?d2 ?d3 ?d4 ?d5 ?_)
      case d1 => exact cell_one_new _ _ _
      case d2 => intro u hu; simp at hu; subst hu; rfl
      case d3 => unfold maxLen; omega
      case d4 => omega
      case d5 => have := hb1.size; simp; omega
      intro v2 w2 hown2 hgrow2 _
      have hb2 := own_below hb1 hown1 hgrow2
      have hown3 : Own 22 w.heap.size w2 v2 (zs1 ++ [x / 4294967296]) := Own.snoc hown2
      have HO := Lib.hid hown3
      clear hown1 hown2 hgrow2 hown3 hac1
      go_wp2
      go_roundw
      case rel => exact ⟨k + 1, _, by omega, by go_num, HO.out, hb2, Lib.hid (by rw [HT.out, hl_append, ← HZ.out, ← HZ1.out]; simp [hl])⟩
      case measure => simp [mes, intOf]; omega
    · obtain rfl : k = n := by omega
      obtain ⟨A2, c2, rfl⟩ := own_form hown
      have hz : zs = hl xs := by rw [HZ.out, List.take_of_length_le (by have := HL.out; omega)]
      subst hz
      have hsl := hown.sl (U_Dg ((hl_Dg (Dg_U h.us)).mono H_le_W))
      have R := ref_trim_own hsl (by omega)
      rw [hl_trim (Dg_U h.us)] at R
      have HR := Lib.hid R
      clear R hsl hown
      go_wp2_with fail
      refine HR.out.mono ?_
      rintro e w' ⟨v3, rfl, s3, b3⟩
      go_wp2_with fail
      go_ret
      exact ⟨_, rfl, s3.mono hb.size, hb.trans (b3.mono hb.size)⟩
theorem ref_halves {w : World} {A : Option Addr} {n c : Nat} {xs : List Int} (h : Sl w A n c xs) (hn : n ≤ 10000000) :
    Calls Tryd.prog 83 #[.slice A n c] w (RetSl (hwords (val xs)) w) :=
  (ref_halves_own h hn).mono fun _ _ ⟨_, he, ho, hb⟩ => he ▸ retSl_own ho (hwords_U _) hb

set_option maxHeartbeats 1000000 in
theorem ref_whole {w : World} {A : Option Addr} {n c : Nat} {hs : List Int} (h : Sl w A n c hs) (hd : Dg H hs) (hn : n ≤ 20000000) :
    Calls Tryd.prog 85 #[.slice A n c] w (RetSl (words (valB H hs)) w) := by
  have hlen := h.len
  have HL := Lib.hid hlen
  clear hlen
  obtain ⟨i0, hi, hz0, hz1, hz2⟩ := info_parts infoW
  go_enter Tryd.func85, Tryd.ntmps85
  go_wp2_with fail
  go_loopw [3, 4] (fun v i wr => ∃ (k : Nat) (zs : List Int), k ≤ n ∧ 2 * k ≤ n + 1 ∧ i = .int .i64 (2 * (k : Int)) ∧ Own 22 w.heap.size wr v zs ∧ Below w.heap.size w wr ∧ WholeInv hs k zs) (fun _ i _ => n + 2 - mes i)
  case atStart => exact ⟨0, [], by omega, by omega, rfl, Own.nil _ _ _, Below.refl _ _, wholeInv_0 hs⟩
  case round =>
    obtain ⟨k, zs, hk, hk1, rfl, hown, hb, hz⟩ := hrel
    have hzl : zs.length ≤ k := Nat.le_of_eq hz.1
    by_cases hk2 : 2 * k < n
    · obtain ⟨ba, off, rfl, hba, hca⟩ := h.at_ (k := 2 * k) (by omega)
      have hac := (hb.cell (p := ⟨ba, off + 2 * k, none⟩) hba).trans (hca (2 * k) (by omega))
      have hst := wholeInv_step hd hz
      have d0 := hd.at_ H_pos (2 * k)
      have d1 := hd.at_ H_pos (2 * k + 1)
      have hor := whole_or d0 d1
      have hp : n ≤ 2 * k + 1 → hs.getD (2 * k + 1) 0 = 0 := fun h9 => by rw [List.getD_eq_getElem?_getD, List.getElem?_eq_none (by have := HL.out; omega)]; rfl
      have hcb : 2 * k + 1 < n → wr.cell? ⟨ba, off + (2 * k + 1), none⟩ = some (.int .u64 (hs.getD (2 * k + 1) 0)) := fun h9 => (hb.cell (p := ⟨ba, off + (2 * k + 1), none⟩) hba).trans (hca (2 * k + 1) h9)
      generalize hs.getD (2 * k) 0 = x at *
      generalize hs.getD (2 * k + 1) 0 = y at *
      have e2k : (2 * (k : Int)).toNat = 2 * k := by omega
      have hkn : 2 * (k : Int) < (n : Int) := by omega
      by_cases hk3 : 2 * k + 1 < n
      · have hbc := hcb hk3
        have hkn2 : 2 * (k : Int) + 1 < (n : Int) := by omega
        obtain ⟨z, ez⟩ : ∃ z, x + y * 4294967296 = z := ⟨_, rfl⟩
        rw [ez] at hst
        have d1' : y < 4294967296 := by have := d1.2; unfold H at this; omega
        have d1n := d1.1
        have hor2 : bits BinOp.or IntKind.u64 x (y * 4294967296) = z := by rw [← ez, ← hor, wrapU_lo, lo_U]; unfold U; omega
        have HS := Lib.hid hst
        clear hst d0 d1 hor hp hcb hca hz ez
        go_wp2_with (at_builtin; refine wpList_append_own _ rfl (.tmp 29) (.tmp 31) 49 rfl w.heap.size 22 i0 (.int .u64 0) 1 8 Tryd.underlying49 hi hz0 hz1 hz2 rfl (by decide) _ _ _ rfl (hown.out.alloc _) ⟨wr.heap.size, 0, none⟩ 1 1 [.int .u64 (z)] rfl rfl ?c1 ?c2 ?c3 ?c4 ?c5 ?_)
        case c1 => exact cell_one_new _ _ _
        case c2 => intro u hu; simp at hu; subst hu; rfl
        case c3 => unfold maxLen; omega
        case c4 => omega
        case c5 => have := hb.size; simp; omega
        intro v' w1 hown' hgrow _
        have hb1 := own_below hb hown hgrow
        have HO := Lib.hid (Own.snoc hown')
        clear hown hown' hgrow hac hbc
        go_wp2
        go_roundw
        case rel => exact ⟨k + 1, _, by omega, by omega, by go_num, HO.out, hb1, HS.out⟩
        case measure => simp [mes, intOf]; omega
      · have hy := hp (by omega)
        subst hy
        have hkn2 : (n : Int) ≤ 2 * (k : Int) + 1 := by omega
        rw [Int.zero_mul, Int.add_zero] at hst
        have HS := Lib.hid hst
        clear hst d0 d1 hor hp hcb hca hz
        go_wp2_with (at_builtin; refine wpList_append_own _ rfl (.tmp 29) (.tmp 31) 49 rfl w.heap.size 22 i0 (.int .u64 0) 1 8 Tryd.underlying49 hi hz0 hz1 hz2 rfl (by decide) _ _ _ rfl (hown.out.alloc _) ⟨wr.heap.size, 0, none⟩ 1 1 [.int .u64 (x)] rfl rfl ?d1 ?d2 ?d3 ?d4 ?d5 ?_)
        case d1 => exact cell_one_new _ _ _
        case d2 => intro u hu; simp at hu; subst hu; rfl
        case d3 => unfold maxLen; omega
        case d4 => omega
        case d5 => have := hb.size; simp; omega
        intro v' w1 hown' hgrow _
        have hb1 := own_below hb hown hgrow
        have HO := Lib.hid (Own.snoc hown')
        clear hown hown' hgrow hac
        go_wp2
        go_roundw
        case rel => exact ⟨k + 1, _, by omega, by omega, by go_num, HO.out, hb1, HS.out⟩
        case measure => simp [mes, intOf]; omega
    · obtain ⟨A2, c2, rfl⟩ := own_form hown
      have hdz : Dg W zs := hz.2.1
      have hv := wholeInv_end hz (by have := HL.out; omega)
      have hsl := hown.sl (U_Dg hdz)
      have R := ref_trim hsl (by omega)
      rw [hv] at R
      have HR := Lib.hid R
      have hkn : (n : Int) ≤ 2 * (k : Int) := by omega
      clear R hsl hown hz hv
      go_wp2_with fail
      refine HR.out.mono ?_
      rintro e w' ⟨A3, n3, c3, rfl, s3, b3⟩
      go_wp2_with fail
      go_ret
      exact ⟨_, _, _, rfl, s3, hb.trans (b3.mono hb.size)⟩

end Go.Proofs.YtmoahgiklgicgaaDoor

namespace Go.Proofs.YtmoahgiklgicgaaDoor
set_option maxRecDepth 100000
open Go.RowKit
set_option linter.unusedVariables false
set_option linter.unusedSimpArgs false

theorem shl_digit2 {x y : Int} {s : Nat} (hs : s < 64) (hx : U x) (hy : U y) :
    ∃ v : Nat, bits BinOp.or IntKind.u64 (IntKind.u64.wrap (x * 2 ^ s)) (y / 2 ^ (64 - s)) = (v : Int) ∧ v < W ∧ v = x.toNat * 2 ^ s % W + y.toNat / 2 ^ (64 - s) ∧ x.toNat * 2 ^ s = x.toNat * 2 ^ s % W + W * (x.toNat / 2 ^ (64 - s)) := by
  obtain ⟨n, rfl⟩ := Int.eq_ofNat_of_zero_le hx.1
  obtain ⟨e, rfl⟩ := Int.eq_ofNat_of_zero_le hy.1
  have hW := W_split (s := s) (by omega)
  have p0 : 0 < 2 ^ s := Nat.two_pow_pos s
  have hm : n * 2 ^ s % W < W := Nat.mod_lt _ W_pos
  have hm0 : n * 2 ^ s % W % 2 ^ s = 0 := by
    rw [hW, Nat.mod_mul_right_mod, Nat.mul_mod_left]
  have heW : e < W := by have := hy.2; unfold W; omega
  obtain ⟨hb, hb'⟩ := shl_high hs heW
  have hlt : n * 2 ^ s % W + 2 ^ s ≤ W := by
    have e1 : n * 2 ^ s % W = 2 ^ s * (n * 2 ^ s % W / 2 ^ s) := by
      have := Nat.div_add_mod (n * 2 ^ s % W) (2 ^ s); omega
    have e2 : n * 2 ^ s % W / 2 ^ s < 2 ^ (64 - s) := by
      rw [Nat.div_lt_iff_lt_mul p0, Nat.mul_comm (2 ^ (64 - s)), ← hW]; exact hm
    have e3 : 2 ^ s * (n * 2 ^ s % W / 2 ^ s + 1) ≤ 2 ^ s * 2 ^ (64 - s) := Nat.mul_le_mul_left _ e2
    rw [← hW, Nat.mul_add] at e3
    omega
  refine ⟨n * 2 ^ s % W + e / 2 ^ (64 - s), ?_, by omega, by simp, ?_⟩
  · rw [cast_shl, cast_shr, wrapU]
    have ew : ((n * 2 ^ s : Nat) : Int) % 18446744073709551616 = ((n * 2 ^ s % W : Nat) : Int) := by rw [Int.natCast_emod]; rfl
    rw [ew]
    generalize n * 2 ^ s % W = a at *
    generalize e / 2 ^ (64 - s) = b at *
    have := shl_or a b s (by unfold W at hm; omega) hm0 hb (by unfold W at hb'; omega)
    rw [wrapU_lo, lo_U (by unfold U; unfold W at hm; omega)] at this
    exact this
  · simp only [Int.toNat_natCast]
    have e5 : n * 2 ^ s / W = n / 2 ^ (64 - s) := by rw [hW, Nat.mul_comm (2 ^ s), Nat.mul_div_mul_right _ _ p0]
    have := Nat.div_add_mod (n * 2 ^ s) W
    rw [e5] at this
    omega

/-- places above i hold shifted words, those up to i hold what they held -/
def ShlDown (L : List Int) (s i : Nat) (zs : List Int) : Prop :=
  zs.length = L.length ∧ Dg W zs ∧ (∀ j, j ≤ i → zs.getD j 0 = L.getD j 0) ∧ valB W (zs.drop (i + 1)) = valB W (L.drop (i + 1)) * 2 ^ s + (L.getD i 0).toNat / 2 ^ (64 - s)
theorem shlDown_0 {L : List Int} {s N : Nat} (hd : Dg W L) (hN : L.length = N + 1) (h0 : L.getD N 0 = 0) : ShlDown L s N L := by
  refine ⟨rfl, hd, fun j _ => rfl, ?_⟩
  rw [List.drop_eq_nil_of_le (by omega), h0]
  simp [valB]
theorem shlDown_alg (b T X Lx Hx V2 Y v R : Nat) (hv : v = Lx + Y) (hx : X * T = Lx + b * Hx) (hR : R = V2 * T + Hx) : v + b * R = (X + b * V2) * T + Y := by
  subst hv hR
  rw [Nat.add_mul, hx, Nat.mul_add, Nat.mul_assoc]
  omega
theorem shlDown_step {L zs : List Int} {s k v : Nat} (h : ShlDown L s (k + 1) zs) (hk : k + 1 < L.length) (hv1 : v < W) (hv : v = (L.getD (k + 1) 0).toNat * 2 ^ s % W + (L.getD k 0).toNat / 2 ^ (64 - s))
    (hx : (L.getD (k + 1) 0).toNat * 2 ^ s = (L.getD (k + 1) 0).toNat * 2 ^ s % W + W * ((L.getD (k + 1) 0).toNat / 2 ^ (64 - s))) : ShlDown L s k (zs.set (k + 1) (v : Int)) := by
  obtain ⟨h1, h2, h3, h4⟩ := h
  refine ⟨by simpa using h1, h2.set _ (Int.natCast_nonneg _) (Int.ofNat_lt.2 hv1), fun j hj => ?_, ?_⟩
  · rw [getD_set_ne _ (by omega)]; exact h3 j (by omega)
  · rw [valB_drop W _ (k + 1), getD_set_self _ (by omega), Int.toNat_natCast, List.drop_set_of_lt (by omega), valB_drop W L (k + 1)]
    exact shlDown_alg W _ _ _ _ _ _ _ _ hv hx h4
theorem shlDown_end {L zs : List Int} {s v : Nat} (h : ShlDown L s 0 zs) (hk : 0 < L.length) (hv1 : v < W) (hv : v = (L.getD 0 0).toNat * 2 ^ s % W)
    (hx : (L.getD 0 0).toNat * 2 ^ s = (L.getD 0 0).toNat * 2 ^ s % W + W * ((L.getD 0 0).toNat / 2 ^ (64 - s))) : val (zs.set 0 (v : Int)) = val L * 2 ^ s ∧ Dg W (zs.set 0 (v : Int)) ∧ (zs.set 0 (v : Int)).length = L.length := by
  obtain ⟨h1, h2, h3, h4⟩ := h
  refine ⟨?_, h2.set _ (Int.natCast_nonneg _) (Int.ofNat_lt.2 hv1), by simpa using h1⟩
  unfold val
  have e1 := valB_drop W (zs.set 0 (v : Int)) 0
  have e2 := valB_drop W L 0
  rw [List.drop_zero] at e1 e2
  rw [e1, getD_set_self _ (by omega), Int.toNat_natCast, List.drop_set_of_lt (by omega), e2]
  have := shlDown_alg W (2 ^ s) (L.getD 0 0).toNat _ _ _ 0 v _ (by rw [Nat.add_zero]; exact hv) hx h4
  rw [Nat.add_zero] at this
  exact this
theorem val_zeros_append (k : Nat) (xs : List Int) : val (List.replicate k 0 ++ xs) = W ^ k * val xs := by
  unfold val
  rw [valB_append, valB_zeros, List.length_replicate, Nat.zero_add]
theorem val_snoc_zero (xs : List Int) : val (xs ++ [0]) = val xs := by
  unfold val
  rw [valB_snoc]
  simp

/-- places below k hold shifted words, those from k on hold what they held -/
def ShrUp (L : List Int) (s k : Nat) (zs : List Int) : Prop :=
  zs.length = L.length ∧ Dg W zs ∧ (∀ j, k ≤ j → zs.getD j 0 = L.getD j 0) ∧ valB W (zs.take k) + W ^ k * (valB W (L.drop k) / 2 ^ s) = valB W L / 2 ^ s
theorem shrUp_0 {L : List Int} (s : Nat) (hd : Dg W L) : ShrUp L s 0 L := by
  refine ⟨rfl, hd, fun j _ => rfl, ?_⟩
  simp [valB]
theorem shrUp_step {L zs : List Int} {s k v : Nat} (hs : s < 64) (hd : Dg W L) (h : ShrUp L s k zs) (hk : k < L.length) (hv1 : v < W) (hv : v = (L.getD k 0).toNat / 2 ^ s + 2 ^ (64 - s) * ((L.getD (k + 1) 0).toNat % 2 ^ s)) :
    ShrUp L s (k + 1) (zs.set k (v : Int)) := by
  obtain ⟨h1, h2, h3, h4⟩ := h
  have hR := shr_half W (2 ^ s) (2 ^ (64 - s)) (L.getD k 0).toNat (L.getD (k + 1) 0).toNat _ _ (W_split (by omega)) (Nat.two_pow_pos s) (valB_drop W L (k + 1))
  rw [← valB_drop, ← hv] at hR
  refine ⟨by simpa using h1, h2.set _ (Int.natCast_nonneg _) (Int.ofNat_lt.2 hv1), fun j hj => ?_, ?_⟩
  · rw [getD_set_ne _ (by omega)]; exact h3 j (by omega)
  · rw [valB_take_succ, getD_set_self _ (by omega), Int.toNat_natCast, List.take_set_of_le (by omega), Nat.pow_succ]
    exact shr_algebra W _ _ _ _ _ _ _ rfl h4 hR
theorem shrUp_end {L zs : List Int} {s : Nat} (h : ShrUp L s L.length zs) : val zs = val L / 2 ^ s := by
  obtain ⟨h1, h2, h3, h4⟩ := h
  rw [List.drop_length, List.take_of_length_le (by omega)] at h4
  unfold val
  have e : valB W [] / 2 ^ s = 0 := by simp [valB]
  rw [e, Nat.mul_zero, Nat.add_zero] at h4
  exact h4
theorem val_drop_div {xs : List Int} (h : Dg W xs) (m : Nat) : val (xs.drop (m / 64)) / 2 ^ (m % 64) = val xs / 2 ^ m := by
  unfold val
  rw [← valB_div W_pos h, Nat.div_div_eq_div_mul, pow_shift]

end Go.Proofs.YtmoahgiklgicgaaDoor
