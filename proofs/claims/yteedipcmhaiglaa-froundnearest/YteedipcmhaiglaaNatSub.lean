/-
  What nat.Sub returns: the difference, normalized, and true; nothing and false if the first number is less. Conditions: the slices read as lists of words, of at most 10^8 words.
-/
import Derived.Test.YteedipcmhaiglaaNatMake
import Derived.Deep.RegionWith
namespace Go.Proofs.Yteedipcmhaiglaa
set_option maxRecDepth 100000
open Go.RowKit
set_option linter.unusedVariables false
set_option linter.unusedSimpArgs false

/-- a call that returns a slice that reads as xs, and a bool, and turns nothing that was there -/
def RetSlB (xs : List Int) (b : Bool) (w : World) (e : Ending) (w' : World) : Prop := ∃ A n c, e = .returned (.tuple #[.slice A n c, .bool b]) ∧ Sl w' A n c xs ∧ Below w.heap.size w w'

/-- .. in new memory -/
def RetSlBN (xs : List Int) (b : Bool) (w : World) (e : Ending) (w' : World) : Prop := ∃ A n c, e = .returned (.tuple #[.slice A n c, .bool b]) ∧ Sl w' A n c xs ∧ Below w.heap.size w w' ∧ New w A

set_option maxHeartbeats 400000 in
theorem nat_sub_no {w : World} {A A' : Option Addr} {n n' c c' : Nat} {xs ys : List Int} (h : Sl w A n c xs) (h' : Sl w A' n' c' ys) (hn : n ≤ 100000000) (hn' : n' ≤ 100000000) (hlt : val xs < val ys) :
    Calls Try.prog 108 #[.slice A n c, .slice A' n' c'] w (RetSlB [] false w) := by
  have C := nat_cmp h h' (by omega) (by omega)
  rw [cmpN_lt hlt] at C
  have HC := Lib.hid C
  clear C
  go_enter Try.func108, Try.ntmps108
  go_wp2_with fail
  refine HC.out.mono ?_
  rintro e w' ⟨rfl, rfl⟩
  go_wp2_with fail
  go_ret2
  exact ⟨_, _, _, rfl, Sl.nil _ _ _, Below.refl _ _⟩

set_option maxHeartbeats 1000000 in
theorem nat_sub_new {w : World} {A A' : Option Addr} {n n' c c' : Nat} {xs ys : List Int} (h : Sl w A n c xs) (h' : Sl w A' n' c' ys) (hn : n ≤ 100000000) (hn' : n' ≤ 100000000) (hle : val ys ≤ val xs) :
    Calls Try.prog 108 #[.slice A n c, .slice A' n' c'] w (RetSlBN (words (val xs - val ys)) true w) := by
  have C := nat_cmp h h' (by omega) (by omega)
  have hcm : 0 ≤ cmpN (val xs) (val ys) := by have := cmpN_neg (val xs) (val ys); omega
  generalize cmpN (val xs) (val ys) = cm at C hcm
  have hs : sz xs ≤ n := by rw [h.len]; exact sz_le xs
  have S1 := nat_size h (by omega)
  generalize hp : sz xs = p at S1 hs
  have HP := Lib.hid hp
  have T1 := Lib.hid S1
  have HC := Lib.hid C
  have HLE := Lib.hid hle
  clear hp S1 C hle
  have hmk := run_make_row' (P := Try.prog) 37 22 (.int .u64 0) 8 Try.underlying37 infoW rfl .i64 .i64 p (by omega) (by omega)
  go_enter Try.func108, Try.ntmps108
  go_wp2_with fail
  refine HC.out.mono ?_
  rintro e w' ⟨rfl, rfl⟩
  go_wp2_with fail
  refine T1.out.mono ?_
  rintro e w' ⟨rfl, rfl⟩
  go_wp2_with fail
  go_loopw [7, 18] (fun cy i wr => ∃ (k : Nat) (c0 : Int) (zs : List Int), k ≤ p ∧ i = .int .i64 k ∧ cy = .int .u64 c0 ∧ SubInv xs ys p k c0 zs ∧ Row 22 wr w.heap.size zs ∧ Below w.heap.size w wr) (fun _ i _ => p - mes i)
  case atStart => exact ⟨0, 0, _, by omega, rfl, rfl, subInv_0 xs ys p, Row.new w 22 p, (Below.refl _ _).alloc (Nat.le_refl _) _⟩
  case round =>
    obtain ⟨k, c0, zs, hk, rfl, rfl, hz, hr, hb⟩ := hrel
    by_cases hk2 : k < p
    · obtain ⟨ba, off, rfl, hba, hca⟩ := (h.below hb).at_ (k := k) (by omega)
      have hac := hca k (by omega)
      rw [← wd_nat] at hac
      have g2 := fun W (hW : Sl W A' n' c' ys) => nat_wordAt hW (by omega) (k : Int) (by omega)
      have hsl' := h'.below hb
      have hux := wd_U h.us (k : Int)
      have huy := wd_U h'.us (k : Int)
      have hst := subInv_step (Dg_U h.us) (Dg_U h'.us) hz hk2
      rw [← wd_nat, ← wd_nat] at hst
      have hl : zs.length = p := hz.1
      have huc : U c0 := by have := hz.2.2.1; unfold U; omega
      have hcell := hr.cell (i := k) (by omega)
      have hfree := hr.free k
      generalize zs.getD k 0 = z0 at hcell
      generalize wd xs k = x at *
      generalize wd ys k = y at *
      have G2 := Lib.hid g2
      have HS := Lib.hid hst
      have HR := Lib.hid hr
      have HSL := Lib.hid hsl'
      have hkn : (k : Int) < (n : Int) := by omega
      clear g2 hst hl hz hr hca hsl'
      go_wp2_with fail
      go_region_with (first | (go_at_call 86; refine (G2.out _ (by exact HSL.out)).mono ?_; rintro e w' ⟨rfl, rfl⟩) | (go_at_call 113; refine (limb_sub x y c0 hux huy huc _).mono ?_; rintro e w' ⟨rfl, rfl⟩))
      all_goals
        go_wp2
        go_roundw
        case rel => exact ⟨k + 1, _, _, by omega, by go_num, rfl, HS.out, HR.out.set k _, (hb.setCell (Nat.le_refl _) _).drew⟩
        case measure => simp [mes, intOf]; omega
    · obtain rfl : k = p := by omega
      have e1 := subInv_end (Dg_U h.us) (Dg_U h'.us) hz (by rw [HP.out]; omega) HLE.out
      have hl : zs.length = k := hz.1
      have hd : Dg W zs := hz.2.1
      have hsl := hr.sl (c := k) (U_Dg hd) (by omega)
      rw [hl] at hsl
      have HC2 := Lib.hid (nat_cut hsl (by omega))
      have HR := Lib.hid hr
      have E1 := Lib.hid e1
      have HL := Lib.hid hl
      clear hsl e1 hl hz hr
      go_wp2_with fail
      refine HC2.out.mono ?_
      rintro e w' ⟨rfl, rfl⟩
      go_wp2_with fail
      go_ret2
      obtain ⟨A2, n2, c2, e2, s2, b2⟩ := retSl_cut (c := k) HR.out hd (by rw [HL.out]; omega) E1.out hb
      injection e2 with e2
      exact ⟨_, _, _, rfl, by injection e2 with a1 a2 a3; subst a1 a2 a3; exact s2, b2, New.some_ (Nat.le_refl _)⟩

theorem nat_sub_yes {w : World} {A A' : Option Addr} {n n' c c' : Nat} {xs ys : List Int} (h : Sl w A n c xs) (h' : Sl w A' n' c' ys) (hn : n ≤ 100000000) (hn' : n' ≤ 100000000) (hle : val ys ≤ val xs) :
    Calls Try.prog 108 #[.slice A n c, .slice A' n' c'] w (RetSlB (words (val xs - val ys)) true w) :=
  (nat_sub_new h h' hn hn' hle).mono fun _ _ ⟨A, n, c, he, hs, hb, _⟩ => ⟨A, n, c, he, hs, hb⟩

end Go.Proofs.Yteedipcmhaiglaa
