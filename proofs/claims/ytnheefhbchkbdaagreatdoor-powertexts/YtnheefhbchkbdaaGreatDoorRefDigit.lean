/-
  What the document's own ten and Show (package gradineref06) do. Conditions: the slice reads as a list of words, of at most 1000 words.
-/
import Derived.Test.YtnheefhbchkbdaaGreatDoorDigitRead2
namespace Go.Proofs.YtnheefhbchkbdaaGreatDoor
set_option maxRecDepth 100000
open Go.RowKit
set_option linter.unusedVariables false
set_option linter.unusedSimpArgs false

theorem Cl.sl {w : World} {g c : Nat} {zs : List Int} (h : Cl .u64 w g zs) (hg : g < w.heap.size) (hu : ∀ x ∈ zs, U x) (hc : zs.length ≤ c) : Sl w (some ⟨g, 0, none⟩) zs.length c zs :=
  ⟨⟨rfl, hc, hu⟩, fun _ => ⟨g, 0, rfl, hg, fun j hj => by rw [Nat.zero_add]; exact (h j hj).1⟩⟩

/-- a call that returns a number by ten, and what is left -/
def RetTen (v : Nat) (w : World) (e : Ending) (w' : World) : Prop := ∃ A n c, e = .returned (.tuple #[.slice A n c, .int .i64 ((v % 10 : Nat) : Int)]) ∧ Sl w' A n c (words (v / 10)) ∧ Below w.heap.size w w'
theorem RetTen.of {v n c q : Nat} {A : Option Addr} {r : Int} {w w' : World} (hr : r = ((v % 10 : Nat) : Int)) (hq : q = v / 10) (hs : Sl w' A n c (words q)) (hb : Below w.heap.size w w') : RetTen v w (.returned (.tuple #[.slice A n c, .int .i64 r])) w' := by
  subst hr hq; exact ⟨A, n, c, rfl, hs, hb⟩
theorem Own.cap {t : TypeId} {base : Nat} {w : World} {A : Option Addr} {n c : Nat} {zs : List Int} (h : Own t base w (.slice A n c) zs) : n ≤ c := by
  obtain ⟨h1, h2⟩ := h
  rcases h2 with ⟨e, h0⟩ | ⟨g, cap, cur, e, hg, hh, hnc, r⟩
  · injection e with _ e2 e3; omega
  · injection e with _ e2 e3; omega

set_option maxHeartbeats 1000000 in
theorem ref_ten {w : World} {A : Option Addr} {n c : Nat} {xs : List Int} (h : Sl w A n c xs) (hn : n ≤ 10000) (h0 : 0 < val xs) :
    Calls Tryz.prog 81 #[.slice A n c] w (RetTen (val xs) w) := by
  have hll := hwords_len (Dg_U h.us) rfl
  have hlen := h.len
  have HH := Lib.hid (ref_halves_own h (by omega))
  have hvh := valH_hwords (val xs)
  have hdh := hwords_Dg (val xs)
  have hne : 0 < (hwords (val xs)).length := by
    rcases Nat.eq_zero_or_pos (hwords (val xs)).length with e | e
    · rw [List.eq_nil_of_length_eq_zero e] at hvh
      have : valB H [] = 0 := rfl
      omega
    · exact e
  obtain ⟨v, ev⟩ : ∃ v, val xs = v := ⟨_, rfl⟩
  rw [ev] at HH hvh hdh hne hll
  rw [ev]
  generalize hwords v = hs at *
  obtain ⟨m, em⟩ : ∃ m, hs.length = m := ⟨_, rfl⟩
  have hm : m ≤ 20000 := by omega
  have hm0 : 0 < m := by omega
  have HVH := Lib.hid hvh
  have HDH := Lib.hid hdh
  have HEM := Lib.hid em
  clear h hvh hdh em hne hll hlen h0 ev
  go_enter Tryz.func81, Tryz.ntmps81
  go_wp2_with fail
  refine HH.out.mono ?_
  rintro e w1 ⟨x, rfl, ho, b1⟩
  obtain ⟨g, cap, rfl, hg, hg', hcl⟩ := ho.cl (by rw [HEM.out]; exact hm0)
  have hcap := ho.cap
  rw [HEM.out] at hcap ⊢
  have HCL := Lib.hid hcl
  clear ho hcl HH
  go_wp2_with fail
  go_loopw [5, 6] (fun rv iv wr => ∃ (k : Nat) (j r : Int) (qs : List Int), k ≤ m ∧ j + 1 ≤ k ∧ (k : Int) ≤ j + 1 ∧ iv = .int .i64 j ∧ rv = .int .u64 r ∧ Hid (TenInv hs k r qs) ∧ Hid (Cl .u64 wr g qs) ∧ Below w.heap.size w wr ∧ g < wr.heap.size) (fun _ iv _ => (intOf iv + 1).toNat)
  case atStart => exact ⟨m, _, 0, hs, by omega, by omega, by omega, rfl, rfl, Lib.hid (by have := tenInv_0 HDH.out; rw [HEM.out] at this; exact this), HCL, b1, hg'⟩
  case round =>
    clear HCL hg' b1
    obtain ⟨k, j, r, qs, hk, hj1, hj2, rfl, rfl, HT, HC, hb, hgw⟩ := hrel
    have hlq : qs.length = m := by rw [HT.out.1]; exact HEM.out
    by_cases hk0 : k = 0
    · subst hk0
      obtain rfl : j = -1 := by omega
      obtain ⟨e1, e2⟩ := tenInv_end HT.out
      have hdq := HT.out.2.1
      have hr0 := HT.out.2.2.1
      have hr9 := HT.out.2.2.2.1
      have hsl := HC.out.sl (c := cap) hgw (U_Dg (hdq.mono H_le_W)) (by omega)
      rw [hlq] at hsl
      have WH := ref_whole hsl hdq (by omega)
      rw [HVH.out] at e1 e2
      generalize valB H qs = q at *
      have HWH := Lib.hid WH
      have HE1 := Lib.hid e1
      have HE2 := Lib.hid e2
      clear WH e1 e2 hsl hdq hlq HT HC
      go_wp2_with fail
      refine HWH.out.mono ?_
      rintro e w2 ⟨A2, n2, c2, rfl, s2, b2⟩
      go_wp2_with fail
      go_ret2
      exact RetTen.of HE2.out HE1.out s2 (hb.trans (b2.mono hb.size))
    · obtain ⟨i, rfl⟩ : ∃ i, k = i + 1 := ⟨k - 1, by omega⟩
      obtain rfl : j = (i : Int) := by omega
      have hin : i < m := by omega
      have hcell := (HC.out i (by omega)).1
      have hfree := (HC.out i (by omega)).2
      have hr0 := HT.out.2.2.1
      have hr9 := HT.out.2.2.2.1
      have hxb := HT.out.2.1.at_ H_pos i
      obtain ⟨y, ey⟩ : ∃ y, qs.getD i 0 = y := ⟨_, rfl⟩
      obtain ⟨cc, ec⟩ : ∃ cc : Int, r * 4294967296 + y = cc := ⟨_, rfl⟩
      have hst := tenInv_step (c := cc) HDH.out HT.out (by rw [HEM.out]; exact hin) (by rw [ey]; exact ec.symm)
      rw [ey] at hcell hxb
      have hy : 0 ≤ y ∧ y < 4294967296 := hxb
      obtain ⟨hst1, hc0, hc1⟩ := hst
      have hor : bits BinOp.or IntKind.u64 (r * 4294967296) y = cc := by rw [← ec]; exact or32 (by unfold U; omega) (by omega) hy.1 hy.2
      rw [Int.tmod_eq_emod_of_nonneg hc0, Int.tdiv_eq_ediv_of_nonneg hc0] at hst1
      have hcs := HC.out.set i (by omega) (cc / 10)
      have HS := Lib.hid hst1
      have HCS := Lib.hid hcs
      clear hst1 hcs ey ec hxb HT HC hlq hj1 hj2
      go_wp2_with fail
      go_roundw
      case rel => exact ⟨i, _, _, _, by omega, by omega, by omega, rfl, rfl, HS, HCS, hb.setCell hg _, by simpa using hgw⟩
      case measure => simp [intOf]

end Go.Proofs.YtnheefhbchkbdaaGreatDoor
