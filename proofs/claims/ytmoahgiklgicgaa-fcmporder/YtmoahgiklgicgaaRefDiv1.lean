/-
  What the document's own quotients (package gradineref04) return, of single words and of any numbers. Conditions: the slices read as lists of words, of at most 1000 words; the divisor is not 0.
-/
import Derived.Test.YtmoahgiklgicgaaRefDiv
namespace Go.Proofs.Ytmoahgiklgicgaa
set_option maxRecDepth 100000
open Go.RowKit
set_option linter.unusedVariables false
set_option linter.unusedSimpArgs false

set_option maxRecDepth 100000 in
set_option maxHeartbeats 4000000 in
theorem ref_div_short {w : World} {A A' : Option Addr} {n n' c c' : Nat} {xs ys : List Int} (h : Sl w A n c xs) (h' : Sl w A' n' c' ys) (hn : n ≤ 1000) (hn' : n' ≤ 1000) (h1 : sz xs = 1) (h2 : sz ys = 1) :
    Calls Try.prog 66 #[.slice A n c, .slice A' n' c'] w (RetQR (val xs / val ys) (val xs % val ys) w) := by
  have Z1 := ref_size h (by omega)
  have Z2 := ref_size h' (by omega)
  rw [h1] at Z1
  rw [h2] at Z2
  have hsz : sz xs ≤ n := by rw [h.len]; exact sz_le xs
  have hsz' : sz ys ≤ n' := by rw [h'.len]; exact sz_le ys
  have hv1 := val_short (Dg_U h.us) (by omega)
  have hv2 := val_short (Dg_U h'.us) (by omega)
  have ux := h.u 0
  have uy := h'.u 0
  have hy0 : ys.getD 0 0 ≠ 0 := by have := sz_last ys (by omega); rw [h2] at this; exact this
  obtain ⟨b, off, rfl, hlt, hc⟩ := h.at_ (k := 0) (by omega)
  obtain ⟨b', off', rfl, hlt', hc'⟩ := h'.at_ (k := 0) (by omega)
  have g1 : w.cell? ⟨b, off, none⟩ = some (.int .u64 (xs.getD 0 0)) := hc 0 (by omega)
  have g2 : w.cell? ⟨b', off', none⟩ = some (.int .u64 (ys.getD 0 0)) := hc' 0 (by omega)
  have hn1 : 0 < n := by omega
  have hn2 : 0 < n' := by omega
  rw [hv1, hv2]
  generalize xs.getD 0 0 = x at *
  generalize ys.getD 0 0 = y at *
  have hx0 : 0 ≤ x := ux.1
  have hyp : 0 < y := by have := uy.1; omega
  have hyf : (y == 0) = false := by simpa using hy0
  have uq : U (x / y) := by
    obtain ⟨X, rfl⟩ := Int.eq_ofNat_of_zero_le hx0
    obtain ⟨Y, rfl⟩ := Int.eq_ofNat_of_zero_le uy.1
    have := Nat.div_le_self X Y
    have hX : X < 18446744073709551616 := by have := ux.2; omega
    rw [← Int.natCast_ediv]
    generalize X / Y = Q at *
    exact U_nat (by omega)
  have ur : U (x % y) := by
    have h1 := Int.emod_nonneg x (show y ≠ 0 by omega)
    have h2 := Int.emod_lt_of_pos x hyp
    unfold U at *
    omega
  have eq : (x / y).toNat = x.toNat / y.toNat := by
    obtain ⟨X, rfl⟩ := Int.eq_ofNat_of_zero_le hx0
    obtain ⟨Y, rfl⟩ := Int.eq_ofNat_of_zero_le uy.1
    rw [← Int.natCast_ediv]; rfl
  have er : (x % y).toNat = x.toNat % y.toNat := by
    obtain ⟨X, rfl⟩ := Int.eq_ofNat_of_zero_le hx0
    obtain ⟨Y, rfl⟩ := Int.eq_ofNat_of_zero_le uy.1
    rw [← Int.natCast_emod]; rfl
  rw [← eq, ← er]
  have T : ∀ (z : Int) (_ : U z) (W1 : World) (A1 : Option Addr) (_ : Sl W1 A1 1 1 [z]), Calls Try.prog 46 #[.slice A1 1 1] W1 (RetSl (words z.toNat) W1) := fun z hz W1 A1 hs => by
    have := ref_trim hs (by omega)
    rw [val_one] at this
    exact this
  have HZ1 := Lib.hid Z1
  have HZ2 := Lib.hid Z2
  have HT := Lib.hid T
  have hwq : IntKind.u64.wrap (x / y) = x / y := by rw [wrapU_lo, lo_U uq]
  have hwm : IntKind.u64.wrap (x % y) = x % y := by rw [wrapU_lo, lo_U ur]
  have hdx : x.tdiv y = x / y := Int.tdiv_eq_ediv_of_nonneg hx0
  have hmx : x.tmod y = x % y := Int.tmod_eq_emod_of_nonneg hx0
  clear Z1 Z2 T hc hc' hv1 hv2 h1 h2 hsz hsz' h h' eq er
  go_enter Try.func66, Try.ntmps66
  go_wp2_with fail
  refine HZ1.out.mono ?_
  rintro e w' ⟨rfl, rfl⟩
  go_wp2_with fail
  refine HZ2.out.mono ?_
  rintro e w' ⟨rfl, rfl⟩
  go_wp2_with fail
  have HS : Hid (∀ w', Below w.heap.size w w' → w'.cell? ⟨b, off, none⟩ = some (.int .u64 x) ∧ w'.cell? ⟨b', off', none⟩ = some (.int .u64 y)) := fun w' hb => ⟨(hb.cell (p := ⟨b, off, none⟩) hlt).trans g1, (hb.cell (p := ⟨b', off', none⟩) hlt').trans g2⟩
  clear HZ1 HZ2 g1 g2
  have hq1 : (w.alloc (.cells #[.int .u64 (x / y)] 22)).heap.size = w.heap.size + 1 := by simp
  have hr1 : (w.alloc (.cells #[.int .u64 (x % y)] 22)).heap.size = w.heap.size + 1 := by simp
  have sB2 := sl_lit (w.alloc (.cells #[.int .u64 (x / y)] 22)) (x % y) ur
  rw [hq1] at sB2
  have sC1 := sl_lit (w.alloc (.cells #[.int .u64 (x % y)] 22)) (x / y) uq
  rw [hr1] at sC1
  have SA := Lib.hid (sl_lit w (x / y) uq)
  have SB1 := Lib.hid ((sl_lit w (x / y) uq).below (below_alloc (w.alloc (.cells #[.int .u64 (x / y)] 22)) (.cells #[.int .u64 (x % y)] 22)))
  have SB2 := Lib.hid sB2
  have SC1 := Lib.hid sC1
  have SC2 := Lib.hid ((sl_lit w (x % y) ur).below (below_alloc (w.alloc (.cells #[.int .u64 (x % y)] 22)) (.cells #[.int .u64 (x / y)] 22)))
  have YA := Lib.hid (below_alloc w (.cells #[.int .u64 (x / y)] 22))
  have YC := Lib.hid (below_alloc w (.cells #[.int .u64 (x % y)] 22))
  have YB := Lib.hid ((below_alloc w (.cells #[.int .u64 (x / y)] 22)).alloc (by simp) (.cells #[.int .u64 (x % y)] 22))
  have YD := Lib.hid ((below_alloc w (.cells #[.int .u64 (x % y)] 22)).alloc (by simp) (.cells #[.int .u64 (x / y)] 22))
  clear hq1 hr1 sB2 sC1
  go_region_held3 (fun w' => w'.cell? ⟨b, off, none⟩ = some (.int .u64 x) ∧ w'.cell? ⟨b', off', none⟩ = some (.int .u64 y)) (first | exact HS.out _ (Below.refl w.heap.size w).drew | exact HS.out _ YA.out.drew | exact HS.out _ YB.out.drew | exact HS.out _ YC.out.drew | exact HS.out _ YD.out.drew | exact HS.out _ x2 | exact HS.out _ x1 | exact HS.out _ (x1.alloc x1.size _) | fail)
    (first
      | (go_at_call 46; (with_reducible refine (HT.out (x / y) uq _ _ ?hs1).mono ?_); (case hs1 => first | exact SA.out | exact SB1.out | exact SC1.out); rintro e w1 ⟨A1, n1, c1, rfl, t1, b1⟩; have x1 : Below w.heap.size w w1 := (by first | exact YA.out.trans ((Below.undrew b1).mono YA.out.size) | exact YB.out.trans ((Below.undrew b1).mono YB.out.size) | exact YD.out.trans ((Below.undrew b1).mono YD.out.size)))
      | (go_at_call 46; (with_reducible refine (HT.out (x % y) ur _ _ ?hs2).mono ?_); (case hs2 => first | exact sl_lit w1 (x % y) ur | exact SB2.out.below (Below.undrew b1) | exact SC2.out.below (Below.undrew b1)); rintro e w2 ⟨A2, n2, c2, rfl, t2, b2⟩; have x12 : Below w1.heap.size w1 w2 := (by first | exact b2 | exact (below_alloc w1 _).trans (b2.mono (by simp))); have x2 : Below w.heap.size w w2 := x1.trans (x12.mono x1.size)))
  all_goals
    go_wp2_with fail
    go_ret2
    exact ⟨_, _, _, _, _, _, rfl, t1.below x12, t2, x2⟩

theorem ref_div {w : World} {A A' : Option Addr} {n n' c c' : Nat} {xs ys : List Int} (h : Sl w A n c xs) (h' : Sl w A' n' c' ys) (hn : n ≤ 1000) (hn' : n' ≤ 1000) (h0 : 0 < val ys) :
    Calls Try.prog 66 #[.slice A n c, .slice A' n' c'] w (RetQR (val xs / val ys) (val xs % val ys) w) := by
  by_cases h1 : sz xs = 1 ∧ sz ys = 1
  · exact ref_div_short h h' hn hn' h1.1 h1.2
  · exact ref_div_long h h' hn hn' h0 h1

end Go.Proofs.Ytmoahgiklgicgaa
