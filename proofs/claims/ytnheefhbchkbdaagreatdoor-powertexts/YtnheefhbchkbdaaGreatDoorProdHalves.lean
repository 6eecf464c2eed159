/-
  What prod.halves returns, where shorter products are right: as many words as both factors have, and they say the product. Conditions: the slices read as lists of words, of at most 10^6 words together.
-/
import Derived.Test.YtnheefhbchkbdaaGreatDoorProdRow
import Derived.Deep.RegionWith
namespace Go.Proofs.YtnheefhbchkbdaaGreatDoor
set_option maxRecDepth 100000
open Go.RowKit
set_option linter.unusedVariables false
set_option linter.unusedSimpArgs false

theorem Below.undrew {w w' : World} (h : Below w.drew.heap.size w.drew w') : Below w.heap.size w w' := ⟨h.os, h.tape, h.output, h.size, h.block⟩
/-- products of fewer than N words are right -/
def ProdOk (N : Nat) : Prop := ∀ (w : World) (A A' : Option Addr) (n n' c c' : Nat) (xs ys : List Int), Sl w A n c xs → Sl w A' n' c' ys → n + n' < N →
  Calls Tryz.prog 83 #[.slice A n c, .slice A' n' c'] w (RetV (n + n') (val xs * val ys) w)

set_option maxHeartbeats 1000000 in
theorem prod_halves {N : Nat} (ih : ProdOk N) {w : World} {A A' : Option Addr} {n n' c c' half : Nat} {xs ys : List Int} (h : Sl w A n c xs) (h' : Sl w A' n' c' ys)
    (hN : n + n' ≤ N) (hM : n + n' ≤ 1000000) (h1 : n ≤ 2 * half) (h2 : 2 * half ≤ n + 1) (h3 : 4 ≤ n) :
    Calls Tryz.prog 99 #[.slice A n c, .slice A' n' c', .int .i64 half] w (RetV (n + n') (val xs * val ys) w) := by
  obtain ⟨b, off, rfl, _, _⟩ := h.at_ (k := 0) (by omega)
  have hcap := h.cap
  have hlen := h.len
  have hlen' := h'.len
  obtain ⟨w0, hmk, hr0, hb0, _⟩ := make_words w (n + n') (by omega)
  rw [show ((n + n' : Nat) : Int) = (n : Int) + (n' : Int) by omega] at hmk
  have P1 := ih w0 _ _ _ _ _ _ _ _ ((h.below hb0).take (k := half) (by omega)) (h'.below hb0) (by omega)
  have hxy := prod_fits (Dg_U h.us) (Dg_U h'.us)
  rw [← hlen, ← hlen'] at hxy
  have hsp := val_take_drop xs half
  have HP1 := Lib.hid P1
  have HR0 := Lib.hid hr0
  have HXY := Lib.hid hxy
  have HSP := Lib.hid hsp
  have HL := Lib.hid hlen
  have HL' := Lib.hid hlen'
  have IH := Lib.hid ih
  clear ih P1 hr0 hxy hsp hlen hlen'
  have hch : ¬ (c = half) := by omega
  have hch2 : ¬ (n + n' = half) := by omega
  go_enter Tryz.func99, Tryz.ntmps99
  go_wp2_with fail
  refine HP1.out.mono ?_
  rintro e w1 ⟨A1, c1, p1, rfl, s1, v1, b1, _⟩
  have hb1 := hb0.trans (b1.mono hb0.size)
  have hr1 : Row 52 w1 w.heap.size (List.replicate (n + n') 0) := HR0.out.below b1 HR0.out.lt
  have HV1 := Lib.hid v1
  have HR1 := Lib.hid hr1
  have HS1 := Lib.hid s1
  clear v1 hr1 s1 b1 HP1 HR0
  go_wp2_with (with_reducible refine wpList_copy_words rfl (.tmp 14) (.tmp 19) 22 22 rfl 52 Tryz.underlying22 sizeW w.heap.size 0 (n + n') (n + n') A1 (half + n') c1 rfl rfl (List.replicate (n + n') 0) p1 ?hr ?hsl ?hle ?hfit ?_)
  case hr => exact HR1.out
  case hsl => exact HS1.out
  case hle => omega
  case hfit => simp; omega
  intro w2 HR2 HK2
  have hb2 := Below.keep hb1 HK2.out (Nat.le_refl _) (Nat.le_refl _)
  have hb2d : Below w.heap.size w w2.drew := hb2.drew
  have P2 := IH.out w2.drew _ _ _ _ _ _ _ _ ((h.below hb2d).drop (k := half) (by omega)) (h'.below hb2d) (by omega)
  have key : ∀ w3 A3 c3 p3, Sl w3 A3 (n - half + n') c3 p3 → Hid (val p3 = val (xs.drop half) * val ys) → Below w2.drew.heap.size w2.drew w3 → New w2.drew A3 →
      Calls Tryz.prog 108 #[.slice (some ⟨w.heap.size, half, none⟩) (n + n' - half) (n + n' - half), .slice A3 (n - half + n') c3] w3 (Wrote 52 w.heap.size (fun zs' => zs'.length = n + n' ∧ Dg W zs' ∧ val zs' = val xs * val ys) w3) := by
    intro w3 A3 c3 p3 s3 v3 b3 n3
    have hr2 : Row 52 w2.drew w.heap.size (spl (List.replicate (n + n') 0) 0 p1) := HR2.out
    have hr3 := hr2.below b3 hr2.lt
    have hl1 : p1.length = half + n' := HS1.out.len.symm
    have hlz : (spl (List.replicate (n + n') 0) 0 p1).length = n + n' := by rw [length_spl (by simp; omega)]; simp
    have hdz : Dg W (spl (List.replicate (n + n') 0) 0 p1) := (Dg.zeros W_pos _).spl (Dg_U HS1.out.us) 0
    have hvz : valB W (spl (List.replicate (n + n') 0) 0 p1) = val (xs.take half) * val ys := by
      rw [← HV1.out]
      unfold spl val
      simp [valB_over]
    have hsum : val (xs.take half) * val ys + W ^ half * (val (xs.drop half) * val ys) = val xs * val ys := prod_halves_eq _ _ _ HSP.out rfl rfl
    have hap : SlN w.heap.size w3 A3 (n - half + n') c3 p3 := s3.new n3 hr2.lt
    refine (prod_addTo hr3 hdz hap (by omega) (by omega) (by omega) (by rw [hvz, v3.out, hsum, hlz]; exact HXY.out)).mono ?_
    rintro e w4 ⟨us, rfl, hr4, hk4, t1, t2, t3⟩
    exact ⟨us, rfl, hr4, hk4, by rw [t1, hlz], t2, by unfold val at *; rw [t3, hvz, v3.out, hsum]⟩
  have HP2 := Lib.hid P2
  have HKEY := Lib.hid key
  clear P2 key
  go_wp2_with fail
  go_region_with (first | (go_at_call 83; refine HP2.out.mono ?_; rintro e w3 ⟨A3, c3, p3, rfl, s3, v3, b3, n3⟩; have HV3 := Lib.hid v3; clear v3) | (go_at_call 108; refine (HKEY.out _ _ _ _ s3 HV3 b3 n3).mono ?_; rintro e w4 ⟨us, rfl, hr4, hk4, t1, t2, t3⟩))
  all_goals
    have hb4 := Below.keep (hb2d.trans (b3.mono hb2d.size)) hk4 (Nat.le_refl _) (Nat.le_refl _)
    have hsl4 := hr4.sl (c := n + n') (U_Dg t2) (by omega)
    rw [t1] at hsl4
    have HS4 := Lib.hid hsl4
    have HT := Lib.hid t3
    clear hr4 t1 t2 t3 hk4 hsl4
    go_wp2_with fail
    go_ret
    exact ⟨_, _, _, rfl, HS4.out, HT.out, hb4, New.some_ (Nat.le_refl _)⟩

end Go.Proofs.YtnheefhbchkbdaaGreatDoor
