/-
  What the functions of package nat that make numbers return: numbers of words, sums, differences, shifts, normalized. Conditions: the slices read as lists of words, of at most 10^8 words.
-/
import Derived.Test.YteedipcmhaiglaaNatBits
import Derived.Laws.CopyOwn
import Derived.Deep.QuietTactic
import Derived.BigQuiet
namespace Go.Proofs.Yteedipcmhaiglaa
set_option maxRecDepth 100000
open Go.RowKit
set_option linter.unusedVariables false
set_option linter.unusedSimpArgs false

theorem infoW : (Try.prog.info? 22).map (fun i => (i.zero, i.size, i.bytes)) = some (some (.int .u64 0), 1, 8) := by kernel_rfl

/-- a normalized cut of a row that the call made -/
theorem retSl_cut {w w' : World} {t : TypeId} {g c v : Nat} {zs : List Int} (hr : Row t w' g zs) (hd : Dg W zs) (hc : zs.length ≤ c) (hv : val zs = v) (hb : Below w.heap.size w w') :
    RetSl (words v) w (.returned (.slice (some ⟨g, 0, none⟩) (sz zs) c)) w' := by
  subst hv
  exact ⟨_, _, _, rfl, cut_sl (hr.sl (U_Dg hd) hc), hb⟩

set_option maxHeartbeats 400000 in
theorem nat_of (x : Int) (hx : U x) (w : World) : Calls Try.prog 60 #[.int .u64 x] w (RetSl (words x.toNat) w) := by
  have hr : Row 22 (w.alloc (.cells #[.int .u64 x] 22)) w.heap.size [x] := Row.lit w 22 [x]
  have hs : Sl (w.alloc (.cells #[.int .u64 x] 22)) (some ⟨w.heap.size, 0, none⟩) 1 1 [x] := hr.sl (by intro y hy; simp at hy; subst hy; exact hx) (by simp)
  go_enter Try.func60, Try.ntmps60
  go_wp2_with fail
  refine (nat_cut hs (by omega)).mono ?_
  rintro e w' ⟨rfl, rfl⟩
  go_wp2_with fail
  go_ret
  exact retSl_cut hr (Dg_U (by intro y hy; simp at hy; subst hy; exact hx)) (by simp) (by simp [val, valB]) ((Below.refl _ _).alloc (Nat.le_refl _) _)

set_option maxHeartbeats 1000000 in
theorem nat_add {w : World} {A A' : Option Addr} {n n' c c' : Nat} {xs ys : List Int} (h : Sl w A n c xs) (h' : Sl w A' n' c' ys) (hn : n ≤ 100000000) (hn' : n' ≤ 100000000) :
    Calls Try.prog 58 #[.slice A n c, .slice A' n' c'] w (RetSl (words (val xs + val ys)) w) := by
  have hs : sz xs ≤ n := by rw [h.len]; exact sz_le xs
  have hs' : sz ys ≤ n' := by rw [h'.len]; exact sz_le ys
  have S1 := nat_size h (by omega)
  have S2 := nat_size h' (by omega)
  generalize hp : sz xs = p at S1 hs
  generalize hq : sz ys = q at S2 hs'
  have HP := Lib.hid hp
  have HQ := Lib.hid hq
  have T1 := Lib.hid S1
  have T2 := Lib.hid S2
  clear hp hq S1 S2
  rcases Nat.lt_or_ge p q with hle | hle
  · have h1 : sz xs ≤ q := by rw [HP.out]; omega
    have h2 : sz ys ≤ q := by rw [HQ.out]; omega
    have H1 := Lib.hid h1
    have H2 := Lib.hid h2
    clear h1 h2
    have hmk := run_make_row' (P := Try.prog) 37 22 (.int .u64 0) 8 Try.underlying37 infoW rfl .i64 .i64 (q + 1) (by omega) (by omega)
    rw [show ((q + 1 : Nat) : Int) = (q : Int) + 1 by omega] at hmk
    go_enter Try.func58, Try.ntmps58
    go_wp2_with fail
    refine T1.out.mono ?_
    rintro e w' ⟨rfl, rfl⟩
    go_wp2_with fail
    refine T2.out.mono ?_
    rintro e w' ⟨rfl, rfl⟩
    go_wp2_with fail
    go_loopw [7, 18] (fun cy i wr => ∃ (k : Nat) (c0 : Int) (zs : List Int), k ≤ q ∧ i = .int .i64 k ∧ cy = .int .u64 c0 ∧ AddInv xs ys q k c0 zs ∧ Row 22 wr w.heap.size zs ∧ Below w.heap.size w wr) (fun _ i _ => q - mes i)
    case atStart => exact ⟨0, 0, _, by omega, rfl, rfl, addInv_0 xs ys q, Row.new w 22 (q + 1), (Below.refl _ _).alloc (Nat.le_refl _) _⟩
    case round =>
      obtain ⟨k, c0, zs, hk, rfl, rfl, hz, hr, hb⟩ := hrel
      by_cases hk2 : k < q
      · have g1 := nat_wordAt (h.below hb) (by omega) (k : Int) (by omega)
        have g2 := nat_wordAt (h'.below hb) (by omega) (k : Int) (by omega)
        have hux := wd_U h.us (k : Int)
        have huy := wd_U h'.us (k : Int)
        have hst := addInv_step (Dg_U h.us) (Dg_U h'.us) hz hk2
        rw [← wd_nat, ← wd_nat] at hst
        have hl : zs.length = q + 1 := hz.1
        have huc : U c0 := hz.2.2.1
        have hcell := hr.cell (i := k) (by omega)
        have hfree := hr.free k
        generalize zs.getD k 0 = z0 at hcell
        generalize wd xs k = x at *
        generalize wd ys k = y at *
        have G1 := Lib.hid g1
        have G2 := Lib.hid g2
        have HS := Lib.hid hst
        have HR := Lib.hid hr
        clear g1 g2 hst hl hz hr
        go_wp2_with fail
        refine G1.out.mono ?_
        rintro e w' ⟨rfl, rfl⟩
        go_wp2_with fail
        refine G2.out.mono ?_
        rintro e w' ⟨rfl, rfl⟩
        go_wp2_with fail
        refine (limb_add x y c0 hux huy huc _).mono ?_
        rintro e w' ⟨rfl, rfl⟩
        go_wp2_with fail
        go_roundw
        case rel => exact ⟨k + 1, _, _, by omega, by go_num, rfl, HS.out, HR.out.set k _, hb.setCell (Nat.le_refl _) _⟩
        case measure => simp [mes, intOf]; omega
      · obtain rfl : k = q := by omega
        obtain ⟨e1, e2, e3⟩ := addInv_end hz H1.out H2.out
        have hl : zs.length = k + 1 := hz.1
        have hcell := hr.cell (i := k) (by omega)
        have hfree := hr.free k
        generalize zs.getD k 0 = z0 at hcell
        have hr2 := hr.set k c0
        have hb2 : Below w.heap.size w (wr.setCell ⟨w.heap.size, k, none⟩ (.int .u64 c0)) := hb.setCell (Nat.le_refl _) _
        have hsl := hr2.sl (c := k + 1) (U_Dg e2) (by omega)
        rw [e3] at hsl
        have HC := Lib.hid (nat_cut hsl (by omega))
        have HR := Lib.hid hr2
        have E1 := Lib.hid e1
        have E2 := Lib.hid e2
        have E3 := Lib.hid e3
        clear hsl hr2 e1 e2 e3 hl hz hr
        go_wp2_with fail
        refine HC.out.mono ?_
        rintro e w' ⟨rfl, rfl⟩
        go_wp2_with fail
        go_ret
        exact retSl_cut HR.out E2.out (by rw [E3.out]; omega) E1.out hb2
  · have h1 : sz xs ≤ p := by rw [HP.out]; omega
    have h2 : sz ys ≤ p := by rw [HQ.out]; omega
    have H1 := Lib.hid h1
    have H2 := Lib.hid h2
    clear h1 h2
    have hmk := run_make_row' (P := Try.prog) 37 22 (.int .u64 0) 8 Try.underlying37 infoW rfl .i64 .i64 (p + 1) (by omega) (by omega)
    rw [show ((p + 1 : Nat) : Int) = (p : Int) + 1 by omega] at hmk
    go_enter Try.func58, Try.ntmps58
    go_wp2_with fail
    refine T1.out.mono ?_
    rintro e w' ⟨rfl, rfl⟩
    go_wp2_with fail
    refine T2.out.mono ?_
    rintro e w' ⟨rfl, rfl⟩
    go_wp2_with fail
    go_loopw [7, 18] (fun cy i wr => ∃ (k : Nat) (c0 : Int) (zs : List Int), k ≤ p ∧ i = .int .i64 k ∧ cy = .int .u64 c0 ∧ AddInv xs ys p k c0 zs ∧ Row 22 wr w.heap.size zs ∧ Below w.heap.size w wr) (fun _ i _ => p - mes i)
    case atStart => exact ⟨0, 0, _, by omega, rfl, rfl, addInv_0 xs ys p, Row.new w 22 (p + 1), (Below.refl _ _).alloc (Nat.le_refl _) _⟩
    case round =>
      obtain ⟨k, c0, zs, hk, rfl, rfl, hz, hr, hb⟩ := hrel
      by_cases hk2 : k < p
      · have g1 := nat_wordAt (h.below hb) (by omega) (k : Int) (by omega)
        have g2 := nat_wordAt (h'.below hb) (by omega) (k : Int) (by omega)
        have hux := wd_U h.us (k : Int)
        have huy := wd_U h'.us (k : Int)
        have hst := addInv_step (Dg_U h.us) (Dg_U h'.us) hz hk2
        rw [← wd_nat, ← wd_nat] at hst
        have hl : zs.length = p + 1 := hz.1
        have huc : U c0 := hz.2.2.1
        have hcell := hr.cell (i := k) (by omega)
        have hfree := hr.free k
        generalize zs.getD k 0 = z0 at hcell
        generalize wd xs k = x at *
        generalize wd ys k = y at *
        have G1 := Lib.hid g1
        have G2 := Lib.hid g2
        have HS := Lib.hid hst
        have HR := Lib.hid hr
        clear g1 g2 hst hl hz hr
        go_wp2_with fail
        refine G1.out.mono ?_
        rintro e w' ⟨rfl, rfl⟩
        go_wp2_with fail
        refine G2.out.mono ?_
        rintro e w' ⟨rfl, rfl⟩
        go_wp2_with fail
        refine (limb_add x y c0 hux huy huc _).mono ?_
        rintro e w' ⟨rfl, rfl⟩
        go_wp2_with fail
        go_roundw
        case rel => exact ⟨k + 1, _, _, by omega, by go_num, rfl, HS.out, HR.out.set k _, hb.setCell (Nat.le_refl _) _⟩
        case measure => simp [mes, intOf]; omega
      · obtain rfl : k = p := by omega
        obtain ⟨e1, e2, e3⟩ := addInv_end hz H1.out H2.out
        have hl : zs.length = k + 1 := hz.1
        have hcell := hr.cell (i := k) (by omega)
        have hfree := hr.free k
        generalize zs.getD k 0 = z0 at hcell
        have hr2 := hr.set k c0
        have hb2 : Below w.heap.size w (wr.setCell ⟨w.heap.size, k, none⟩ (.int .u64 c0)) := hb.setCell (Nat.le_refl _) _
        have hsl := hr2.sl (c := k + 1) (U_Dg e2) (by omega)
        rw [e3] at hsl
        have HC := Lib.hid (nat_cut hsl (by omega))
        have HR := Lib.hid hr2
        have E1 := Lib.hid e1
        have E2 := Lib.hid e2
        have E3 := Lib.hid e3
        clear hsl hr2 e1 e2 e3 hl hz hr
        go_wp2_with fail
        refine HC.out.mono ?_
        rintro e w' ⟨rfl, rfl⟩
        go_wp2_with fail
        go_ret
        exact retSl_cut HR.out E2.out (by rw [E3.out]; omega) E1.out hb2

end Go.Proofs.Yteedipcmhaiglaa
