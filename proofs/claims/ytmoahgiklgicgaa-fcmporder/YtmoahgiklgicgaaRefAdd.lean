/-
  What the document's own sum and difference of numbers return. Conditions: the slices read as lists of words, of at most 10^6 words; for the difference, that the first number is not less.
-/
import Derived.Test.YtmoahgiklgicgaaRefMake
import Derived.Deep.DeepCutAuto
import Derived.Deep.RegionWith
namespace Go.Proofs.Ytmoahgiklgicgaa
set_option maxRecDepth 100000
open Go.RowKit
set_option linter.unusedVariables false
set_option linter.unusedSimpArgs false

theorem quiet_eq {P : Program} {f : FuncId} {args : Array Value} {w : World} {n : Nat} {v : Value} (h : Calls P f args (w.drewN n) fun e w' => e = .returned v ∧ w.drewN n = w') :
    Calls P f args (w.drewN n) fun e w' => e = .returned v ∧ ∃ m, w' = w.drewN m := h.mono fun _ _ ⟨he, hw⟩ => ⟨he, n, hw.symm⟩
theorem wd_Dg {b : Nat} (hb : 0 < b) {xs : List Int} (h : Dg b xs) (k : Nat) : 0 ≤ wd xs k ∧ wd xs k < b := by rw [wd_nat]; exact h.at_ hb k

set_option maxHeartbeats 1000000 in
theorem ref_nadd {w : World} {A A' : Option Addr} {n n' c c' : Nat} {xs ys : List Int} (h : Sl w A n c xs) (h' : Sl w A' n' c' ys) (hn : n ≤ 1000000) (hn' : n' ≤ 1000000) :
    Calls Try.prog 57 #[.slice A n c, .slice A' n' c'] w (RetSl (words (val xs + val ys)) w) := by
  have hl1 := hwords_len (Dg_U h.us) rfl
  have hl2 := hwords_len (Dg_U h'.us) rfl
  have en := h.len
  have en' := h'.len
  have dx := hwords_Dg (val xs)
  have dy := hwords_Dg (val ys)
  have vx := valH_hwords (val xs)
  have vy := valH_hwords (val ys)
  have R1 := ref_halves h (by omega)
  have R2 := fun w1 (hb : Below w.heap.size w w1) => ref_halves (h'.below hb) (by omega)
  generalize hwords (val xs) = X at *
  generalize hwords (val ys) = Y at *
  generalize val xs = a at *
  generalize val ys = b at *
  subst vx vy
  have hX : X.length ≤ 2000000 := by omega
  have hY : Y.length ≤ 2000000 := by omega
  have HR1 := Lib.hid R1
  have HR2 := Lib.hid R2
  clear R1 R2 hl1 hl2 en en'
  obtain ⟨i0, hi, hz0, hz1, hz2⟩ := info_parts infoW
  go_enter Try.func57, Try.ntmps57
  go_wp2_with fail
  refine HR1.out.mono ?_
  rintro e w1 ⟨A1, n1, c1, rfl, s1, b1⟩
  go_wp2_with fail
  refine (HR2.out w1 b1).mono ?_
  rintro e w2 ⟨A2, n2, c2, rfl, s2, b2⟩
  have s1' := s1.below b2
  have bw : Below w.heap.size w w2 := b1.trans (b2.mono b1.size)
  have l1 : n1 ≤ 2000000 := by rw [s1.len]; exact hX
  have l2 : n2 ≤ 2000000 := by rw [s2.len]; exact hY
  obtain ⟨M, hM⟩ : ∃ M, M = max n1 n2 := ⟨_, rfl⟩
  have hM1 : n1 ≤ M := by omega
  have hM2 : n2 ≤ M := by omega
  have hM3 : M ≤ 2000000 := by omega
  have HM := Lib.hid hM
  have HX := Lib.hid s1.len
  have HY := Lib.hid s2.len
  clear HR1 HR2 s1 b1 b2 h h' hM hX hY
  go_upto_region 4 with (fail)
  go_cut [19, 20] (fun s19 s20 wx => s19 = .int .i64 ((M : Int) + 1) ∧ s20 = .int .i64 0 ∧ w2 = wx)
  case first =>
    by_cases hc : n1 < n2
    · go_wp2_with fail
      go_meet
      exact ⟨vint (by have := HM.out; omega), rfl, rfl⟩
    · go_wp2_with fail
      go_meet
      exact ⟨vint (by have := HM.out; omega), rfl, rfl⟩
  case rest =>
    obtain ⟨rfl, rfl, rfl⟩ := hcut
    go_wp2_with fail
    go_loopw [7, 8, 20] (fun v cv i wr => ∃ (k : Nat) (cy : Int) (zs : List Int), k ≤ M + 1 ∧ i = .int .i64 k ∧ cv = .int .u64 cy ∧ Own 22 w2.heap.size wr v zs ∧ Below w2.heap.size w2 wr ∧ HAddInv X Y k cy zs) (fun _ _ i _ => M + 1 - mes i)
    case atStart => exact ⟨0, 0, [], by omega, rfl, rfl, Own.nil _ _ _, Below.refl _ _, hAddInv_0 X Y⟩
    case round =>
      obtain ⟨k, cy, zs, hk, rfl, rfl, hown, hb, hz⟩ := hrel
      have hzl : zs.length ≤ k := Nat.le_of_eq hz.1
      by_cases hk2 : k < M + 1
      · have g1 := ref_at (s1'.below hb) (by omega) (k : Int) (by omega)
        have g2 := ref_at (s2.below hb) (by omega) (k : Int) (by omega)
        have hst := hAddInv_step dx dy hz
        have hc1 := hz.2.2.1.1
        have hc2 := hz.2.2.1.2
        have q1 := wd_Dg H_pos dx k
        have q2 := wd_Dg H_pos dy k
        rw [← wd_nat, ← wd_nat] at hst
        generalize wd X k = x at *
        generalize wd Y k = y at *
        unfold H at q1 q2
        obtain ⟨q1a, q1b⟩ := q1
        obtain ⟨q2a, q2b⟩ := q2
        have q1c : x < 4294967296 := by omega
        have q2c : y < 4294967296 := by omega
        have ea : bits BinOp.and IntKind.u64 (cy + x + y) 4294967295 = (cy + x + y) % 4294967296 := and32 (by unfold U; omega)
        have G1 := Lib.hid g1
        have G2 := Lib.hid g2
        have HS := Lib.hid hst
        have hk3 : (k : Int) < (M : Int) + 1 := by omega
        clear g1 g2 hst hz q1b q2b
        go_wp2_with fail
        refine G1.out.mono ?_
        rintro e w' ⟨rfl, rfl⟩
        go_wp2_with fail
        refine G2.out.mono ?_
        rintro e w' ⟨rfl, rfl⟩
        go_wp2_with (at_builtin; refine wpList_append_own _ rfl (.tmp 32) (.tmp 35) 34 rfl w2.heap.size 22 i0 (.int .u64 0) 1 8 Try.underlying34 hi hz0 hz1 hz2 rfl (by decide) _ _ _ rfl (hown.out.alloc _) ⟨wr.heap.size, 0, none⟩ 1 1 [.int .u64 ((cy + x + y) % 4294967296)] rfl rfl ?c1 ?c2 ?c3 ?c4 ?c5 ?_)
        case c1 => exact cell_one_new _ _ _
        case c2 => intro u hu; simp at hu; subst hu; rfl
        case c3 => unfold maxLen; omega
        case c4 => omega
        case c5 => have := hb.size; simp; omega
        intro v' w3 hown' hgrow _
        have hb1 := own_below hb hown hgrow
        have HO := Lib.hid (Own.snoc hown')
        clear hown hown' hgrow
        go_wp2
        go_roundw
        case rel => exact ⟨k + 1, _, _, by omega, by go_num, rfl, HO.out, hb1, HS.out⟩
        case measure => simp [mes, intOf]; omega
      · obtain rfl : k = M + 1 := by omega
        obtain ⟨A3, c3, rfl⟩ := own_form hown
        have hdz : Dg H zs := hz.2.1
        have hv := hAddInv_end (k := 0) dx dy hz (by rw [← HX.out]; exact hM1) (by rw [← HY.out]; exact hM2)
        have hsl := hown.sl (U_Dg (hdz.mono H_le_W))
        have R := ref_whole hsl hdz (by omega)
        rw [hv] at R
        have HR := Lib.hid R
        clear R hsl hown hz hv
        go_wp2_with fail
        refine HR.out.mono ?_
        rintro e w' ⟨A4, n4, c4, rfl, s4, b4⟩
        go_wp2_with fail
        go_ret
        exact ⟨_, _, _, rfl, s4, bw.trans ((hb.trans (b4.mono hb.size)).mono bw.size)⟩

set_option maxHeartbeats 1000000 in
theorem ref_nsub {w : World} {A A' : Option Addr} {n n' c c' : Nat} {xs ys : List Int} (h : Sl w A n c xs) (h' : Sl w A' n' c' ys) (hn : n ≤ 1000000) (hn' : n' ≤ 1000000) (hle : val ys ≤ val xs) :
    Calls Try.prog 29 #[.slice A n c, .slice A' n' c'] w (RetSl (words (val xs - val ys)) w) := by
  have hl1 := hwords_len (Dg_U h.us) rfl
  have hl2 := hwords_len (Dg_U h'.us) rfl
  have en := h.len
  have en' := h'.len
  have dx := hwords_Dg (val xs)
  have dy := hwords_Dg (val ys)
  have vx := valH_hwords (val xs)
  have vy := valH_hwords (val ys)
  have R1 := ref_halves h (by omega)
  have R2 := fun w1 (hb : Below w.heap.size w w1) => ref_halves (h'.below hb) (by omega)
  generalize hwords (val xs) = X at *
  generalize hwords (val ys) = Y at *
  generalize val xs = a at *
  generalize val ys = b at *
  subst vx vy
  have hX : X.length ≤ 2000000 := by omega
  have hY : Y.length ≤ 2000000 := by omega
  have HR1 := Lib.hid R1
  have HR2 := Lib.hid R2
  have HLE := Lib.hid hle
  clear R1 R2 hl1 hl2 en en' hle
  obtain ⟨i0, hi, hz0, hz1, hz2⟩ := info_parts infoW
  go_enter Try.func29, Try.ntmps29
  go_wp2_with fail
  refine HR1.out.mono ?_
  rintro e w1 ⟨A1, n1, c1, rfl, s1, b1⟩
  go_wp2_with fail
  refine (HR2.out w1 b1).mono ?_
  rintro e w2 ⟨A2, n2, c2, rfl, s2, b2⟩
  have s1' := s1.below b2
  have bw : Below w.heap.size w w2 := b1.trans (b2.mono b1.size)
  have l1 : n1 ≤ 2000000 := by rw [s1.len]; exact hX
  have l2 : n2 ≤ 2000000 := by rw [s2.len]; exact hY
  have HX := Lib.hid s1.len
  clear HR1 HR2 s1 b1 b2 h h' hX hY
  go_wp2_with fail
  go_loopw [7, 8, 17] (fun v cv i wr => ∃ (k : Nat) (cy : Int) (zs : List Int), k ≤ n1 ∧ i = .int .i64 k ∧ cv = .int .u64 cy ∧ Own 22 w2.heap.size wr v zs ∧ Below w2.heap.size w2 wr ∧ HSubInv X Y k cy zs) (fun _ _ i _ => n1 - mes i)
  case atStart => exact ⟨0, 0, [], by omega, rfl, rfl, Own.nil _ _ _, Below.refl _ _, hSubInv_0 X Y⟩
  case round =>
    obtain ⟨k, cy, zs, hk, rfl, rfl, hown, hb, hz⟩ := hrel
    have hzl : zs.length ≤ k := Nat.le_of_eq hz.1
    by_cases hk2 : k < n1
    · obtain ⟨ba, off, rfl, hba, hca⟩ := s1'.at_ (k := k) (by omega)
      have hac := (hb.cell (p := ⟨ba, off + k, none⟩) hba).trans (hca k (by omega))
      have g2 := fun W1 (hW : Sl W1 A2 n2 c2 Y) => ref_at hW (by omega) (k : Int) (by omega)
      have hst := hSubInv_step dx dy hz
      have hc1 := hz.2.2.1.1
      have hc2 := hz.2.2.1.2
      have q1 := wd_Dg H_pos dx k
      have q2 := wd_Dg H_pos dy k
      rw [← wd_nat, ← wd_nat] at hst
      rw [← wd_nat] at hac
      generalize wd X k = x at *
      generalize wd Y k = y at *
      unfold H at q1 q2
      obtain ⟨q1a, q1b⟩ := q1
      obtain ⟨q2a, q2b⟩ := q2
      have q1c : x < 4294967296 := by omega
      have q2c : y < 4294967296 := by omega
      obtain ⟨D, eD⟩ : ∃ D, 4294967296 + x - y - cy = D := ⟨_, rfl⟩
      rw [eD] at hst
      have hD0 : 0 ≤ D := by omega
      have hD1 : D < 8589934592 := by omega
      have ea : bits BinOp.and IntKind.u64 D 4294967295 = D % 4294967296 := and32 (by unfold U; omega)
      have k1 : IntKind.u64.wrap (4294967296 + x) = 4294967296 + x := by rw [wrapU_lo, lo_U]; unfold U; omega
      have k2 : IntKind.u64.wrap (4294967296 + x - y) = 4294967296 + x - y := by rw [wrapU_lo, lo_U]; unfold U; omega
      have k3 : IntKind.u64.wrap (4294967296 + x - y - cy) = D := by rw [wrapU_lo, lo_U, eD]; unfold U; omega
      have k4 : 4294967296 + x - y - cy = D := eD
      have hD2 : 0 ≤ 1 - D / 4294967296 := by omega
      have hD3 : 1 - D / 4294967296 ≤ 1 := by omega
      have HSL := Lib.hid (s2.below hb)
      have G2 := Lib.hid g2
      have HS := Lib.hid hst
      have hk3 : (k : Int) < (n1 : Int) := by omega
      clear g2 hst hz q1b q2b hca eD
      go_wp2_with fail
      go_quiet ((go_at_call 50; exact quiet_eq (G2.out _ (by exact HSL.out))))
      have ho2 : Own 22 w2.heap.size (wr.drewN nq) u7 zs := hown
      have hb2 : Below w2.heap.size w2 (wr.drewN nq) := Below.drewN' hb nq
      clear k1 k2 k3 k4 hown hb hac HSL G2
      generalize wr.drewN nq = wq at ho2 hb2 ⊢
      go_wp2_with (at_builtin; refine wpList_append_own _ rfl (.tmp 31) (.tmp 34) 34 rfl w2.heap.size 22 i0 (.int .u64 0) 1 8 Try.underlying34 hi hz0 hz1 hz2 rfl (by decide) _ _ _ rfl (ho2.out.alloc _) ⟨wq.heap.size, 0, none⟩ 1 1 [.int .u64 (D % 4294967296)] rfl rfl ?c1 ?c2 ?c3 ?c4 ?c5 ?_)
      case c1 => exact cell_one_new _ _ _
      case c2 => intro u hu; simp at hu; subst hu; rfl
      case c3 => unfold maxLen; omega
      case c4 => omega
      case c5 => have := hb2.size; simp; omega
      intro v' w3 hown' hgrow _
      have hb1 := own_below hb2 ho2 hgrow
      have HO := Lib.hid (Own.snoc hown')
      clear ho2 hown' hgrow
      go_wp2
      go_roundw
      case rel => exact ⟨k + 1, _, _, by omega, by go_num, rfl, HO.out, hb1, HS.out⟩
      case measure => simp [mes, intOf]; omega
    · obtain rfl : k = n1 := by omega
      obtain ⟨A3, c3, rfl⟩ := own_form hown
      have hdz : Dg H zs := hz.2.1
      have hv := hSubInv_end dx dy hz HX.out.symm HLE.out
      have hsl := hown.sl (U_Dg (hdz.mono H_le_W))
      have R := ref_whole hsl hdz (by omega)
      rw [hv] at R
      have HR := Lib.hid R
      clear R hsl hown hz hv
      go_wp2_with fail
      refine HR.out.mono ?_
      rintro e w' ⟨A4, n4, c4, rfl, s4, b4⟩
      go_wp2_with fail
      go_ret
      exact ⟨_, _, _, rfl, s4, bw.trans ((hb.trans (b4.mono hb.size)).mono bw.size)⟩

end Go.Proofs.Ytmoahgiklgicgaa
