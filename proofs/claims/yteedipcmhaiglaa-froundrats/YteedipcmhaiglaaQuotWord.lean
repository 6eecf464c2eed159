/-
  What quot.Word, quot.estimate and quot.replace do. Conditions: the slices read as lists of words, of at most 10^7 words.
-/
import Derived.Test.YteedipcmhaiglaaProdKara
import Derived.Test.YteedipcmhaiglaaQuotMath
import Derived.Lib.SliceRun
namespace Go.Proofs.Yteedipcmhaiglaa
set_option maxRecDepth 100000
open Go.RowKit
set_option linter.unusedVariables false
set_option linter.unusedSimpArgs false

/-- a call that returns a number, a word and true -/
def RetQW (q : Nat) (r : Int) (w : World) (e : Ending) (w' : World) : Prop := ∃ A n c, e = .returned (.tuple #[.slice A n c, .int .u64 r, .bool true]) ∧ Sl w' A n c (words q) ∧ Below w.heap.size w w'

theorem RetQW.of {q n c : Nat} {A : Option Addr} {r r' : Int} {w w' : World} (hr : r' = r) (hs : Sl w' A n c (words q)) (hb : Below w.heap.size w w') : RetQW q r w (.returned (.tuple #[.slice A n c, .int .u64 r', .bool true])) w' := by
  subst hr; exact ⟨A, n, c, rfl, hs, hb⟩

/-- .. in new memory -/
def RetQWN (q : Nat) (r : Int) (w : World) (e : Ending) (w' : World) : Prop := ∃ A n c, e = .returned (.tuple #[.slice A n c, .int .u64 r, .bool true]) ∧ Sl w' A n c (words q) ∧ Below w.heap.size w w' ∧ New w A
theorem RetQWN.of {q n c : Nat} {A : Option Addr} {r r' : Int} {w w' : World} (hr : r' = r) (hs : Sl w' A n c (words q)) (hb : Below w.heap.size w w') (hn : New w A) : RetQWN q r w (.returned (.tuple #[.slice A n c, .int .u64 r', .bool true])) w' := by
  subst hr; exact ⟨A, n, c, rfl, hs, hb, hn⟩

theorem quot_word_zero (A : Option Addr) (n c : Nat) (w : World) :
    Calls Try.prog 93 #[.slice A n c, .int .u64 0] w fun e w' => e = .returned (.tuple #[.slice none 0 0, .int .u64 0, .bool false]) ∧ w = w' := by
  go_enter Try.func93, Try.ntmps93
  go_wp2_with fail
  go_ret3
  exact ⟨rfl, rfl⟩

set_option maxHeartbeats 1000000 in
theorem quot_word_new {w : World} {A : Option Addr} {n c : Nat} {xs : List Int} (h : Sl w A n c xs) (hn : n ≤ 10000000) (d : Int) (hd : U d) (hd0 : 0 < d) :
    Calls Try.prog 93 #[.slice A n c, .int .u64 d] w (RetQWN (val xs / d.toNat) (val xs % d.toNat : Nat) w) := by
  have hlen := h.len
  have HL := Lib.hid hlen
  clear hlen
  have hne : (d == 0) = false := by simp; omega
  obtain ⟨w0, hmk, hr0, hb0, _⟩ := make_words w n (by omega)
  have HR0 := Lib.hid hr0
  clear hr0
  go_enter Try.func93, Try.ntmps93
  go_wp2_with fail
  go_loopw [8, 9] (fun rv iv wr => ∃ (k : Nat) (j r : Int) (qs : List Int), k ≤ n ∧ j + 1 ≤ k ∧ (k : Int) ≤ j + 1 ∧ iv = .int .i64 j ∧ rv = .int .u64 r ∧ WdInv xs d k r qs ∧ Row 22 wr w.heap.size qs ∧ Below w.heap.size w wr) (fun _ iv _ => (intOf iv + 1).toNat)
  case atStart => exact ⟨n, _, 0, _, by omega, by omega, by omega, rfl, rfl, by have := wdInv_0 xs hd0; rw [← HL.out] at this; exact this, HR0.out, hb0⟩
  case round =>
    clear HR0
    obtain ⟨k, j, r, qs, hk, hj1, hj2, rfl, rfl, hz, hr, hb⟩ := hrel
    by_cases hk0 : k = 0
    · subst hk0
      obtain rfl : j = -1 := by omega
      obtain ⟨e1, e2⟩ := wdInv_end hz
      have hlq : qs.length = n := by rw [hz.1, HL.out]
      have hr0 : 0 ≤ r := hz.2.2.1.1
      have hsl := hr.sl (c := n) (U_Dg hz.2.1) (by omega)
      rw [hlq] at hsl
      have T := nat_trim_new hsl (by omega)
      rw [e1] at T
      have er : r = ((val xs % d.toNat : Nat) : Int) := by rw [← e2]; exact (Int.toNat_of_nonneg hr0).symm
      have HT := Lib.hid T
      have HE := Lib.hid er
      clear T hsl e1 e2 hr hz hlq er
      go_wp2_with fail
      refine HT.out.mono ?_
      rintro e w2 ⟨A2, n2, c2, rfl, s2, b2, nw2⟩
      go_wp2_with fail
      go_ret3
      exact RetQWN.of HE.out s2 (hb.trans (b2.mono hb.size)) (nw2.mono hb.size)
    · obtain ⟨i, rfl⟩ : ∃ i, k = i + 1 := ⟨k - 1, by omega⟩
      obtain rfl : j = (i : Int) := by omega
      have hin : i < n := by omega
      obtain ⟨ba, offa, rfl, _, hac⟩ := (h.apart' hb (Nat.le_refl _)).at_ hin
      have hlq : qs.length = n := by rw [hz.1, HL.out]
      have hcell := hr.cell (i := i) (by omega)
      have hfree := hr.free i
      have hrr := hz.2.2.1
      have hux : U (xs.getD i 0) := h.u i
      obtain ⟨g1, g2, g3⟩ := wd_digit hrr.1 hrr.2 hux
      have hst := wdInv_step hz (by rw [← HL.out]; exact hin) g1 g2 g3
      have D := fun w => limb_div_yes r (xs.getD i 0) d (by unfold U at hd ⊢; omega) hux hd hrr.2 w
      generalize xs.getD i 0 = x at *
      generalize qs.getD i 0 = z at *
      generalize (r * 18446744073709551616 + x) / d = t at *
      generalize (r * 18446744073709551616 + x) % d = r' at *
      have HS := Lib.hid hst
      have HR := Lib.hid hr
      have HD := Lib.hid D
      clear hst hr hz D g1 g2 g3 hux hrr hlq hj1 hj2
      go_wp2_with fail
      refine (HD.out _).mono ?_
      rintro e w' ⟨rfl, kk, rfl⟩
      have hr1 : Row 22 (wr.drewN kk) w.heap.size qs := HR.out
      have hb1 : Below w.heap.size w (wr.drewN kk) := Below.drewN' hb kk
      have hcell1 : (wr.drewN kk).cell? ⟨w.heap.size, i, none⟩ = some (.int .u64 z) := hcell
      have hfree1 : (wr.drewN kk).frozen? ⟨w.heap.size, i, none⟩ = false := hfree
      generalize wr.drewN kk = w1 at *
      have HR1 := Lib.hid hr1
      clear hcell hfree hac hr1
      go_wp2_with fail
      go_roundw
      case rel => exact ⟨i, _, _, _, by omega, by omega, by omega, rfl, rfl, HS.out, HR1.out.set i _, hb1.setCell (Nat.le_refl _) _⟩
      case measure => simp [intOf]

theorem quot_word {w : World} {A : Option Addr} {n c : Nat} {xs : List Int} (h : Sl w A n c xs) (hn : n ≤ 10000000) (d : Int) (hd : U d) (hd0 : 0 < d) :
    Calls Try.prog 93 #[.slice A n c, .int .u64 d] w (RetQW (val xs / d.toNat) (val xs % d.toNat : Nat) w) :=
  (quot_word_new h hn d hd hd0).mono fun _ _ ⟨A, n, c, he, hs, hb, _⟩ => ⟨A, n, c, he, hs, hb⟩

theorem quot_of_rem {q d r : Nat} (h : r < d) : (q * d + r) / d = q := by rw [Nat.mul_comm, Nat.mul_add_div (by omega), Nat.div_eq_of_lt h, Nat.add_zero]
/-- a call that returns a word that is at least t -/
def Est (t : Nat) (w : World) (e : Ending) (w' : World) : Prop := ∃ (q : Int) (k : Nat), e = .returned (.int .u64 q) ∧ U q ∧ t ≤ q.toNat ∧ w' = w.drewN k

set_option maxHeartbeats 1000000 in
theorem quot_estimate {w : World} {A A' : Option Addr} {n c c' : Nat} {ps vs : List Int} (h : Sl w A (n + 1) c ps) (h' : Sl w A' n c' vs) (hn : n ≤ 10000000) (hn1 : 1 ≤ n) (ht : val ps / val vs < W) :
    Calls Try.prog 106 #[.slice A (n + 1) c, .slice A' n c'] w (Est (val ps / val vs) w) := by
  obtain ⟨b, off, rfl, _, hc⟩ := h.at_ (k := 0) (by omega)
  obtain ⟨b', off', rfl, _, hc'⟩ := h'.at_ (k := 0) (by omega)
  have g1 := hc n (by omega)
  have g2 := hc (n - 1) (by omega)
  have g3 := hc' (n - 1) (by omega)
  have u1 := h.u n
  have u2 := h.u (n - 1)
  have u3 := h'.u (n - 1)
  have hest := est_ge h.len.symm (Dg_U h.us) h'.len.symm (Dg_U h'.us) hn1
  have i1 : ((n : Int) - 1).toNat = n - 1 := by omega
  generalize ps.getD n 0 = p1 at *
  generalize ps.getD (n - 1) 0 = p2 at *
  generalize vs.getD (n - 1) 0 = v1 at *
  obtain ⟨m, rfl⟩ : ∃ m, n = m + 1 := ⟨n - 1, by omega⟩
  rw [show m + 1 - 1 = m by omega] at *
  have HT := Lib.hid ht
  have HE := Lib.hid hest
  clear hc hc' ht hest i1
  by_cases hlt : p1 < v1
  · have D := fun w => limb_div_yes p1 p2 v1 u1 u2 u3 hlt w
    obtain ⟨d1, d2, d3⟩ := wd_digit u1.1 hlt u2
    have he := HE.out (by have := u1.1; omega)
    have hq : ((p1 * 18446744073709551616 + p2) / v1).toNat = (p1.toNat * W + p2.toNat) / v1.toNat := by
      rw [d3]
      exact (quot_of_rem (by omega)).symm
    rw [← hq] at he
    generalize (p1 * 18446744073709551616 + p2) / v1 = q at *
    generalize (p1 * 18446744073709551616 + p2) % v1 = r at *
    have HD := Lib.hid D
    have HQ := Lib.hid he
    clear D hq d2 d3 he
    go_enter Try.func106, Try.ntmps106
    go_wp2_with fail
    go_quiet ((go_at_call 105; exact Calls.quiet_of (HD.out _)))
    go_wp2_with fail
    go_ret
    exact ⟨q, _, rfl, d1, HQ.out, rfl⟩
  · have D := fun w => limb_div_no p1 p2 v1 (by omega) w
    have HD := Lib.hid D
    clear D
    go_enter Try.func106, Try.ntmps106
    go_wp2_with fail
    go_quiet ((go_at_call 105; exact quiet_eq (HD.out _)))
    go_wp2_with fail
    go_ret
    exact ⟨_, _, rfl, by unfold U; omega, by have := HT.out; unfold W at this; omega, rfl⟩

theorem spl_set (zs : List Int) (o k : Nat) (ho : o < zs.length) : spl (zs.set o 0) (o + 1) (List.replicate k 0) = spl zs o (List.replicate (k + 1) 0) := by
  unfold spl
  rw [List.take_succ_eq_append_getElem (by rw [List.length_set]; exact ho), List.getElem_set_self, List.take_set_of_le (Nat.le_refl _), List.drop_set_of_lt (by omega), List.replicate_succ, List.length_cons, List.length_replicate,
    show o + 1 + k = o + (k + 1) by omega]
  simp
theorem Row.zeros {t : TypeId} {g : Nat} (k : Nat) : ∀ {w : World} {zs : List Int} {o : Nat}, Row t w g zs → o + k ≤ zs.length → Row t (w.setCells g o (List.replicate k (.int .u64 0))) g (spl zs o (List.replicate k 0)) := by
  induction k with
  | zero => intro w zs o h hk; unfold spl; simpa [World.setCells] using h
  | succ k ih =>
    intro w zs o h hk
    rw [← spl_set zs o k (by omega)]
    exact ih (h.set o 0) (by rw [List.length_set]; omega)
theorem Keep.zeros {g : Nat} {a : World} (k : Nat) : ∀ {w : World} {o : Nat}, Keep g a w → Keep g a (w.setCells g o (List.replicate k (.int .u64 0))) := by
  induction k with
  | zero => intro w o h; exact h
  | succ k ih => intro w o h; exact ih (h.setCell o _)
theorem zeroW (w : World) : (zeroValue 22).run Try.prog w = .ok (.int .u64 0) w := by kernel_rfl
theorem replaced_spl {zs xs : List Int} {off L m : Nat} (hd : Dg W zs) (hx : Dg W xs) (hm : xs.length = m) (hml : m ≤ L) (hfit : off + L ≤ zs.length) :
    Replaced zs off L (val xs) (spl (spl zs off xs) (off + m) (List.replicate (L - m) 0)) := by
  have l1 : (spl zs off xs).length = zs.length := length_spl (by omega)
  have e1 : (spl zs off xs).take (off + m) = zs.take off ++ xs := by
    unfold spl
    rw [← List.append_assoc, List.take_append_of_le_length (by simp; omega), List.take_of_length_le (by simp; omega)]
  have e2 : (spl zs off xs).drop (off + L) = zs.drop (off + L) := by
    unfold spl
    rw [← List.append_assoc, List.drop_append, List.drop_eq_nil_of_le (by simp; omega), List.drop_drop]
    have hl : (List.take off zs ++ xs).length = off + m := by simp; omega
    rw [hl, hm, List.nil_append]
    congr 1
    omega
  have e3 : spl (spl zs off xs) (off + m) (List.replicate (L - m) 0) = zs.take off ++ (xs ++ List.replicate (L - m) 0) ++ zs.drop (off + L) := by
    rw [spl, e1, List.length_replicate, show off + m + (L - m) = off + L by omega, e2]
    simp [List.append_assoc]
  have l4 : (List.take off zs).length = off := by simp; omega
  have l5 : (xs ++ List.replicate (L - m) (0 : Int)).length = L := by simp; omega
  rw [e3]
  refine ⟨by simp; omega, ((hd.take _).append (hx.append (Dg.zeros W_pos _))).append (hd.drop _), ?_, ?_, ?_⟩
  · rw [List.append_assoc, List.take_append_of_le_length (by omega), List.take_of_length_le (by omega)]
  · rw [List.drop_append, List.drop_eq_nil_of_le (by rw [List.length_append, l4, l5]; omega), List.length_append, l4, l5]
    simp
  · rw [List.append_assoc, List.drop_append, List.drop_eq_nil_of_le (by omega), l4, Nat.sub_self, List.drop_zero, List.nil_append, List.take_append_of_le_length (by omega), List.take_of_length_le (by omega), valB_over]
    rfl

set_option maxHeartbeats 1000000 in
theorem quot_replace {w : World} {g off L C : Nat} {zs : List Int} {A : Option Addr} {m c : Nat} {xs : List Int} (hr : Row 22 w g zs) (hd : Dg W zs) (ha : SlN g w A m c xs) (hL : L ≤ 100000000) (hm : m < L) (hLC : L ≤ C) (hfit : off + L ≤ zs.length) :
    Calls Try.prog 109 #[.slice (some ⟨g, off, none⟩) L C, .slice A m c] w (Wrote 22 g (Replaced zs off L (val xs)) w) := by
  have hrep := replaced_spl hd (Dg_U ha.sl.us) ha.sl.len.symm (Nat.le_of_lt hm) hfit
  have HREP := Lib.hid hrep
  have HR := Lib.hid hr
  have HD := Lib.hid hd
  have HA := Lib.hid ha
  clear hrep hr hd ha
  have hne : ¬ (C = m) := by omega
  go_enter Try.func109, Try.ntmps109
  go_wp2_with (with_reducible refine wpList_copy_words rfl (.tmp 5) (.tmp 6) 37 37 rfl 22 Try.underlying37 sizeW g off L C A m c rfl rfl zs xs ?hr ?hsl ?hle ?hfit ?_)
  case hr => exact HR.out
  case hsl => exact HA.out.sl
  case hle => omega
  case hfit => omega
  intro w2 HR2 HK2
  have hl2 : (spl zs off xs).length = zs.length := length_spl (by have := HA.out.sl.len; omega)
  have hcl : ∀ ty, (Builtin.clear_ #[37] ty #[.slice (some ⟨g, off + m, none⟩) (L - m) (C - m)]).run Try.prog w2 = .ok (.tuple #[]) (w2.setCells g (off + m) (List.replicate (L - m) (.int .u64 0))) :=
    fun ty => Lib.run_clear_slice w2 37 22 ty (.int .u64 0) Try.underlying37 zeroW rfl rfl g (off + m) (L - m) (C - m) (by omega) (fun j hj => by rw [HR2.out.cell (by omega)]; rfl) (fun j hj => HR2.out.free _)
  have hz := Row.zeros (L - m) (o := off + m) HR2.out (by omega)
  have hk := Keep.zeros (L - m) (o := off + m) HK2.out
  generalize w2.setCells g (off + m) (List.replicate (L - m) (.int .u64 0)) = w3 at *
  have HZ := Lib.hid hz
  clear hz hl2
  go_wp2_with (simp only [hcl])
  go_end0
  exact ⟨_, rfl, HZ.out, hk, HREP.out⟩

end Go.Proofs.Yteedipcmhaiglaa
